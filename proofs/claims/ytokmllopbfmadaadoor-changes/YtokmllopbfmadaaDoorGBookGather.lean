import Derived.Test.YtokmllopbfmadaaDoorGLendB
import Derived.Test.YtokmllopbfmadaaDoorGSpreads
import Derived.Test.YtokmllopbfmadaaDoorGWGather
import Derived.Test.YtokmllopbfmadaaDoorGRefChangeNo
namespace Go.Proofs.YtokmllopbfmadaaDoor.Ref
open Go.RowKit Mem
theorem Wrote.hi_mono {lo hi : Nat} {w w' : World} (h : Wrote lo hi w w') {hi' : Nat} (hh : hi ≤ hi') : Wrote lo hi' w w' := by
  rcases h with h | ⟨S, h1, h2, h3⟩
  · exact .inl h
  · exact .inr ⟨S, h1, Nat.lt_of_lt_of_le h2 hh, h3⟩
end Go.Proofs.YtokmllopbfmadaaDoor.Ref
namespace Go.Proofs.YtokmllopbfmadaaDoor.Top
open Go.RowKit Mem FieldWalks Tab ByTab Parts Book Ref
open Gf (chosen left_ Fits enough)
open Plans (But)

/-- What a call of Gather answers: a text, and a list in a new block, or none. -/
def GAns (B : Nat) (er : Int) (str : ByteArray) (ss : List ByteArray) (e : Ending) (w' : World) : Prop :=
  (∃ b, B ≤ b ∧ e = .returned (.tuple #[.string str, .slice (some ⟨b, 0, none⟩) ss.length ss.length, .int .i64 er]) ∧ Blk w' b 9 (strV ss)) ∨ (ss = [] ∧ e = .returned (.tuple #[.string str, .slice none 0 0, .int .i64 er]))

/-- The program's Gather and the document's, at whatever is handed in. -/
theorem gather_both (hS : SumsOk) (d s x n : Int) (pieces : List ByteArray) (lost : List Int) (hpl : pieces.length < 2 ^ 62) (hll : lost.length < 2 ^ 62) (hsz : ∀ p, (h : p < pieces.length) → pieces[p].size < 2 ^ 62)
    (w0 : World) (pv0 lv0 : Value) (hp0 : StrsAt w0 pv0 pieces) (hl0 : IsC w0 lv0 lost) : ∃ str ss er, ss.length ≤ 16 ∧
    (∀ w pv lv, Table w → StrsAt w pv pieces → IsC w lv lost → Calls Tryd.prog 27 #[.int .i64 d, .int .i64 s, .int .i64 x, .int .i64 n, pv, lv] w fun e w' => GAns w.heap.size er str ss e w' ∧ Below w.heap.size w w') ∧
    (∀ w pv lv, StrsAt w pv pieces → IsC w lv lost → Calls Tryd.prog 63 #[.int .i64 d, .int .i64 s, .int .i64 x, .int .i64 n, pv, lv] w fun e w' => ∃ v, e = .returned (.tuple #[.string str, v, .int .i64 er]) ∧ StrsNew w' w.heap.size v ss ∧ Below w.heap.size w w') := by
  have no : ∀ k : Nat, 1 ≤ k → k ≤ 100 → (∀ w pv lv, StrsAt w pv pieces → IsC w lv lost → Calls Tryd.prog 59 #[.int .i64 d, .int .i64 s, .int .i64 x, .int .i64 n, pv, lv] w fun e w' => e = .returned (.int .i64 k) ∧ w' = w) →
      (∀ w pv lv, StrsAt w pv pieces → IsC w lv lost → Calls Tryd.prog 63 #[.int .i64 d, .int .i64 s, .int .i64 x, .int .i64 n, pv, lv] w fun e w' => GNo k e ∧ Below w.heap.size w w') →
      ∃ str ss er, ss.length ≤ 16 ∧
    (∀ w pv lv, Table w → StrsAt w pv pieces → IsC w lv lost → Calls Tryd.prog 27 #[.int .i64 d, .int .i64 s, .int .i64 x, .int .i64 n, pv, lv] w fun e w' => GAns w.heap.size er str ss e w' ∧ Below w.heap.size w w') ∧
    (∀ w pv lv, StrsAt w pv pieces → IsC w lv lost → Calls Tryd.prog 63 #[.int .i64 d, .int .i64 s, .int .i64 x, .int .i64 n, pv, lv] w fun e w' => ∃ v, e = .returned (.tuple #[.string str, v, .int .i64 er]) ∧ StrsNew w' w.heap.size v ss ∧ Below w.heap.size w w') := by
    intro k hk1 hk2 h1 h2
    refine ⟨ByteArray.empty, [], k, by simp, fun w pv lv _ hp hl => ?_, fun w pv lv hp hl => ?_⟩
    · refine (wGather_no pv lv w k hk1 hk2 d s x n (h1 w pv lv hp hl)).mono ?_
      rintro e w' ⟨he, rfl⟩
      exact ⟨.inr ⟨rfl, he⟩, Below.refl _ _⟩
    · refine (h2 w pv lv hp hl).mono ?_
      rintro e w' ⟨he, hb⟩
      exact ⟨_, he, ⟨none, 0, rfl, .inl rfl⟩, hb⟩
  cases h1 : okCounts d s
  · refine no 3 (by omega) (by omega) (fun w pv lv _ _ => gFault_count pv lv w d s x n h1) (fun w pv lv _ _ => (rGather_count d s x n pv lv h1 w).mono ?_)
    rintro e w' ⟨he, rfl⟩
    exact ⟨he, Below.refl _ _⟩
  cases h2 : okWay x
  · refine no 4 (by omega) (by omega) (fun w pv lv _ _ => gFault_way pv lv w d s x n h1 h2) (fun w pv lv _ _ => (rGather_way d s x n pv lv h1 h2 w).mono ?_)
    rintro e w' ⟨he, rfl⟩
    exact ⟨he, Below.refl _ _⟩
  by_cases h3 : 0 ≤ n ∧ n ≤ 400
  · have h1' := of_decide_eq_true h1
    have h2' := of_decide_eq_true h2
    obtain ⟨d, rfl⟩ := Int.eq_ofNat_of_zero_le (show 0 ≤ d by omega)
    obtain ⟨s, rfl⟩ := Int.eq_ofNat_of_zero_le (show 0 ≤ s by omega)
    obtain ⟨x, rfl⟩ := Int.eq_ofNat_of_zero_le (show 0 ≤ x by omega)
    obtain ⟨n, rfl⟩ := Int.eq_ofNat_of_zero_le (show 0 ≤ n by omega)
    by_cases h4 : ShapeOk d s ((n + d - 1) / d) pieces lost
    · have hF := fun w pv lv hp hl => gFault_rest pv lv w d s x n pieces lost hp hl hll hpl (by omega) (by omega) (by omega) (by omega) (by omega) hsz true ⟨fun _ => h4, fun _ => rfl⟩
      by_cases h5 : s < lost.length
      · refine no 7 (by omega) (by omega) (fun w pv lv hp hl => ?_) (fun w pv lv hp hl => (rGather_few d s x n pieces lost pv lv w hp hl hll hpl (by omega) (by omega) (by omega) (by omega) (by omega) hsz h4 h5).mono ?_)
        · have := hF w pv lv hp hl
          rwa [if_pos rfl, if_pos h5] at this
        · rintro e w' ⟨he, hd⟩
          exact ⟨he, hd.below⟩
      · obtain ⟨ps, hfit⟩ : ∃ ps, Fits d ((n + d - 1) / d) (chosen (left_ lost) d s) (fun p => nums (pieces.getD p ByteArray.empty)) ps := by
          obtain ⟨_, _, _, ⟨_, ps, _, h, _⟩, _⟩ := rGather_ok d s x n _ pieces lost pv0 lv0 w0 hp0 hl0 (by omega) (by omega) (by omega) (by omega) (by omega) rfl hsz h4 (by omega) []
          exact ⟨ps, h⟩
        have htl : (texts ps (sums (facs d s) ps ((n + d - 1) / d))).length = d + s := by simp [texts, sums, facs, hfit.len]
        refine ⟨mkS (ps.flatten.take n), texts ps (sums (facs d s) ps ((n + d - 1) / d)), 0, by rw [htl]; omega, fun w pv lv ht hp hl => ?_, fun w pv lv hp hl => ?_⟩
        · refine (wGather_ok pv lv w hS d s x n _ pieces lost ps ht hp hl (by omega) (by omega) (by omega) (by omega) (by omega) rfl hsz h4 (by omega) hfit).mono ?_
          rintro e w' ⟨b, hb, rfl, hblk, hbel⟩
          exact ⟨.inl ⟨b, hb, by rw [htl], hblk⟩, hbel⟩
        · refine (rGather_ok d s x n _ pieces lost pv lv w hp hl (by omega) (by omega) (by omega) (by omega) (by omega) rfl hsz h4 (by omega)).mono ?_
          rintro e w' ⟨v, ps', rfl, hfit', hst, hb⟩
          obtain rfl : ps' = ps := Fits.sole (by omega) (enough d s lost (by omega)) hfit' hfit
          exact ⟨v, rfl, hst, hb⟩
    · have hF := fun w pv lv hp hl => gFault_rest pv lv w d s x n pieces lost hp hl hll hpl (by omega) (by omega) (by omega) (by omega) (by omega) hsz false ⟨fun h => (by cases h), fun h => absurd h h4⟩
      refine no 6 (by omega) (by omega) (fun w pv lv hp hl => ?_) (fun w pv lv hp hl => (rGather_shape d s x n pieces lost pv lv w hp hl hll hpl (by omega) (by omega) (by omega) (by omega) (by omega) hsz h4).mono ?_)
      · have := hF w pv lv hp hl
        rwa [if_neg (by decide)] at this
      · rintro e w' ⟨he, hd⟩
        exact ⟨he, hd.below⟩
  · refine no 5 (by omega) (by omega) (fun w pv lv _ _ => gFault_long pv lv w d s x n h1 h2 h3) (fun w pv lv _ _ => (rGather_long d s x n pv lv h1 h2 h3 w).mono ?_)
    rintro e w' ⟨he, rfl⟩
    exact ⟨he, Below.refl _ _⟩

set_option maxRecDepth 100000 in
set_option maxHeartbeats 1000000 in
theorem bgather_any (hS : SumsOk) (B b c : Nat) (d s x n : Int) (pieces : List ByteArray) (lost : List Int) (pv lv : Value) (w : World) (ht : Table w) (hbook : BookAt w B b c w.heap.size) (hc : c ≤ 8)
    (hp : CameT w pv pieces.length) (hst : StrsAt w pv pieces) (hpl : pieces.length ≤ 8796093022204) (hsz : ∀ p, (h : p < pieces.length) → pieces[p].size < 2 ^ 62) (hlc : CameT w lv lost.length) (hli : IsC w lv lost) (hll : lost.length ≤ 17592186044412) :
    Calls Tryd.prog 28 #[.pointer (some ⟨b, 0, none⟩), .int .i64 d, .int .i64 s, .int .i64 x, .int .i64 n, pv, lv] w fun e w' => e = .returned (.bool true) ∧ BookAt w' B b (c + 1) w'.heap.size ∧ Below B w w' := by
  obtain ⟨str, ss, er, hss, h1, h2⟩ := gather_both hS d s x n pieces lost (by omega) (by omega) hsz w pv lv hst hli
  have H1 : Hid _ := h1
  have H2 : Hid _ := h2
  have hle := lendT_both pieces pv w hp hst hpl
  have HLE : Hid _ := hle
  have HB : Hid (BookAt w B b c w.heap.size) := hbook
  have hBb := hbook.1
  have hblt : b < w.heap.size := by obtain ⟨_, kv, es, _, h, _⟩ := hbook; exact h.lt
  have HST : Hid (StrsAt w pv pieces) := hst
  have HLI : Hid (IsC w lv lost) := hli
  have HLC : Hid (CameT w lv lost.length) := hlc
  clear hbook h1 h2 hle hst hsz hli hlc
  go_enter Tryd.func28, Tryd.ntmps28
  go_wp2_with fail
  refine Calls.mono HLE.out ?_
  rintro e w1 ⟨p, rfl, hst1, hb1, hwh⟩
  have HWH : Hid _ := hwh
  have HST1 : Hid (StrsAt w1 p pieces) := hst1
  have hlI := lendI_both lost lv w1 (HLC.out.to hb1.size) (HLI.out.to hb1) hll
  have HLIB : Hid _ := hlI
  clear HLE hwh hst1 hlI
  go_wp2_with fail
  refine Calls.mono HLIB.out ?_
  rintro e w1b ⟨q, rfl, hiq, hb1b, hwhI⟩
  have HWHI : Hid _ := hwhI
  have hb01b := hb1.trans (hb1b.mono hb1.size)
  have hc1 := H1.out w1b p q (table_to ht hb01b) (HST1.out.to hb1b) hiq
  have HC1 : Hid _ := hc1
  clear hwhI hiq hc1 HLIB
  go_wp2_with fail
  refine Calls.mono HC1.out ?_
  rintro e w2 ⟨hans, hb2⟩
  clear HC1
  have hb02 := hb01b.trans (hb2.mono hb01b.size)
  have hc2 := H2.out w2 pv lv (HST.out.to hb02) (HLI.out.to hb02)
  have HC2 : Hid _ := hc2
  clear hc2
  obtain ⟨lv2, lo, rfl, hlo, hans⟩ : ∃ lv2 lo, e = .returned (.tuple #[.string str, lv2, .int .i64 er]) ∧ lv2 = .slice lo ss.length ss.length ∧ ((ss = [] ∧ lo = none) ∨ ∃ lb, w1b.heap.size ≤ lb ∧ lo = some ⟨lb, 0, none⟩ ∧ Blk w2 lb 9 (strV ss)) := by
    rcases hans with ⟨lb, h1, h2, h3⟩ | ⟨h1, h2⟩
    · exact ⟨_, _, h2, rfl, .inr ⟨lb, h1, rfl, h3⟩⟩
    · exact ⟨_, none, h2, by rw [h1]; rfl, .inl ⟨h1, rfl⟩⟩
  have HANS : Hid _ := hans
  subst hlo
  clear hans
  go_wp2_with fail
  refine Calls.mono HC2.out ?_
  rintro e w3 ⟨mv, rfl, hnew, hb3⟩
  clear HC2
  have hb1b3 := hb2.trans (hb3.mono hb2.size)
  have hb13 := hb1b.trans (hb1b3.mono hb1b.size)
  have hw3 := HWH.out w3 hb13
  have HNEW : Hid (StrsNew w3 w1b.heap.size mv ss) := hnew.low hb2.size
  have hb03 := hb02.trans (hb3.mono hb02.size)
  clear hnew
  go_wp2_with fail
  refine Calls.mono hw3 ?_
  rintro e w4 ⟨rfl, hwr⟩
  clear hw3
  have hb04 : Below w.heap.size w w4 := hwr.below hb03 hb03.size (Nat.le_refl _)
  have hw4 := HWHI.out w4 (HLI.out.to hb04) (fun g t vs hg1 hg2 hgb => hwr.blk (hgb.to hb1b3) hg2)
  have HW4 : Hid _ := hw4
  have HNEW4 : Hid (StrsNew w4 w1b.heap.size mv ss) := (Wrote.hi_mono hwr hb1b.size).strs HNEW.out
  have HANS4 : Hid ((ss = [] ∧ lo = none) ∨ ∃ lb, w1b.heap.size ≤ lb ∧ lo = some ⟨lb, 0, none⟩ ∧ Blk w4 lb 9 (strV ss)) := by
    rcases HANS.out with h | ⟨lb, h1, h2, h3⟩
    · exact .inl h
    · exact .inr ⟨lb, h1, h2, hwr.blk (h3.to hb3) (Nat.le_trans hb1b.size h1)⟩
  have HB04 : Hid (Below w.heap.size w w4) := hb04
  have hsz1 := hb1.size
  have hsz1b := hb1b.size
  clear hw4 hwr HNEW HANS hb04 hb03 hb13 hb1b3 hb02 hb2 hb3
  go_wp2_with fail
  refine Calls.mono HW4.out ?_
  rintro e w4b ⟨rfl, hwr⟩
  have hst4 : StrsAt w4b mv ss := (hwr.strs HNEW4.out).at
  have hb04 : Below w.heap.size w w4b := hwr.below HB04.out HB04.out.size hsz1
  have hblk4 : (ss = [] ∧ lo = none) ∨ ∃ lb, w1b.heap.size ≤ lb ∧ lo = some ⟨lb, 0, none⟩ ∧ Blk w4b lb 9 (strV ss) := by
    rcases HANS4.out with h | ⟨lb, h1, h2, h3⟩
    · exact .inl h
    · exact .inr ⟨lb, h1, h2, hwr.blk h3 h1⟩
  have hst5 : StrsAt w4b (.slice lo ss.length ss.length) ss := by
    rcases hblk4 with ⟨h1, rfl⟩ | ⟨lb, h1, rfl, h3⟩
    · exact ⟨none, _, rfl, .inl h1⟩
    · exact StrsAt.of_blk h3 _ _ rfl
  have hsame := sameT_yes ss _ _ _ hst5 hst4 (by omega)
  have HBK4 : Hid _ := hblk4
  have HB04b : Hid (Below w.heap.size w w4b) := hb04
  clear hst4 hst5 hblk4 hwr HNEW4 HANS4 hb04 HW4
  go_wp2_with fail
  refine Calls.mono hsame ?_
  rintro e w5 ⟨rfl, nq, rfl⟩
  clear hsame
  have hb5 : Below w.heap.size w (w4b.drewN nq) := below_drewN HB04b.out nq
  have hB : B ≤ w.heap.size := by omega
  have htx : Calls Tryd.prog 24 #[.pointer (some ⟨b, 0, none⟩), .slice lo ss.length ss.length] (w4b.drewN nq) fun e w' => e = .returned (.tuple #[]) ∧ BookAt w' B b (c + 1) w'.heap.size ∧ Below B (w4b.drewN nq) w' := by
    rcases HBK4.out with ⟨h1, rfl⟩ | ⟨lb, h1, rfl, h3⟩
    · have := texts_any B b c w.heap.size ss.length none [] (w4b.drewN nq) (HB.out.to hb5) hc (by omega) hB (by simp [h1]) (.inl ⟨by simp [h1], rfl⟩)
      exact this
    · exact texts_any B b c lb ss.length (some ⟨lb, 0, none⟩) (strV ss) (w4b.drewN nq) ((HB.out.to hb5).mono (by omega)) hc (by omega) (by omega) (by simp [strV]) (.inr ⟨rfl, h3⟩)
  clear HBK4
  go_wp2_with fail
  refine Calls.mono htx ?_
  rintro e w6 ⟨rfl, hbk6, hb6⟩
  have hb06 := (hb5.mono hB).trans hb6
  clear htx
  go_wp2_with fail
  refine (num_any _ _).mono ?_
  rintro e w' ⟨rfl, rfl⟩
  go_wp2
  go_ret
  exact ⟨rfl, hbk6, hb06⟩
end Go.Proofs.YtokmllopbfmadaaDoor.Top

namespace Go.Proofs.YtokmllopbfmadaaDoor.Top
open Go.RowKit Mem FieldWalks Tab ByTab Parts Book Ref
open Gf (chosen left_ Fits)
open Plans (rowF)

theorem gather_ex_chosen : chosen (left_ [0]) 1 1 = [1] := by decide +kernel
theorem gather_ex_fit : Fits 1 2 (chosen (left_ [0]) 1 1) (fun p => nums (([⟨#[63, 63]⟩, ⟨#[97, 98]⟩] : List ByteArray).getD p ByteArray.empty)) [[97, 98]] := by
  refine ⟨rfl, fun j hj => ?_, fun j hj => ?_, fun p hp t ht => ?_⟩
  · match j, hj with
    | 0, _ => rfl
  · match j, hj with
    | 0, _ => intro x hx; simp at hx; omega
  · rw [gather_ex_chosen] at hp
    obtain rfl : p = 1 := by simpa using hp
    match t, ht with
    | 0, _ => decide +kernel
    | 1, _ => decide +kernel
theorem gather_ex_shape : ShapeOk 1 1 2 [⟨#[63, 63]⟩, ⟨#[97, 98]⟩] [0] := by
  refine ⟨rfl, fun k hk => ?_, fun p hp _ => ?_⟩
  · match k, hk with
    | 0, _ => simp
  · match p, hp with
    | 0, _ => rfl
    | 1, _ => rfl
theorem gather_ex_sizes : ∀ p, (h : p < ([⟨#[63, 63]⟩, ⟨#[97, 98]⟩] : List ByteArray).length) → ([⟨#[63, 63]⟩, ⟨#[97, 98]⟩] : List ByteArray)[p].size < 2 ^ 62 := fun p h => by
  match p, h with
  | 0, _ => exact (show (⟨#[63, 63]⟩ : ByteArray).size < 2 ^ 62 by decide)
  | 1, _ => exact (show (⟨#[97, 98]⟩ : ByteArray).size < 2 ^ 62 by decide)
theorem gather_ex_texts : texts [[97, 98]] (sums (facs 1 1) [[97, 98]] 2) = [⟨#[97, 98]⟩, ⟨#[97, 98]⟩] := by decide +kernel
theorem gather_ex_str : mkS (([[97, 98]] : List (List Nat)).flatten.take 2) = ⟨#[97, 98]⟩ := by decide +kernel

set_option maxRecDepth 100000 in
set_option maxHeartbeats 1000000 in
theorem gathers_any (hS : SumsOk) (d s x n : Int) (pieces : List ByteArray) (lost : List Int) (pv lv : Value) (w : World) (ht : Table w) (h0 : 0 < w.heap.size)
    (hp : CameT w pv pieces.length) (hst : StrsAt w pv pieces) (hpl : pieces.length ≤ 8796093022204) (hsz : ∀ p, (h : p < pieces.length) → pieces[p].size < 2 ^ 62) (hlc : CameT w lv lost.length) (hli : IsC w lv lost) (hll : lost.length ≤ 17592186044412) :
    Calls Tryd.prog 6 #[.int .i64 d, .int .i64 s, .int .i64 x, .int .i64 n, pv, lv] w fun e w' => e = .returned (.bool true) ∧ Below w.heap.size w w' := by
  have HH : Hid (CameT w pv pieces.length ∧ StrsAt w pv pieces ∧ pieces.length ≤ 8796093022204 ∧ (∀ p, (h : p < pieces.length) → pieces[p].size < 2 ^ 62) ∧ CameT w lv lost.length ∧ IsC w lv lost ∧ lost.length ≤ 17592186044412) := ⟨hp, hst, hpl, hsz, hlc, hli, hll⟩
  clear hp hst hpl hsz hlc hli hll
  obtain ⟨wb, hwb⟩ : ∃ wb, wb = w.alloc (.cells #[.int .i64 0, .slice none 0 0] 37) := ⟨_, rfl⟩
  have hb0 : BookAt wb w.heap.size w.heap.size 0 wb.heap.size := by rw [hwb]; exact BookAt.start w _ (Nat.le_refl _) _
  have hw0 : Below w.heap.size w wb := by rw [hwb]; exact below_alloc w _
  have hwbs : wb.heap.size = w.heap.size + 1 := by rw [hwb]; simp
  obtain ⟨wk, hwk⟩ : ∃ wk, wk = wb.alloc (.cells #[.string ⟨#[63, 63]⟩, .string ⟨#[97, 98]⟩] 9) := ⟨_, rfl⟩
  have hbk : Below wb.heap.size wb wk := by rw [hwk]; exact below_alloc wb _
  have hstk : StrsAt wk (.slice (some ⟨wb.heap.size, 0, none⟩) 2 2) [⟨#[63, 63]⟩, ⟨#[97, 98]⟩] := by rw [hwk]; exact StrsAt.of_blk (Blk.new wb _ _) 2 2 rfl
  have hwks : wk.heap.size = w.heap.size + 1 + 1 := by rw [hwk]; simp [hwbs]
  obtain ⟨wl, hwl⟩ : ∃ wl, wl = wk.alloc (.cells #[.int .i64 0] 3) := ⟨_, rfl⟩
  have hbl0 : Below wk.heap.size wk wl := by rw [hwl]; exact below_alloc wk _
  have hbl : Below wb.heap.size wb wl := hbk.trans (hbl0.mono hbk.size)
  have hstl := hstk.to hbl0
  have hil : IsC wl (.slice (some ⟨wk.heap.size, 0, none⟩) 1 1) [0] := by
    refine ⟨_, 0, rfl, .inr ⟨wk.heap.size, 0, rfl, by rw [hwl]; exact (Blk.new wk _ _).lt, fun k hk => ?_⟩⟩
    obtain rfl : k = 0 := by simp at hk; omega
    rw [hwl]; exact (Blk.new wk _ _).cell_some rfl
  have hex := wGather_ok (.slice (some ⟨wb.heap.size, 0, none⟩) 2 2) (.slice (some ⟨wk.heap.size, 0, none⟩) 1 1) wl hS 1 1 0 2 2 [⟨#[63, 63]⟩, ⟨#[97, 98]⟩] [0] [[97, 98]] (table_to (table_to ht hw0) hbl) hstl hil (by omega) (by omega) (by omega) (by omega) (by omega) (by decide)
    gather_ex_sizes gather_ex_shape (by decide) gather_ex_fit
  rw [gather_ex_texts, gather_ex_str] at hex
  have HEX : Hid _ := hex
  have HB0 : Hid (BookAt wb w.heap.size w.heap.size 0 wb.heap.size) := hb0
  have HW0 : Hid (Below w.heap.size w wb) := hw0
  have HBLW : Hid (Below wb.heap.size wb wl) := hbl
  have HT : Hid (Table w) := ht
  have HWL : Hid (((w.alloc (.cells #[.int .i64 0, .slice none 0 0] 37)).alloc (.cells #[.string ⟨#[63, 63]⟩, .string ⟨#[97, 98]⟩] 9)).alloc (.cells #[.int .i64 0] 3) = wl) := by show _ = _; rw [hwl, hwk, hwb]
  have HWBS : Hid (wb.heap.size = w.heap.size + 1) := hwbs
  have hwbs2 : w.heap.size + 1 ≤ wb.heap.size := by omega
  rw [hwbs, hwks] at HEX
  clear hb0 hw0 hbl hstl hex ht hwl hwb hwbs hwk hbk hstk hwks hbl0 hil
  go_enter Tryd.func6, Tryd.ntmps6
  go_wp2_with fail
  rw [HWL.out]
  refine Calls.mono HEX.out ?_
  rintro e w1 ⟨lb, hlb, rfl, hblk, hb1⟩
  have hbk1 := (HB0.out.to HBLW.out).to hb1
  have hb01 := (HW0.out.trans (HBLW.out.mono (by omega))).trans (hb1.mono (by have := HBLW.out.size; omega))
  have hlb' : wb.heap.size ≤ lb := Nat.le_trans HBLW.out.size hlb
  have hbA : Below w1.heap.size w1 (w1.alloc (.cells #[.string ⟨#[97, 98]⟩, .string ⟨#[97, 98]⟩] 9)) := below_alloc w1 _
  have hsA : StrsAt (w1.alloc (.cells #[.string ⟨#[97, 98]⟩, .string ⟨#[97, 98]⟩] 9)) (.slice (some ⟨lb, 0, none⟩) 2 2) [⟨#[97, 98]⟩, ⟨#[97, 98]⟩] := (StrsAt.of_blk (w := w1) hblk 2 2 rfl).to hbA
  have hsB : StrsAt (w1.alloc (.cells #[.string ⟨#[97, 98]⟩, .string ⟨#[97, 98]⟩] 9)) (.slice (some ⟨w1.heap.size, 0, none⟩) 2 2) [⟨#[97, 98]⟩, ⟨#[97, 98]⟩] := StrsAt.of_blk (Blk.new w1 _ _) 2 2 rfl
  have hsame := sameT_yes [⟨#[97, 98]⟩, ⟨#[97, 98]⟩] _ _ _ hsA hsB (by decide)
  have HBA : Hid (Below w1.heap.size w1 (w1.alloc (.cells #[.string ⟨#[97, 98]⟩, .string ⟨#[97, 98]⟩] 9))) := hbA
  have HBL : Hid (Blk w1 lb 9 (strV [⟨#[97, 98]⟩, ⟨#[97, 98]⟩])) := hblk
  have HBK : Hid (BookAt w1 w.heap.size w.heap.size 0 wb.heap.size) := hbk1
  clear hsA hsB hbA hblk hbk1 hlb
  go_wp2_with fail
  refine Calls.mono hsame ?_
  rintro e w2 ⟨rfl, nq, rfl⟩
  clear hsame
  have hb12 : Below w1.heap.size w1 ((w1.alloc (.cells #[.string ⟨#[97, 98]⟩, .string ⟨#[97, 98]⟩] 9)).drewN nq) := below_drewN HBA.out nq
  have hblk2 := HBL.out.to hb12
  have hbk2 := HBK.out.to hb12
  have hb02 := hb01.trans (hb12.mono hb01.size)
  generalize (w1.alloc (.cells #[.string ⟨#[97, 98]⟩, .string ⟨#[97, 98]⟩] 9)).drewN nq = w2 at *
  clear hb12
  go_wp2_with fail
  refine (num_any _ _).mono ?_
  rintro e w' ⟨rfl, rfl⟩
  have htx := texts_any w.heap.size w.heap.size 0 lb 2 (some ⟨lb, 0, none⟩) _ w' (hbk2.mono (M := lb) hlb') (by omega) (by omega) (by omega) rfl (.inr ⟨rfl, hblk2⟩)
  clear hbk2 hblk2
  go_wp2_with fail
  refine Calls.mono htx ?_
  rintro e w3 ⟨rfl, hbk3, hb3⟩
  have hb03 := hb02.trans hb3
  clear htx
  have hT3 := table_below HT.out hb03 h0
  have hs1 := bgather_any hS w.heap.size w.heap.size 1 d s x n pieces lost pv lv w3 hT3 hbk3 (by omega) (HH.out.1.to hb03.size) (HH.out.2.1.to hb03) HH.out.2.2.1 HH.out.2.2.2.1 (HH.out.2.2.2.2.1.to hb03.size) (HH.out.2.2.2.2.2.1.to hb03) HH.out.2.2.2.2.2.2
  clear hbk3
  go_wp2_with fail
  refine Calls.mono hs1 ?_
  rintro e w4 ⟨rfl, hbk4, hb4⟩
  have hb04 := hb03.trans hb4
  clear hs1 hT3
  have hT4 := table_below HT.out hb04 h0
  have hs2 := bgather_any hS w.heap.size w.heap.size 2 d s x n pieces lost pv lv w4 hT4 hbk4 (by omega) (HH.out.1.to hb04.size) (HH.out.2.1.to hb04) HH.out.2.2.1 HH.out.2.2.2.1 (HH.out.2.2.2.2.1.to hb04.size) (HH.out.2.2.2.2.2.1.to hb04) HH.out.2.2.2.2.2.2
  clear hbk4
  go_wp2_with fail
  refine Calls.mono hs2 ?_
  rintro e w5 ⟨rfl, hbk5, hb5⟩
  have hb05 := hb04.trans hb5
  clear hs2 hT4
  have hlk := looks_any _ _ _ _ w5 hbk5 (by omega)
  clear hbk5
  go_wp2_with fail
  refine Calls.mono hlk ?_
  rintro e w6 ⟨rfl, hb6⟩
  have hb06 := hb05.trans (hb6.mono hb05.size)
  clear hlk
  go_wp2
  go_ret
  exact ⟨rfl, hb06⟩
end Go.Proofs.YtokmllopbfmadaaDoor.Top

namespace Go.Proofs.YtokmllopbfmadaaDoor.Top
open Go.RowKit Mem FieldWalks Tab ByTab Parts Book Ref
open Gf (newP)
open Plans (rowF But)

/-- What a call of the program answers: a list in a new block, or none. -/
def PAns (B : Nat) (er : Int) (ss : List ByteArray) (e : Ending) (w' : World) : Prop :=
  (∃ b, B ≤ b ∧ e = .returned (.tuple #[.slice (some ⟨b, 0, none⟩) ss.length ss.length, .int .i64 er]) ∧ Blk w' b 9 (strV ss)) ∨ (ss = [] ∧ e = .returned (.tuple #[.slice none 0 0, .int .i64 er]))

/-- The program's Change and the document's, at whatever is handed in. -/
theorem change_both (d s n a : Int) (pieces : List ByteArray) (text : ByteArray) (hpl : pieces.length < 2 ^ 62) (hsz : ∀ p, (h : p < pieces.length) → pieces[p].size < 2 ^ 62) (hlen : text.size ≤ maxLen)
    (ha1 : -(2 : Int) ^ 63 ≤ a) (ha2 : a < (2 : Int) ^ 63) : ∃ ss er, ss.length ≤ 16 ∧
    (∀ w pv, Table w → StrsAt w pv pieces → Calls Tryd.prog 29 #[.int .i64 d, .int .i64 s, .int .i64 n, pv, .int .i64 a, .string text] w fun e w' => PAns w.heap.size er ss e w' ∧ Below w.heap.size w w') ∧
    (∀ w pv, StrsAt w pv pieces → Calls Tryd.prog 68 #[.int .i64 d, .int .i64 s, .int .i64 n, pv, .int .i64 a, .string text] w fun e w' => ∃ v, e = .returned (.tuple #[v, .int .i64 er]) ∧ StrsNew w' w.heap.size v ss ∧ Below w.heap.size w w') := by
  have nil : ∀ (w : World) (B : Nat), StrsNew w B (.slice none 0 0) [] := fun w _ => ⟨none, 0, rfl, .inl rfl⟩
  have no : ∀ k : Nat, 1 ≤ k → k ≤ 100 → (∀ w pv, StrsAt w pv pieces → Calls Tryd.prog 66 #[.int .i64 d, .int .i64 s, .int .i64 n, pv, .int .i64 a, .string text] w fun e w' => e = .returned (.int .i64 k) ∧ w' = w) →
      (∀ w pv, StrsAt w pv pieces → Calls Tryd.prog 68 #[.int .i64 d, .int .i64 s, .int .i64 n, pv, .int .i64 a, .string text] w fun e w' => CNo k e ∧ Below w.heap.size w w') →
      ∃ ss er, ss.length ≤ 16 ∧
    (∀ w pv, Table w → StrsAt w pv pieces → Calls Tryd.prog 29 #[.int .i64 d, .int .i64 s, .int .i64 n, pv, .int .i64 a, .string text] w fun e w' => PAns w.heap.size er ss e w' ∧ Below w.heap.size w w') ∧
    (∀ w pv, StrsAt w pv pieces → Calls Tryd.prog 68 #[.int .i64 d, .int .i64 s, .int .i64 n, pv, .int .i64 a, .string text] w fun e w' => ∃ v, e = .returned (.tuple #[v, .int .i64 er]) ∧ StrsNew w' w.heap.size v ss ∧ Below w.heap.size w w') := by
    intro k hk1 hk2 h1 h2
    refine ⟨[], k, by simp, fun w pv _ hp => ?_, fun w pv hp => ?_⟩
    · refine (wChange_no pv text w k hk1 hk2 d s n a (h1 w pv hp)).mono ?_
      rintro e w' ⟨he, rfl⟩
      exact ⟨.inr ⟨rfl, he⟩, Below.refl _ _⟩
    · refine (h2 w pv hp).mono ?_
      rintro e w' ⟨he, hb⟩
      exact ⟨_, he, nil w' _, hb⟩
  cases h1 : okCounts d s
  · refine no 3 (by omega) (by omega) (fun w pv _ => cFault_count pv text w d s n a h1) (fun w pv _ => (rChange_count d s n a pv text h1 w).mono ?_)
    rintro e w' ⟨he, rfl⟩
    exact ⟨he, Below.refl _ _⟩
  by_cases h2 : 0 ≤ n ∧ n ≤ 400
  · have h1' := of_decide_eq_true h1
    obtain ⟨d, rfl⟩ := Int.eq_ofNat_of_zero_le (show 0 ≤ d by omega)
    obtain ⟨s, rfl⟩ := Int.eq_ofNat_of_zero_le (show 0 ≤ s by omega)
    obtain ⟨n, rfl⟩ := Int.eq_ofNat_of_zero_le (show 0 ≤ n by omega)
    by_cases h3 : ShapeOk d s ((n + d - 1) / d) pieces []
    · by_cases h4 : 0 ≤ a ∧ a + text.size ≤ n
      · obtain ⟨a, rfl⟩ := Int.eq_ofNat_of_zero_le (show 0 ≤ a by omega)
        refine ⟨(List.range (d + s)).map fun p => mkS (rowF ((n + d - 1) / d) (newP d ((n + d - 1) / d) a (nums text) text.size (oldOf pieces) p)), 0, by simp; omega, fun w pv ht hp => ?_, fun w pv hp => ?_⟩
        · refine (wChange_ok pv text w d s n a _ pieces ht hp (by omega) (by omega) (by omega) (by omega) rfl hsz h3 (by omega)).mono ?_
          rintro e w' ⟨b, hb, rfl, hblk, hbel⟩
          refine ⟨.inl ⟨b, hb, by simp, hblk⟩, hbel⟩
        · exact rChange_ok d s n a _ pieces text pv w hp (by omega) (by omega) (by omega) (by omega) rfl hsz h3 (by omega)
      · refine no 8 (by omega) (by omega) (fun w pv hp => ?_) (fun w pv hp => (rChange_range d s n a pieces pv text w hp hpl (by omega) (by omega) (by omega) (by omega) hsz ha1 ha2 h3 h4).mono ?_)
        · have := cFault_range pv text w d s n a pieces hp (by omega) (by omega) (by omega) (by omega) hsz (by omega) hlen h3
          rwa [show okWithin n a text.size = false by simp [okWithin]; omega, if_neg (by decide)] at this
        · rintro e w' ⟨he, hd⟩
          exact ⟨he, hd.below⟩
    · refine no 6 (by omega) (by omega) (fun w pv hp => cFault_shape pv text w d s n a pieces hp hpl (by omega) (by omega) (by omega) (by omega) hsz h3) (fun w pv hp => (rChange_shape d s n a pieces pv text w hp hpl (by omega) (by omega) (by omega) (by omega) hsz h3).mono ?_)
      rintro e w' ⟨he, hd⟩
      exact ⟨he, hd.below⟩
  · refine no 5 (by omega) (by omega) (fun w pv _ => cFault_long pv text w d s n a h1 h2) (fun w pv _ => (rChange_long d s n a pv text h1 h2 w).mono ?_)
    rintro e w' ⟨he, rfl⟩
    exact ⟨he, Below.refl _ _⟩

set_option maxRecDepth 100000 in
set_option maxHeartbeats 1000000 in
theorem bchange_any (B b c : Nat) (d s n a : Int) (pieces : List ByteArray) (text : ByteArray) (pv : Value) (w : World) (ht : Table w) (hbook : BookAt w B b c w.heap.size) (hc : c ≤ 8)
    (hp : CameT w pv pieces.length) (hst : StrsAt w pv pieces) (hpl : pieces.length ≤ 8796093022204) (hsz : ∀ p, (h : p < pieces.length) → pieces[p].size < 2 ^ 62) (hlen : text.size ≤ maxLen)
    (ha1 : -(2 : Int) ^ 63 ≤ a) (ha2 : a < (2 : Int) ^ 63) :
    Calls Tryd.prog 30 #[.pointer (some ⟨b, 0, none⟩), .int .i64 d, .int .i64 s, .int .i64 n, pv, .int .i64 a, .string text] w fun e w' => e = .returned (.bool true) ∧ BookAt w' B b (c + 1) w'.heap.size ∧ Below B w w' := by
  obtain ⟨ss, er, hss, h1, h2⟩ := change_both d s n a pieces text (by omega) hsz hlen ha1 ha2
  have H1 : Hid _ := h1
  have H2 : Hid _ := h2
  have hle := lendT_both pieces pv w hp hst hpl
  have HLE : Hid _ := hle
  have HB : Hid (BookAt w B b c w.heap.size) := hbook
  have hBb := hbook.1
  have hblt : b < w.heap.size := by obtain ⟨_, kv, es, _, h, _⟩ := hbook; exact h.lt
  have HST : Hid (StrsAt w pv pieces) := hst
  clear hbook h1 h2 hle hst hsz hlen ha1 ha2
  go_enter Tryd.func30, Tryd.ntmps30
  go_wp2_with fail
  refine Calls.mono HLE.out ?_
  rintro e w1 ⟨p, rfl, hst1, hb1, hwh⟩
  have HWH : Hid _ := hwh
  clear HLE hwh
  have hc1 := H1.out w1 p (table_to ht hb1) hst1
  clear hst1
  go_wp2_with fail
  refine Calls.mono hc1 ?_
  rintro e w2 ⟨hans, hb2⟩
  clear hc1
  have hb02 := hb1.trans (hb2.mono hb1.size)
  have hc2 := H2.out w2 pv (HST.out.to hb02)
  have HC2 : Hid _ := hc2
  clear hc2
  obtain ⟨lv, lo, rfl, hlo, hans⟩ : ∃ lv lo, e = .returned (.tuple #[lv, .int .i64 er]) ∧ lv = .slice lo ss.length ss.length ∧ ((ss = [] ∧ lo = none) ∨ ∃ lb, w1.heap.size ≤ lb ∧ lo = some ⟨lb, 0, none⟩ ∧ Blk w2 lb 9 (strV ss)) := by
    rcases hans with ⟨lb, h1, h2, h3⟩ | ⟨rfl, h2⟩
    · exact ⟨_, _, h2, rfl, .inr ⟨lb, h1, rfl, h3⟩⟩
    · exact ⟨_, none, h2, rfl, .inl ⟨rfl, rfl⟩⟩
  have HANS : Hid _ := hans
  subst hlo
  clear hans
  go_wp2_with fail
  refine Calls.mono HC2.out ?_
  rintro e w3 ⟨mv, rfl, hnew, hb3⟩
  clear HC2
  have hb23 := hb2.trans (hb3.mono hb2.size)
  have hw3 := HWH.out w3 hb23
  have HNEW : Hid (StrsNew w3 w1.heap.size mv ss) := hnew.low hb2.size
  have hb03 := hb02.trans (hb3.mono hb02.size)
  clear hnew
  go_wp2_with fail
  refine Calls.mono hw3 ?_
  rintro e w4 ⟨rfl, hwr⟩
  clear hw3
  have hst4 : StrsAt w4 mv ss := (hwr.strs HNEW.out).at
  have hb04 : Below w.heap.size w w4 := hwr.below hb03 hb03.size (Nat.le_refl _)
  have hblk4 : (ss = [] ∧ lo = none) ∨ ∃ lb, w1.heap.size ≤ lb ∧ lo = some ⟨lb, 0, none⟩ ∧ Blk w4 lb 9 (strV ss) := by
    rcases HANS.out with h | ⟨lb, h1, h2, h3⟩
    · exact .inl h
    · exact .inr ⟨lb, h1, h2, hwr.blk (h3.to hb3) h1⟩
  have hst5 : StrsAt w4 (.slice lo ss.length ss.length) ss := by
    rcases hblk4 with ⟨h1, rfl⟩ | ⟨lb, h1, rfl, h3⟩
    · exact ⟨none, _, rfl, .inl h1⟩
    · exact StrsAt.of_blk h3 _ _ rfl
  have hsame := sameT_yes ss _ _ _ hst5 hst4 (by omega)
  have HBK4 : Hid _ := hblk4
  have HB04 : Hid (Below w.heap.size w w4) := hb04
  have hsz1 := hb1.size
  clear hst4 hst5 hblk4 hwr HNEW HANS hb04 hb03 hb23 hb02
  go_wp2_with fail
  refine Calls.mono hsame ?_
  rintro e w5 ⟨rfl, nq, rfl⟩
  clear hsame
  have hb5 : Below w.heap.size w (w4.drewN nq) := below_drewN HB04.out nq
  have hB : B ≤ w.heap.size := by omega
  have htx : Calls Tryd.prog 24 #[.pointer (some ⟨b, 0, none⟩), .slice lo ss.length ss.length] (w4.drewN nq) fun e w' => e = .returned (.tuple #[]) ∧ BookAt w' B b (c + 1) w'.heap.size ∧ Below B (w4.drewN nq) w' := by
    rcases HBK4.out with ⟨h1, rfl⟩ | ⟨lb, h1, rfl, h3⟩
    · have := texts_any B b c w.heap.size ss.length none [] (w4.drewN nq) (HB.out.to hb5) hc (by omega) hB (by simp [h1]) (.inl ⟨by simp [h1], rfl⟩)
      exact this
    · exact texts_any B b c lb ss.length (some ⟨lb, 0, none⟩) (strV ss) (w4.drewN nq) ((HB.out.to hb5).mono (by omega)) hc (by omega) (by omega) (by simp [strV]) (.inr ⟨rfl, h3⟩)
  clear HBK4
  go_wp2_with fail
  refine Calls.mono htx ?_
  rintro e w6 ⟨rfl, hbk6, hb6⟩
  have hb06 := (hb5.mono hB).trans hb6
  clear htx
  go_wp2_with fail
  refine (num_any _ _).mono ?_
  rintro e w' ⟨rfl, rfl⟩
  go_wp2
  go_ret
  exact ⟨rfl, hbk6, hb06⟩
end Go.Proofs.YtokmllopbfmadaaDoor.Top
