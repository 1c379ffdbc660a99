import Derived.Test.YtehemfnjfhnfiaaDoorRefSpread
namespace Go.Proofs.YtehemfnjfhnfiaaDoor.Top
open Go.RowKit Mem FieldWalks Tab ByTab Parts
open Gf (Bytes)

/-- What Sums is asked: in each of the three ways the sums. -/
def SumsOk : Prop := ∀ (x : Nat) (rows ps : List (List Nat)) (L : Nat) (rv pv : Value) (w : World), x ≤ 2 → Table w → RowsAt w rv rows → RowsC w pv ps → Fit rows ps L →
  Calls Tryd.prog 34 #[.int .i64 x, rv, pv] w fun e w' => ∃ v, e = .returned v ∧ RowsAt w' v (sums rows ps L) ∧ Below w.heap.size w w'

/-- All pieces of a text, as strings. -/
def pieces (d s : Nat) (str : ByteArray) : List ByteArray :=
  texts (cuts (nums str) d ((str.size + d - 1) / d)) (sums (facs d s) (cuts (nums str) d ((str.size + d - 1) / d)) ((str.size + d - 1) / d))
theorem pieces_length (d s : Nat) (str : ByteArray) : (pieces d s str).length = d + s := by simp [pieces, texts, cuts, sums, facs]
theorem fit (d s : Nat) (str : ByteArray) (hd : 1 ≤ d) (hd2 : d ≤ 10) (hs : s ≤ 6) (hn : str.size ≤ 400) : Fit (facs d s) (cuts (nums str) d ((str.size + d - 1) / d)) ((str.size + d - 1) / d) := by
  have hL := ceil_le str.size d hd
  refine ⟨by simp [cuts]; omega, by simp [cuts]; omega, by simp [facs]; omega, fun j hj => by simp [cuts, cutAt], fun i hi => by simp [cuts, facs, facRow], fun i hi => ?_, fun j hj => Ref.cuts_bytes _ _ _ _ (nums_bytes _) _, by omega⟩
  simp only [facs, List.length_map, List.length_range] at hi
  simp only [facs, List.getElem_map, List.getElem_range]
  exact Ref.facRow_bytes _ _ (by omega)

set_option maxRecDepth 100000 in
set_option maxHeartbeats 1000000 in
theorem pSpread_any (hS : SumsOk) (d s x : Nat) (str : ByteArray) (hd : 1 ≤ d) (hd2 : d ≤ 10) (hs : s ≤ 6) (hx : x ≤ 2) (hn : str.size ≤ 400) (w : World) (ht : Table w) :
    Calls Tryd.prog 27 #[.int .i64 d, .int .i64 s, .int .i64 x, .string str] w fun e w' =>
      ∃ b, w.heap.size ≤ b ∧ e = .returned (.slice (some ⟨b, 0, none⟩) (d + s) (d + s)) ∧ Blk w' b 9 (strV (pieces d s str)) ∧ Below w.heap.size w w' := by
  have hfit := fit d s str hd hd2 hs hn
  have HFIT : Hid (Fit (facs d s) (cuts (nums str) d ((str.size + d - 1) / d)) ((str.size + d - 1) / d)) := hfit
  clear hfit
  go_enter Tryd.func27, Tryd.ntmps27
  go_wp2_with fail
  refine (cut_any d str hd (by omega) (by omega) _ rfl _).mono ?_
  rintro e w1 ⟨cv, rfl, hcut, hb1⟩
  go_wp2_with fail
  refine (factors_any d s (by omega) (by omega) _ (table_to ht hb1)).mono ?_
  rintro e w2 ⟨fv, rfl, hfac, hb2⟩
  have hb12 := hb1.trans (hb2.mono hb1.size)
  have hcut2 := hcut.to hb2
  go_wp2_with fail
  refine (hS x _ _ _ fv cv _ hx (table_to ht hb12) hfac hcut2 HFIT.out).mono ?_
  rintro e w3 ⟨sv, rfl, hsum, hb3⟩
  have hb13 := hb12.trans (hb3.mono hb12.size)
  have hcut3 := hcut2.to hb3
  go_wp2_with fail
  refine (asTexts_any _ _ cv sv _ hcut3.rows hsum (by simp [cuts]; omega) (by simp [sums, facs]; omega)).mono ?_
  rintro e w4 ⟨b, hb, rfl, hblk, hb4⟩
  have hl1 : (cuts (nums str) d ((str.size + d - 1) / d)).length = d := by simp [cuts]
  have hl2 : (sums (facs d s) (cuts (nums str) d ((str.size + d - 1) / d)) ((str.size + d - 1) / d)).length = s := by simp [sums, facs]
  rw [hl1, hl2]
  have HBLK : Hid (Blk w4 b 9 (strV (pieces d s str))) := hblk
  clear hblk hl1 hl2 hcut hcut2 hcut3 hfac hsum
  go_wp2
  go_ret
  exact ⟨b, Nat.le_trans hb13.size hb, rfl, HBLK.out, hb13.trans (hb4.mono hb13.size)⟩

/-- What Spread answers with an error. -/
def spreadE (d s x : Int) (n : Nat) : Int := if okCounts d s = true then (if okWay x = true then (if 400 < n then 5 else 0) else 4) else 3

set_option maxRecDepth 100000 in
set_option maxHeartbeats 1000000 in
theorem wSpread_ok (hS : SumsOk) (d s x : Nat) (str : ByteArray) (hd : 1 ≤ d) (hd2 : d ≤ 10) (hs : s ≤ 6) (hx : x ≤ 2) (hn : str.size ≤ 400) (w : World) (ht : Table w) :
    Calls Tryd.prog 14 #[.int .i64 d, .int .i64 s, .int .i64 x, .string str] w fun e w' =>
      ∃ b, w.heap.size ≤ b ∧ e = .returned (.tuple #[.slice (some ⟨b, 0, none⟩) (d + s) (d + s), .int .i64 0]) ∧ Blk w' b 9 (strV (pieces d s str)) ∧ Below w.heap.size w w' := by
  have hok : okCounts d s = true := okCounts_yes _ _ (by omega)
  have how : okWay x = true := okWay_yes _ (by omega)
  go_enter Tryd.func14, Tryd.ntmps14
  go_wp2_with fail
  refine (areCounts_any _ _ _).mono ?_
  rintro e w' ⟨rfl, rfl⟩
  go_wp2_with fail
  refine (isWay_any _ _).mono ?_
  rintro e w' ⟨rfl, rfl⟩
  go_wp2_with fail
  refine (pSpread_any hS d s x str hd hd2 hs hx hn _ ht).mono ?_
  rintro e w1 ⟨b, hb, rfl, hblk, hb1⟩
  go_wp2
  go_ret2
  exact ⟨b, hb, rfl, hblk, hb1⟩
set_option maxRecDepth 100000 in
theorem wSpread_no (d s x : Int) (str : ByteArray) (hlen : str.size ≤ maxLen) (hE : spreadE d s x str.size ≠ 0) (w : World) :
    Calls Tryd.prog 14 #[.int .i64 d, .int .i64 s, .int .i64 x, .string str] w fun e w' =>
      e = .returned (.tuple #[.slice none 0 0, .int .i64 (spreadE d s x str.size)]) ∧ w' = w := by
  unfold maxLen at hlen
  cases hok : okCounts d s
  · rw [show spreadE d s x str.size = 3 by simp [spreadE, hok]]
    clear hE
    go_enter Tryd.func14, Tryd.ntmps14
    go_wp2_with fail
    refine (areCounts_any _ _ _).mono ?_
    rintro e w' ⟨rfl, rfl⟩
    go_wp2
    go_ret2
    exact ⟨rfl, rfl⟩
  · cases how : okWay x
    · rw [show spreadE d s x str.size = 4 by simp [spreadE, hok, how]]
      clear hE
      go_enter Tryd.func14, Tryd.ntmps14
      go_wp2_with fail
      refine (areCounts_any _ _ _).mono ?_
      rintro e w' ⟨rfl, rfl⟩
      go_wp2_with fail
      refine (isWay_any _ _).mono ?_
      rintro e w' ⟨rfl, rfl⟩
      go_wp2
      go_ret2
      exact ⟨rfl, rfl⟩
    · have hbig : 400 < str.size := by
        by_cases h : 400 < str.size
        · exact h
        · exact absurd (by simp [spreadE, hok, how, h]) hE
      rw [show spreadE d s x str.size = 5 by simp [spreadE, hok, how, hbig]]
      clear hE
      go_enter Tryd.func14, Tryd.ntmps14
      go_wp2_with fail
      refine (areCounts_any _ _ _).mono ?_
      rintro e w' ⟨rfl, rfl⟩
      go_wp2_with fail
      refine (isWay_any _ _).mono ?_
      rintro e w' ⟨rfl, rfl⟩
      go_wp2
      go_ret2
      exact ⟨rfl, rfl⟩
set_option maxRecDepth 100000 in
theorem rSpread_no (d s x : Int) (str : ByteArray) (hlen : str.size ≤ maxLen) (hE : spreadE d s x str.size ≠ 0) (w : World) :
    Calls Tryd.prog 29 #[.int .i64 d, .int .i64 s, .int .i64 x, .string str] w fun e w' =>
      e = .returned (.tuple #[.slice none 0 0, .int .i64 (spreadE d s x str.size)]) ∧ w' = w := by
  unfold maxLen at hlen
  cases hok : okCounts d s
  · rw [show spreadE d s x str.size = 3 by simp [spreadE, hok]]
    clear hE
    go_enter Tryd.func29, Tryd.ntmps29
    go_wp2_with fail
    refine (rCounts_any _ _ _).mono ?_
    rintro e w' ⟨rfl, rfl⟩
    go_wp2
    go_ret2
    exact ⟨rfl, rfl⟩
  · cases how : okWay x
    · rw [show spreadE d s x str.size = 4 by simp [spreadE, hok, how]]
      clear hE
      go_enter Tryd.func29, Tryd.ntmps29
      go_wp2_with fail
      refine (rCounts_any _ _ _).mono ?_
      rintro e w' ⟨rfl, rfl⟩
      go_wp2_with fail
      refine (rWay_any _ _).mono ?_
      rintro e w' ⟨rfl, rfl⟩
      go_wp2
      go_ret2
      exact ⟨rfl, rfl⟩
    · have hbig : 400 < str.size := by
        by_cases h : 400 < str.size
        · exact h
        · exact absurd (by simp [spreadE, hok, how, h]) hE
      rw [show spreadE d s x str.size = 5 by simp [spreadE, hok, how, hbig]]
      clear hE
      go_enter Tryd.func29, Tryd.ntmps29
      go_wp2_with fail
      refine (rCounts_any _ _ _).mono ?_
      rintro e w' ⟨rfl, rfl⟩
      go_wp2_with fail
      refine (rWay_any _ _).mono ?_
      rintro e w' ⟨rfl, rfl⟩
      go_wp2
      go_ret2
      exact ⟨rfl, rfl⟩
end Go.Proofs.YtehemfnjfhnfiaaDoor.Top
