import Derived.Test.YtmlnejlhgbonpaaDoorRefSpread
import Derived.Test.YtmlnejlhgbonpaaDoorConcat
namespace Go.Proofs.YtmlnejlhgbonpaaDoor.Top
open Go.RowKit Mem FieldWalks Tab ByTab Parts
open Gf (Bytes)

/-- What Sums is asked: in each of the three ways the sums. -/
def SumsOk : Prop := ∀ (x : Nat) (rows ps : List (List Nat)) (L : Nat) (rv pv : Value) (w : World), x ≤ 2 → Table w → RowsAt w rv rows → RowsC w pv ps → Fit rows ps L →
  Calls Tryd.prog 87 #[.int .i64 x, rv, pv] w fun e w' => ∃ v, e = .returned v ∧ RowsC w' v (sums rows ps L) ∧ Below w.heap.size w w'

/-- All pieces of a text, as strings. -/
def pieces (d s : Nat) (str : ByteArray) : List ByteArray :=
  texts (cuts (nums str) d ((str.size + d - 1) / d)) (sums (facs d s) (cuts (nums str) d ((str.size + d - 1) / d)) ((str.size + d - 1) / d))
theorem pieces_length (d s : Nat) (str : ByteArray) : (pieces d s str).length = d + s := by simp [pieces, texts, cuts, sums, facs]
theorem fit (d s : Nat) (str : ByteArray) (hd : 1 ≤ d) (hd2 : d ≤ 10) (hs : s ≤ 6) (hn : str.size ≤ 400) : Fit (facs d s) (cuts (nums str) d ((str.size + d - 1) / d)) ((str.size + d - 1) / d) := by
  have hL := ceil_le str.size d hd
  refine ⟨by simp [cuts]; omega, by simp [cuts]; omega, by simp [facs]; omega, fun j hj => by simp [cuts, cutAt], fun i hi => by simp [cuts, facs, facRow], fun i hi => ?_, fun j hj => Ref.cuts_bytes _ _ _ _ (nums_bytes _) _, by omega⟩
  simp only [facs, List.length_map, List.length_range] at hi
  simp only [facs, List.getElem_map, List.getElem_range]
  exact Ref.facRow_bytes _ _ (by omega)

theorem infoRows8 : (Tryd.prog.info? 98).map (fun i => (i.zero, i.size, i.bytes)) = some (some (.slice none 0 0), 1, 24) := by kernel_rfl
set_option maxRecDepth 100000 in
set_option maxHeartbeats 1000000 in
theorem whole_any (hS : SumsOk) (d s x : Nat) (ps : List (List Nat)) (L : Nat) (cv : Value) (hl : ps.length = d) (hd2 : d ≤ 10) (hs : s ≤ 6) (hx : x ≤ 2) (hfit : Fit (facs d s) ps L) (w : World) (ht : Table w) (hcut : RowsC w cv ps) :
    Calls Tryd.prog 70 #[.int .i64 s, .int .i64 x, cv] w fun e w' =>
      ∃ b, w.heap.size ≤ b ∧ e = .returned (.slice (some ⟨b, 0, none⟩) (d + s) (d + s)) ∧ Blk w' b 9 (strV (texts ps (sums (facs d s) ps L))) ∧ Below w.heap.size w w' := by
  have HFIT : Hid (Fit (facs d s) ps L) := hfit
  have HCUT : Hid (RowsC w cv ps) := hcut
  obtain ⟨ao, ex, rfl, _⟩ := hcut
  rw [hl] at HCUT ⊢
  generalize d + ex = c at HCUT ⊢
  have HL : Hid (ps.length = d) := hl
  clear hfit hl
  go_enter Tryd.func70, Tryd.ntmps70
  go_wp2_with fail
  refine (factors_any d s (by omega) (by omega) _ ht).mono ?_
  rintro e w2 ⟨fv, rfl, hfac, hb2⟩
  have hcut2 := HCUT.out.to hb2
  go_wp2_with fail
  refine (hS x _ _ _ fv (.slice ao d c) _ hx (table_to ht hb2) hfac hcut2 HFIT.out).mono ?_
  rintro e w3 ⟨sv, rfl, hsum, hb3⟩
  have hb13 := hb2.trans (hb3.mono hb2.size)
  have HCUT3 : Hid (RowsAt w3 (.slice ao d c) ps) := (hcut2.to hb3).rows
  have HSUM : Hid (RowsAt w3 sv (sums (facs d s) ps L)) := hsum.rows
  obtain ⟨sao, sc, hsv, _⟩ := hsum.rows
  subst hsv
  have hsl : (sums (facs d s) ps L).length = s := by simp [sums, facs]
  rw [hsl] at HSUM
  rw [hsl]
  have HSL : Hid ((sums (facs d s) ps L).length = s) := hsl
  obtain ⟨i1, hi, hz0, hz1, hz2⟩ := info_parts infoRows8
  clear hfac hcut2 hb2 hb3 hsl hsum
  have hb34 : Below w3.heap.size w3 (w3.alloc (.cells #[.slice ao d c, .slice sao s sc] 98)) := (Below.refl _ _).alloc (Nat.le_refl _) _
  have HBN : Hid (Blk (w3.alloc (.cells #[.slice ao d c, .slice sao s sc] 98)) w3.heap.size 98 [.slice ao d c, .slice sao s sc]) := Blk.new w3 #[.slice ao d c, .slice sao s sc] 98
  have HR : Hid (RowssAt (w3.alloc (.cells #[.slice ao d c, .slice sao s sc] 98)) (.slice (some ⟨w3.heap.size, 0, none⟩) 2 2) [ps, sums (facs d s) ps L]) := by
    refine ⟨_, _, rfl, HBN.out.lt, fun k hk => ?_⟩
    match k, hk with
    | 0, _ => exact ⟨_, HBN.out.cell_some rfl, HCUT3.out.to hb34⟩
    | 1, _ => exact ⟨_, HBN.out.cell_some rfl, HSUM.out.to hb34⟩
  have HB34 : Hid (Below w.heap.size w (w3.alloc (.cells #[.slice ao d c, .slice sao s sc] 98))) := hb13.trans (hb34.mono hb13.size)
  have hfl : [ps, sums (facs d s) ps L].flatten.length = d + s := by simp [HL.out, HSL.out]
  have HFL : Hid ([ps, sums (facs d s) ps L].flatten.length = d + s) := hfl
  clear hb34 hfl
  go_wp2_with fail
  refine (concat_any _ _ _ HR.out (by simp) (by rw [HFL.out]; omega)).mono ?_
  rintro e w5 ⟨v5, rfl, hrows, hb5⟩
  have hb15 := HB34.out.trans (hb5.mono HB34.out.size)
  have HROWS : Hid (RowsAt w5 v5 [ps, sums (facs d s) ps L].flatten) := hrows
  clear hrows hb5 hb13
  go_wp2_with fail
  refine (asTexts_any _ v5 _ HROWS.out (by rw [HFL.out]; omega)).mono ?_
  rintro e w6 ⟨b, hb, rfl, hblk, hb6⟩
  rw [HFL.out]
  have HBLK : Hid (Blk w6 b 9 (strV (texts ps (sums (facs d s) ps L)))) := by
    have : [ps, sums (facs d s) ps L].flatten = ps ++ sums (facs d s) ps L := by simp
    rw [this] at hblk; exact hblk
  clear hblk
  go_wp2
  go_ret
  exact ⟨b, Nat.le_trans hb15.size hb, rfl, HBLK.out, hb15.trans (hb6.mono hb15.size)⟩

set_option maxRecDepth 100000 in
set_option maxHeartbeats 1000000 in
theorem pSpread_any (hS : SumsOk) (d s x : Nat) (str : ByteArray) (hd : 1 ≤ d) (hd2 : d ≤ 10) (hs : s ≤ 6) (hx : x ≤ 2) (hn : str.size ≤ 400) (w : World) (ht : Table w) :
    Calls Tryd.prog 50 #[.int .i64 d, .int .i64 s, .int .i64 x, .string str] w fun e w' =>
      ∃ b, w.heap.size ≤ b ∧ e = .returned (.slice (some ⟨b, 0, none⟩) (d + s) (d + s)) ∧ Blk w' b 9 (strV (pieces d s str)) ∧ Below w.heap.size w w' := by
  have hfit := fit d s str hd hd2 hs hn
  have HFIT : Hid (Fit (facs d s) (cuts (nums str) d ((str.size + d - 1) / d)) ((str.size + d - 1) / d)) := hfit
  clear hfit
  go_enter Tryd.func50, Tryd.ntmps50
  go_wp2_with fail
  refine (cut_any d str hd (by omega) (by omega) _ rfl _).mono ?_
  rintro e w1 ⟨cv, rfl, hcut, hb1⟩
  go_wp2_with fail
  refine (whole_any hS d s x (cuts (nums str) d ((str.size + d - 1) / d)) ((str.size + d - 1) / d) cv (by simp [cuts]) hd2 hs hx HFIT.out _ (table_to ht hb1) hcut).mono ?_
  rintro e w4 ⟨b, hb, rfl, hblk, hb4⟩
  have HBLK : Hid (Blk w4 b 9 (strV (pieces d s str))) := hblk
  clear hblk hcut
  go_wp2
  go_ret
  exact ⟨b, Nat.le_trans hb1.size hb, rfl, HBLK.out, hb1.trans (hb4.mono hb1.size)⟩

/-- What Spread answers with an error. -/
def spreadE (d s x : Int) (n : Nat) : Int := if okCounts d s = true then (if okWay x = true then (if 400 < n then 5 else 0) else 4) else 3

set_option maxRecDepth 100000 in
set_option maxHeartbeats 1000000 in
theorem wSpread_ok (hS : SumsOk) (d s x : Nat) (str : ByteArray) (hd : 1 ≤ d) (hd2 : d ≤ 10) (hs : s ≤ 6) (hx : x ≤ 2) (hn : str.size ≤ 400) (w : World) (ht : Table w) :
    Calls Tryd.prog 21 #[.int .i64 d, .int .i64 s, .int .i64 x, .string str] w fun e w' =>
      ∃ b, w.heap.size ≤ b ∧ e = .returned (.tuple #[.slice (some ⟨b, 0, none⟩) (d + s) (d + s), .int .i64 0]) ∧ Blk w' b 9 (strV (pieces d s str)) ∧ Below w.heap.size w w' := by
  have hok : okCounts d s = true := okCounts_yes _ _ (by omega)
  have how : okWay x = true := okWay_yes _ (by omega)
  go_enter Tryd.func21, Tryd.ntmps21
  go_wp2_with fail
  refine (areCounts_any _ _ _).mono ?_
  rintro e w' ⟨rfl, rfl⟩
  go_wp2_with fail
  refine (isWay_any _ _).mono ?_
  rintro e w' ⟨rfl, rfl⟩
  go_wp2_with fail
  refine (pSpread_any hS d s x str hd hd2 hs hx hn _ ht).mono ?_
  rintro e w1 ⟨b, hb, rfl, hblk, hb1⟩
  go_wp2
  go_ret2
  exact ⟨b, hb, rfl, hblk, hb1⟩
set_option maxRecDepth 100000 in
theorem wSpread_no (d s x : Int) (str : ByteArray) (hlen : str.size ≤ maxLen) (hE : spreadE d s x str.size ≠ 0) (w : World) :
    Calls Tryd.prog 21 #[.int .i64 d, .int .i64 s, .int .i64 x, .string str] w fun e w' =>
      e = .returned (.tuple #[.slice none 0 0, .int .i64 (spreadE d s x str.size)]) ∧ w' = w := by
  unfold maxLen at hlen
  cases hok : okCounts d s
  · rw [show spreadE d s x str.size = 3 by simp [spreadE, hok]]
    clear hE
    go_enter Tryd.func21, Tryd.ntmps21
    go_wp2_with fail
    refine (areCounts_any _ _ _).mono ?_
    rintro e w' ⟨rfl, rfl⟩
    go_wp2
    go_ret2
    exact ⟨rfl, rfl⟩
  · cases how : okWay x
    · rw [show spreadE d s x str.size = 4 by simp [spreadE, hok, how]]
      clear hE
      go_enter Tryd.func21, Tryd.ntmps21
      go_wp2_with fail
      refine (areCounts_any _ _ _).mono ?_
      rintro e w' ⟨rfl, rfl⟩
      go_wp2_with fail
      refine (isWay_any _ _).mono ?_
      rintro e w' ⟨rfl, rfl⟩
      go_wp2
      go_ret2
      exact ⟨rfl, rfl⟩
    · have hbig : 400 < str.size := by
        by_cases h : 400 < str.size
        · exact h
        · exact absurd (by simp [spreadE, hok, how, h]) hE
      rw [show spreadE d s x str.size = 5 by simp [spreadE, hok, how, hbig]]
      clear hE
      go_enter Tryd.func21, Tryd.ntmps21
      go_wp2_with fail
      refine (areCounts_any _ _ _).mono ?_
      rintro e w' ⟨rfl, rfl⟩
      go_wp2_with fail
      refine (isWay_any _ _).mono ?_
      rintro e w' ⟨rfl, rfl⟩
      go_wp2
      go_ret2
      exact ⟨rfl, rfl⟩
set_option maxRecDepth 100000 in
theorem rSpread_no (d s x : Int) (str : ByteArray) (hlen : str.size ≤ maxLen) (hE : spreadE d s x str.size ≠ 0) (w : World) :
    Calls Tryd.prog 52 #[.int .i64 d, .int .i64 s, .int .i64 x, .string str] w fun e w' =>
      e = .returned (.tuple #[.slice none 0 0, .int .i64 (spreadE d s x str.size)]) ∧ w' = w := by
  unfold maxLen at hlen
  cases hok : okCounts d s
  · rw [show spreadE d s x str.size = 3 by simp [spreadE, hok]]
    clear hE
    go_enter Tryd.func52, Tryd.ntmps52
    go_wp2_with fail
    refine (rCounts_any _ _ _).mono ?_
    rintro e w' ⟨rfl, rfl⟩
    go_wp2
    go_ret2
    exact ⟨rfl, rfl⟩
  · cases how : okWay x
    · rw [show spreadE d s x str.size = 4 by simp [spreadE, hok, how]]
      clear hE
      go_enter Tryd.func52, Tryd.ntmps52
      go_wp2_with fail
      refine (rCounts_any _ _ _).mono ?_
      rintro e w' ⟨rfl, rfl⟩
      go_wp2_with fail
      refine (rWay_any _ _).mono ?_
      rintro e w' ⟨rfl, rfl⟩
      go_wp2
      go_ret2
      exact ⟨rfl, rfl⟩
    · have hbig : 400 < str.size := by
        by_cases h : 400 < str.size
        · exact h
        · exact absurd (by simp [spreadE, hok, how, h]) hE
      rw [show spreadE d s x str.size = 5 by simp [spreadE, hok, how, hbig]]
      clear hE
      go_enter Tryd.func52, Tryd.ntmps52
      go_wp2_with fail
      refine (rCounts_any _ _ _).mono ?_
      rintro e w' ⟨rfl, rfl⟩
      go_wp2_with fail
      refine (rWay_any _ _).mono ?_
      rintro e w' ⟨rfl, rfl⟩
      go_wp2
      go_ret2
      exact ⟨rfl, rfl⟩
end Go.Proofs.YtmlnejlhgbonpaaDoor.Top
