import Derived.Test.YtokmllopbfmadaaGreatDoorGRefSpread
import Derived.Test.YtokmllopbfmadaaGreatDoorGSolve
import Derived.Test.YtokmllopbfmadaaGreatDoorGFactors
namespace Go.Proofs.YtokmllopbfmadaaGreatDoor.Top
open Go.RowKit Mem FieldWalks Tab ByTab Parts
open Gf (Bytes)

/-- What Sums is asked: in each of the three ways the sums. -/
def SumsOk : Prop := ∀ (x : Nat) (rows ps : List (List Nat)) (L : Nat) (rv pv : Value) (w : World), x ≤ 2 → Table w → RowsAt w rv rows → RowsC w pv ps → Fit rows ps L →
  Calls Tryz.prog 77 #[.int .i64 x, rv, pv] w fun e w' => ∃ v, e = .returned v ∧ RowsC w' v (sums rows ps L) ∧ Below w.heap.size w w'

/-- All pieces of a text, as strings. -/
def pieces (d s : Nat) (str : ByteArray) : List ByteArray :=
  texts (cuts (nums str) d ((str.size + d - 1) / d)) (sums (facs d s) (cuts (nums str) d ((str.size + d - 1) / d)) ((str.size + d - 1) / d))
theorem pieces_length (d s : Nat) (str : ByteArray) : (pieces d s str).length = d + s := by simp [pieces, texts, cuts, sums, facs]
theorem fit (d s : Nat) (str : ByteArray) (hd : 1 ≤ d) (hd2 : d ≤ 10) (hs : s ≤ 6) (hn : str.size ≤ 400) : Fit (facs d s) (cuts (nums str) d ((str.size + d - 1) / d)) ((str.size + d - 1) / d) := by
  have hL := ceil_le str.size d hd
  refine ⟨by simp [cuts]; omega, by simp [cuts]; omega, by simp [facs]; omega, fun j hj => by simp [cuts, cutAt], fun i hi => by simp [cuts, facs, facRow], fun i hi => ?_, fun j hj => Ref.cuts_bytes _ _ _ _ (nums_bytes _) _, by omega⟩
  simp only [facs, List.length_map, List.length_range] at hi
  simp only [facs, List.getElem_map, List.getElem_range]
  exact Ref.facRow_bytes _ _ (by omega)

theorem infoRows8 : (Tryz.prog.info? 89).map (fun i => (i.zero, i.size, i.bytes)) = some (some (.slice none 0 0), 1, 24) := by kernel_rfl
set_option maxRecDepth 100000 in
set_option maxHeartbeats 1000000 in
theorem whole_any (hS : SumsOk) (d s x : Nat) (ps : List (List Nat)) (L : Nat) (cv : Value) (hl : ps.length = d) (hd2 : d ≤ 10) (hs : s ≤ 6) (hx : x ≤ 2) (hfit : Fit (facs d s) ps L) (w : World) (ht : Table w) (hcut : RowsC w cv ps) :
    Calls Tryz.prog 64 #[.int .i64 s, .int .i64 x, cv] w fun e w' =>
      ∃ b, w.heap.size ≤ b ∧ e = .returned (.slice (some ⟨b, 0, none⟩) (d + s) (d + s)) ∧ Blk w' b 9 (strV (texts ps (sums (facs d s) ps L))) ∧ Below w.heap.size w w' := by
  have HFIT : Hid (Fit (facs d s) ps L) := hfit
  have HCUT : Hid (RowsC w cv ps) := hcut
  obtain ⟨ao, ex, rfl, _⟩ := hcut
  rw [hl] at HCUT ⊢
  generalize d + ex = c at HCUT ⊢
  have HL : Hid (ps.length = d) := hl
  clear hfit hl
  go_enter Tryz.func64, Tryz.ntmps64
  go_wp2_with fail
  refine (factors_any d s (by omega) (by omega) _ ht).mono ?_
  rintro e w2 ⟨fv, rfl, hfac, hb2⟩
  have hcut2 := HCUT.out.to hb2
  go_wp2_with fail
  refine (hS x _ _ _ fv (.slice ao d c) _ hx (table_to ht hb2) hfac hcut2 HFIT.out).mono ?_
  rintro e w3 ⟨sv, rfl, hsum, hb3⟩
  have hb13 := hb2.trans (hb3.mono hb2.size)
  have HCUT3 : Hid (RowsAt w3 (.slice ao d c) ps) := (hcut2.to hb3).rows
  have HSUM : Hid (RowsAt w3 sv (sums (facs d s) ps L)) := hsum.rows
  obtain ⟨sao, sc, hsv, _⟩ := hsum.rows
  subst hsv
  have hsl : (sums (facs d s) ps L).length = s := by simp [sums, facs]
  rw [hsl] at HSUM
  rw [hsl]
  have HSL : Hid ((sums (facs d s) ps L).length = s) := hsl
  obtain ⟨i1, hi, hz0, hz1, hz2⟩ := info_parts infoRows8
  clear hfac hcut2 hb2 hb3 hsl hsum
  have hb34 : Below w3.heap.size w3 (w3.alloc (.cells #[.slice ao d c, .slice sao s sc] 89)) := (Below.refl _ _).alloc (Nat.le_refl _) _
  have HBN : Hid (Blk (w3.alloc (.cells #[.slice ao d c, .slice sao s sc] 89)) w3.heap.size 89 [.slice ao d c, .slice sao s sc]) := Blk.new w3 #[.slice ao d c, .slice sao s sc] 89
  have HR : Hid (RowssAt (w3.alloc (.cells #[.slice ao d c, .slice sao s sc] 89)) (.slice (some ⟨w3.heap.size, 0, none⟩) 2 2) [ps, sums (facs d s) ps L]) := by
    refine ⟨_, _, rfl, HBN.out.lt, fun k hk => ?_⟩
    match k, hk with
    | 0, _ => exact ⟨_, HBN.out.cell_some rfl, HCUT3.out.to hb34⟩
    | 1, _ => exact ⟨_, HBN.out.cell_some rfl, HSUM.out.to hb34⟩
  have HB34 : Hid (Below w.heap.size w (w3.alloc (.cells #[.slice ao d c, .slice sao s sc] 89))) := hb13.trans (hb34.mono hb13.size)
  have hfl : [ps, sums (facs d s) ps L].flatten.length = d + s := by simp [HL.out, HSL.out]
  have HFL : Hid ([ps, sums (facs d s) ps L].flatten.length = d + s) := hfl
  clear hb34 hfl
  go_wp2_with fail
  refine (concat_any _ _ _ HR.out (by simp) (by rw [HFL.out]; omega)).mono ?_
  rintro e w5 ⟨v5, rfl, hrows, hb5⟩
  have hb15 := HB34.out.trans (hb5.mono HB34.out.size)
  have HROWS : Hid (RowsAt w5 v5 [ps, sums (facs d s) ps L].flatten) := hrows
  clear hrows hb5 hb13
  go_wp2_with fail
  refine (asTexts_any _ v5 _ HROWS.out (by rw [HFL.out]; omega)).mono ?_
  rintro e w6 ⟨b, hb, rfl, hblk, hb6⟩
  rw [HFL.out]
  have HBLK : Hid (Blk w6 b 9 (strV (texts ps (sums (facs d s) ps L)))) := by
    have : [ps, sums (facs d s) ps L].flatten = ps ++ sums (facs d s) ps L := by simp
    rw [this] at hblk; exact hblk
  clear hblk
  go_wp2
  go_ret
  exact ⟨b, Nat.le_trans hb15.size hb, rfl, HBLK.out, hb15.trans (hb6.mono hb15.size)⟩

set_option maxRecDepth 100000 in
set_option maxHeartbeats 1000000 in
theorem pSpread_any (hS : SumsOk) (d s x : Nat) (str : ByteArray) (hd : 1 ≤ d) (hd2 : d ≤ 10) (hs : s ≤ 6) (hx : x ≤ 2) (hn : str.size ≤ 400) (w : World) (ht : Table w) :
    Calls Tryz.prog 54 #[.int .i64 d, .int .i64 s, .int .i64 x, .string str] w fun e w' =>
      ∃ b, w.heap.size ≤ b ∧ e = .returned (.slice (some ⟨b, 0, none⟩) (d + s) (d + s)) ∧ Blk w' b 9 (strV (pieces d s str)) ∧ Below w.heap.size w w' := by
  have hfit := fit d s str hd hd2 hs hn
  have HFIT : Hid (Fit (facs d s) (cuts (nums str) d ((str.size + d - 1) / d)) ((str.size + d - 1) / d)) := hfit
  clear hfit
  go_enter Tryz.func54, Tryz.ntmps54
  go_wp2_with fail
  refine (cut_any d str hd (by omega) (by omega) _ rfl _).mono ?_
  rintro e w1 ⟨cv, rfl, hcut, hb1⟩
  go_wp2_with fail
  refine (whole_any hS d s x (cuts (nums str) d ((str.size + d - 1) / d)) ((str.size + d - 1) / d) cv (by simp [cuts]) hd2 hs hx HFIT.out _ (table_to ht hb1) hcut).mono ?_
  rintro e w4 ⟨b, hb, rfl, hblk, hb4⟩
  have HBLK : Hid (Blk w4 b 9 (strV (pieces d s str))) := hblk
  clear hblk hcut
  go_wp2
  go_ret
  exact ⟨b, Nat.le_trans hb1.size hb, rfl, HBLK.out, hb1.trans (hb4.mono hb1.size)⟩

/-- What Spread answers with an error. -/
def spreadE (d s x : Int) (n : Nat) : Int := if okCounts d s = true then (if okWay x = true then (if 400 < n then 5 else 0) else 4) else 3

set_option maxRecDepth 100000 in
set_option maxHeartbeats 1000000 in
theorem wSpread_ok (hS : SumsOk) (d s x : Nat) (str : ByteArray) (hd : 1 ≤ d) (hd2 : d ≤ 10) (hs : s ≤ 6) (hx : x ≤ 2) (hn : str.size ≤ 400) (w : World) (ht : Table w) :
    Calls Tryz.prog 26 #[.int .i64 d, .int .i64 s, .int .i64 x, .string str] w fun e w' =>
      ∃ b, w.heap.size ≤ b ∧ e = .returned (.tuple #[.slice (some ⟨b, 0, none⟩) (d + s) (d + s), .int .i64 0]) ∧ Blk w' b 9 (strV (pieces d s str)) ∧ Below w.heap.size w w' := by
  have hok : okCounts d s = true := okCounts_yes _ _ (by omega)
  have how : okWay x = true := okWay_yes _ (by omega)
  go_enter Tryz.func26, Tryz.ntmps26
  go_wp2_with fail
  refine (areCounts_any _ _ _).mono ?_
  rintro e w' ⟨rfl, rfl⟩
  go_wp2_with fail
  refine (isWay_any _ _).mono ?_
  rintro e w' ⟨rfl, rfl⟩
  go_wp2_with fail
  refine (pSpread_any hS d s x str hd hd2 hs hx hn _ ht).mono ?_
  rintro e w1 ⟨b, hb, rfl, hblk, hb1⟩
  go_wp2
  go_ret2
  exact ⟨b, hb, rfl, hblk, hb1⟩
set_option maxRecDepth 100000 in
theorem wSpread_no (d s x : Int) (str : ByteArray) (hlen : str.size ≤ maxLen) (hE : spreadE d s x str.size ≠ 0) (w : World) :
    Calls Tryz.prog 26 #[.int .i64 d, .int .i64 s, .int .i64 x, .string str] w fun e w' =>
      e = .returned (.tuple #[.slice none 0 0, .int .i64 (spreadE d s x str.size)]) ∧ w' = w := by
  unfold maxLen at hlen
  cases hok : okCounts d s
  · rw [show spreadE d s x str.size = 3 by simp [spreadE, hok]]
    clear hE
    go_enter Tryz.func26, Tryz.ntmps26
    go_wp2_with fail
    refine (areCounts_any _ _ _).mono ?_
    rintro e w' ⟨rfl, rfl⟩
    go_wp2
    go_ret2
    exact ⟨rfl, rfl⟩
  · cases how : okWay x
    · rw [show spreadE d s x str.size = 4 by simp [spreadE, hok, how]]
      clear hE
      go_enter Tryz.func26, Tryz.ntmps26
      go_wp2_with fail
      refine (areCounts_any _ _ _).mono ?_
      rintro e w' ⟨rfl, rfl⟩
      go_wp2_with fail
      refine (isWay_any _ _).mono ?_
      rintro e w' ⟨rfl, rfl⟩
      go_wp2
      go_ret2
      exact ⟨rfl, rfl⟩
    · have hbig : 400 < str.size := by
        by_cases h : 400 < str.size
        · exact h
        · exact absurd (by simp [spreadE, hok, how, h]) hE
      rw [show spreadE d s x str.size = 5 by simp [spreadE, hok, how, hbig]]
      clear hE
      go_enter Tryz.func26, Tryz.ntmps26
      go_wp2_with fail
      refine (areCounts_any _ _ _).mono ?_
      rintro e w' ⟨rfl, rfl⟩
      go_wp2_with fail
      refine (isWay_any _ _).mono ?_
      rintro e w' ⟨rfl, rfl⟩
      go_wp2
      go_ret2
      exact ⟨rfl, rfl⟩
set_option maxRecDepth 100000 in
theorem rSpread_no (d s x : Int) (str : ByteArray) (hlen : str.size ≤ maxLen) (hE : spreadE d s x str.size ≠ 0) (w : World) :
    Calls Tryz.prog 27 #[.int .i64 d, .int .i64 s, .int .i64 x, .string str] w fun e w' =>
      e = .returned (.tuple #[.slice none 0 0, .int .i64 (spreadE d s x str.size)]) ∧ w' = w := by
  unfold maxLen at hlen
  cases hok : okCounts d s
  · rw [show spreadE d s x str.size = 3 by simp [spreadE, hok]]
    clear hE
    go_enter Tryz.func27, Tryz.ntmps27
    go_wp2_with fail
    refine (rCounts_any _ _ _).mono ?_
    rintro e w' ⟨rfl, rfl⟩
    go_wp2
    go_ret2
    exact ⟨rfl, rfl⟩
  · cases how : okWay x
    · rw [show spreadE d s x str.size = 4 by simp [spreadE, hok, how]]
      clear hE
      go_enter Tryz.func27, Tryz.ntmps27
      go_wp2_with fail
      refine (rCounts_any _ _ _).mono ?_
      rintro e w' ⟨rfl, rfl⟩
      go_wp2_with fail
      refine (rWay_any _ _).mono ?_
      rintro e w' ⟨rfl, rfl⟩
      go_wp2
      go_ret2
      exact ⟨rfl, rfl⟩
    · have hbig : 400 < str.size := by
        by_cases h : 400 < str.size
        · exact h
        · exact absurd (by simp [spreadE, hok, how, h]) hE
      rw [show spreadE d s x str.size = 5 by simp [spreadE, hok, how, hbig]]
      clear hE
      go_enter Tryz.func27, Tryz.ntmps27
      go_wp2_with fail
      refine (rCounts_any _ _ _).mono ?_
      rintro e w' ⟨rfl, rfl⟩
      go_wp2_with fail
      refine (rWay_any _ _).mono ?_
      rintro e w' ⟨rfl, rfl⟩
      go_wp2
      go_ret2
      exact ⟨rfl, rfl⟩
end Go.Proofs.YtokmllopbfmadaaGreatDoor.Top

namespace Go.Proofs.YtokmllopbfmadaaGreatDoor.Top
open Go.RowKit Mem FieldWalks Tab ByTab Parts

theorem StrsAt.of_blk {w : World} {b : Nat} {ss : List ByteArray} (h : Blk w b 9 (strV ss)) (n cap : Nat) (hn : n = ss.length) : StrsAt w (.slice (some ⟨b, 0, none⟩) n cap) ss := by
  subst hn
  exact ⟨_, _, rfl, .inr ⟨b, 0, rfl, h.lt, fun k hk => by rw [Nat.zero_add]; exact h.cell_some (by simp [strV, hk])⟩⟩
theorem below_drew {w : World} (n : Nat) : Below w.heap.size w (w.drewN n) := below_drewN (Below.refl _ _) n
theorem table_below {w w' : World} {B : Nat} (h : Table w) (hb : Below B w w') (hB : 0 < B) : Table w' := by
  intro k hk
  rw [hb.cell (p := ⟨0, k, none⟩) hB]; exact h k hk
end Go.Proofs.YtokmllopbfmadaaGreatDoor.Top

namespace Go.Proofs.YtokmllopbfmadaaGreatDoor.Ref
open Go.RowKit Mem FieldWalks Tab ByTab Parts
open Gf (Bytes sumTo addTo)

/-- The slice v reads as these whole numbers; its room is no less than its length. -/
def IsC (w : World) (v : Value) (l : List Int) : Prop :=
  ∃ ao ex, v = .slice ao l.length (l.length + ex) ∧ (l = [] ∨ ∃ b off, ao = some ⟨b, off, none⟩ ∧ b < w.heap.size ∧ ∀ k, (h : k < l.length) → w.cell? ⟨b, off + k, none⟩ = some (.int .i64 l[k]))
theorem IsC.to {w w' : World} {v : Value} {l : List Int} (h : IsC w v l) (hb : Below w.heap.size w w') : IsC w' v l := by
  obtain ⟨ao, cap, rfl, h⟩ := h
  refine ⟨ao, cap, rfl, ?_⟩
  rcases h with h | ⟨b, off, rfl, hlt, hc⟩
  · exact .inl h
  · exact .inr ⟨b, off, rfl, Nat.lt_of_lt_of_le hlt hb.size, fun k hk => by rw [hb.cell (p := ⟨b, off + k, none⟩) hlt]; exact hc k hk⟩
theorem IsC.drewN {w : World} {v : Value} {l : List Int} (h : IsC w v l) (n : Nat) : IsC (w.drewN n) v l := h
theorem IsC.take {w : World} {ao : Option Addr} {n c k : Nat} {l : List Int} (h : IsC w (.slice ao n c) l) (hk : k ≤ l.length) : IsC w (.slice ao k c) (l.take k) := by
  obtain ⟨ao, ex, he, h⟩ := h
  injection he with h1 h2 h3
  subst h1 h2 h3
  have e : (l.take k).length = k := by rw [List.length_take]; omega
  refine ⟨ao, l.length - k + ex, by rw [e]; congr 1; omega, ?_⟩
  rcases h with rfl | ⟨b, off, rfl, hlt, hc⟩
  · exact .inl (by simp)
  · exact .inr ⟨b, off, rfl, hlt, fun i hi => by rw [List.getElem_take]; exact hc i (by omega)⟩
theorem not_take_next {l : List Int} {n : Int} {k : Nat} (h : n ∉ l.take k) (hk : k < l.length) (e : l[k] ≠ n) : n ∉ l.take (k + 1) := by
  rw [List.take_add_one, List.getElem?_eq_getElem hk]
  simp only [Option.toList_some, List.mem_append, List.mem_singleton, not_or]
  exact ⟨h, Ne.symm e⟩

set_option maxRecDepth 100000 in
theorem within_any (l : List Int) (n : Int) (v : Value) (w : World) (h : IsC w v l) (hl : l.length < 2 ^ 62) :
    Calls Tryz.prog 72 #[v, .int .i64 n] w fun e w' => e = .returned (.bool (decide (n ∈ l))) ∧ w' = w := by
  obtain ⟨ao, ex, rfl, hc⟩ := h
  have HC : Hid (l = [] ∨ ∃ b off, ao = some ⟨b, off, none⟩ ∧ b < w.heap.size ∧ ∀ k, (h : k < l.length) → w.cell? ⟨b, off + k, none⟩ = some (.int .i64 l[k])) := hc
  clear hc
  go_enter Tryz.func72, Tryz.ntmps72
  go_wp2
  go_loop [5] (fun i => ∃ k : Nat, k ≤ l.length ∧ i = .int .i64 k ∧ n ∉ l.take k) (fun i => l.length - (intOf i).toNat)
  case atStart => exact ⟨0, Nat.zero_le _, rfl, by simp⟩
  case round =>
    obtain ⟨k, hk, rfl, hn⟩ := hrel
    by_cases hlt : k < l.length
    · obtain ⟨b, off, rfl, hb, hc⟩ : ∃ b off, ao = some ⟨b, off, none⟩ ∧ b < w.heap.size ∧ ∀ k, (h : k < l.length) → w.cell? ⟨b, off + k, none⟩ = some (.int .i64 l[k]) := by
        rcases HC.out with h | h
        · rw [h] at hlt; simp at hlt
        · exact h
      have c1 := hc k hlt
      have HN : Hid (n ∉ l.take k) := hn
      clear hc hn
      by_cases e : l[k] = n
      · have hmem : decide (n ∈ l) = true := by simp; exact e ▸ List.getElem_mem hlt
        rw [e] at c1
        go_wp2
        go_ret
        exact ⟨rfl, rfl⟩
      · have HX : Hid (n ∉ l.take (k + 1)) := not_take_next HN.out hlt e
        have he : (l[k] == n) = false := by simp [e]
        generalize l[k] = x at c1 he
        clear e
        go_wp2
        go_round
        case rel => exact ⟨k + 1, by omega, by go_num, HX.out⟩
        case measure => simp [intOf]; omega
    · obtain rfl : k = l.length := by omega
      rw [List.take_length] at hn
      have hmem : decide (n ∈ l) = false := by simp [hn]
      go_wp2
      go_ret
      exact ⟨rfl, rfl⟩

/-- Do pieces and lost numbers go together? -/
structure ShapeOk (d s L : Nat) (pieces : List ByteArray) (lost : List Int) : Prop where
  count : pieces.length = d + s
  nums : ∀ k, (h : k < lost.length) → 0 ≤ lost[k] ∧ lost[k] < (d + s : Nat) ∧ lost[k] ∉ lost.take k
  sizes : ∀ p, (h : p < pieces.length) → (p : Int) ∉ lost → pieces[p].size = L
theorem ShapeOk.nodup {d s L : Nat} {pieces : List ByteArray} {lost : List Int} (h : ShapeOk d s L pieces lost) : lost.Nodup := by
  rw [List.Nodup, List.pairwise_iff_getElem]
  intro i j hi hj hij e
  refine (h.nums j hj).2.2 ?_
  rw [← e]
  rw [List.mem_iff_getElem]
  exact ⟨i, by simp; omega, by simp⟩
end Go.Proofs.YtokmllopbfmadaaGreatDoor.Ref

/- What a pack is, and what is read off it, in plain bytes: of a pack that is whole, and of one whose frames are spoilt. Nothing of the program. -/
namespace Go.Proofs.YtokmllopbfmadaaGreatDoor.Ref
open Go.RowKit Mem FieldWalks Tab ByTab Parts
open Gf (Bytes)

/-- The check of a string. -/
def checkS (s : ByteArray) : ByteArray := mkS (Crc.check (nums s))
/-- A string of one byte. -/
def oneS (n : Nat) : ByteArray := mkS [n % 256]
/-- The head's six bytes. -/
def headS (d s n : Nat) : ByteArray := mkS [119, 1, d % 256, s % 256, n / 256 % 256, n % 256]
theorem checkS_size (s : ByteArray) : (checkS s).size = 4 := rfl
theorem oneS_size (n : Nat) : (oneS n).size = 1 := rfl
theorem headS_size (d s n : Nat) : (headS d s n).size = 6 := rfl
/-- A frame. -/
def frameS (h : ByteArray) (p : Nat) (x : ByteArray) : ByteArray := oneS p ++ x ++ checkS (h ++ oneS p ++ x)
/-- A pack, behind its first k frames. -/
def packTo (h : ByteArray) (ps : List ByteArray) : Nat → ByteArray
  | 0 => h ++ checkS h
  | k + 1 => packTo h ps k ++ frameS h k (ps.getD k ByteArray.empty)
def packS (d s n : Nat) (ps : List ByteArray) : ByteArray := packTo (headS d s n) ps ps.length

/-- A byte of a string. -/
def byteAt (p : ByteArray) (i : Nat) : Nat := (nums p).getD i 0
def pD (p : ByteArray) : Nat := byteAt p 2
def pS (p : ByteArray) : Nat := byteAt p 3
def pN (p : ByteArray) : Nat := 256 * byteAt p 4 + byteAt p 5
def pL (p : ByteArray) : Nat := (pN p + pD p - 1) / pD p
/-- The first ten bytes are a head and its check. -/
def headOk (p : ByteArray) : Prop := 10 ≤ p.size ∧ byteAt p 0 = 119 ∧ byteAt p 1 = 1 ∧ (1 ≤ pD p ∧ pD p ≤ 10 ∧ pS p ≤ 6) ∧ pN p ≤ 400 ∧ p.extract 6 10 = checkS (p.extract 0 6)
/-- It has just the bytes that its head asks for. -/
def cutOk (p : ByteArray) : Prop := p.size = 10 + (pD p + pS p) * (pL p + 5)
def frameAt (p : ByteArray) (k : Nat) : ByteArray := p.extract (10 + k * (pL p + 5)) (10 + (k + 1) * (pL p + 5))
def pieceAt (p : ByteArray) (k : Nat) : ByteArray := (frameAt p k).extract 1 (pL p + 1)
/-- Its number or its check is not right. -/
def badAt (p : ByteArray) (k : Nat) : Bool := decide (byteAt (frameAt p k) 0 ≠ k ∨ (frameAt p k).extract (pL p + 1) (pL p + 5) ≠ checkS (p.extract 0 6 ++ (frameAt p k).extract 0 (pL p + 1)))
def piecesTo (p : ByteArray) (k : Nat) : List ByteArray := (List.range k).map (pieceAt p)
def badTo (p : ByteArray) (k : Nat) : List Nat := (List.range k).filter (badAt p)
def openPieces (p : ByteArray) : List ByteArray := piecesTo p (pD p + pS p)
def openBad (p : ByteArray) : List Nat := badTo p (pD p + pS p)
theorem piecesTo_next (p : ByteArray) (k : Nat) : piecesTo p (k + 1) = piecesTo p k ++ [pieceAt p k] := by simp [piecesTo, List.range_succ]
theorem badTo_next (p : ByteArray) (k : Nat) : badTo p (k + 1) = if badAt p k then badTo p k ++ [k] else badTo p k := by
  unfold badTo
  rw [List.range_succ, List.filter_append]
  by_cases h : badAt p k <;> simp [h]

/-! Bytes in lists. -/
theorem numsX (p : ByteArray) (a b : Nat) : nums (p.extract a b) = ((nums p).drop a).take (b - a) := by
  simp only [nums, ByteArray.data_extract, Array.toList_extract, List.extract_eq_take_drop, List.map_take, List.map_drop]
theorem numsA (a b : ByteArray) : nums (a ++ b) = nums a ++ nums b := by simp [nums, ByteArray.data_append]
theorem mkN (s : ByteArray) : mkS (nums s) = s := by
  apply ByteArray.ext
  simp only [mkS, nums, List.map_map]
  have : (UInt8.ofNat ∘ UInt8.toNat) = id := by funext x; simp
  rw [this, List.map_id]
theorem numsM (l : List Nat) (h : Bytes l) : nums (mkS l) = l := by
  simp only [mkS, nums, List.map_map]
  conv => rhs; rw [← List.map_id l]
  refine List.map_congr_left fun x hx => ?_
  have := h x hx
  simp [UInt8.toNat_ofNat']; omega
theorem nums_inj {a b : ByteArray} (h : nums a = nums b) : a = b := by rw [← mkN a, h, mkN]
theorem numsC (s : ByteArray) : nums (checkS s) = Crc.check (nums s) := numsM _ (Crc.check_bytes _)
theorem check_len (l : List Nat) : (Crc.check l).length = 4 := rfl
theorem bytes_app {a b : List Nat} (ha : Bytes a) (hb : Bytes b) : Bytes (a ++ b) := by
  intro x hx
  rcases List.mem_append.1 hx with h | h
  · exact ha x h
  · exact hb x h
theorem flat_at {m : Nat} : ∀ (fs : List (List Nat)) (k : Nat), (∀ f ∈ fs, f.length = m) → (h : k < fs.length) → (fs.flatten.drop (k * m)).take m = fs[k]
  | [], k, _, h => absurd h (by simp)
  | f :: fs, 0, hm, _ => by
    have := hm f (by simp)
    simp [← this]
  | f :: fs, k + 1, hm, h => by
    have h1 := hm f (by simp)
    have h2 := flat_at fs k (fun g hg => hm g (by simp [hg])) (by simpa using h)
    rw [List.flatten_cons, Nat.add_mul, Nat.one_mul, Nat.add_comm, List.drop_append, h1]
    rw [List.drop_eq_nil_of_le (by omega), List.nil_append]
    rw [show m + k * m - m = k * m by omega, h2]
    simp
theorem flat_length {m : Nat} : ∀ (fs : List (List Nat)), (∀ f ∈ fs, f.length = m) → fs.flatten.length = fs.length * m
  | [], _ => by simp
  | f :: fs, hm => by
    have h2 := flat_length fs (fun g hg => hm g (by simp [hg]))
    rw [List.flatten_cons, List.length_append, h2, hm f (by simp), List.length_cons, Nat.add_mul]; omega
theorem flat_set {m : Nat} (j v : Nat) (hj : j < m) : ∀ (fs : List (List Nat)) (k : Nat), (∀ f ∈ fs, f.length = m) → (h : k < fs.length) → fs.flatten.set (k * m + j) v = (fs.set k (fs[k].set j v)).flatten
  | [], k, _, h => absurd h (by simp)
  | f :: fs, 0, hm, _ => by
    have := hm f (by simp)
    simp only [Nat.zero_mul, Nat.zero_add, List.flatten_cons, List.set_cons_zero, List.getElem_cons_zero]
    rw [List.set_append_left _ _ (by omega)]
  | f :: fs, k + 1, hm, h => by
    have h1 := hm f (by simp)
    have h2 := flat_set j v hj fs k (fun g hg => hm g (by simp [hg])) (by simpa using h)
    simp only [List.flatten_cons, List.set_cons_succ, List.getElem_cons_succ]
    rw [← h2, List.set_append_right _ _ (by rw [Nat.add_mul]; omega), h1, show (k + 1) * m + j - m = k * m + j by rw [Nat.add_mul]; omega]

/-! Packs by their frames. -/
def headL (d s n : Nat) : List Nat := [119, 1, d, s, n / 256, n % 256]
/-- The frame of a piece. -/
def frameL (H : List Nat) (k : Nat) (x : List Nat) : List Nat := k :: x ++ Crc.check (H ++ k :: x)
/-- p is a head and so many frames of the right length. -/
structure IsPack (p : ByteArray) (d s n L : Nat) (fs : List (List Nat)) : Prop where
  d1 : 1 ≤ d
  d2 : d ≤ 10
  s2 : s ≤ 6
  n2 : n ≤ 400
  eL : L = (n + d - 1) / d
  len : fs.length = d + s
  each : ∀ f ∈ fs, f.length = L + 5
  eq : nums p = headL d s n ++ Crc.check (headL d s n) ++ fs.flatten
namespace IsPack
variable {p : ByteArray} {d s n L : Nat} {fs : List (List Nat)} (h : IsPack p d s n L fs)
theorem headB (h : IsPack p d s n L fs) : Bytes (headL d s n) := by
  have := h.d2; have := h.s2; have := h.n2
  intro x hx
  simp [headL] at hx
  rcases hx with rfl | rfl | rfl | rfl | rfl | rfl <;> omega
include h
theorem b0 : byteAt p 0 = 119 := by unfold byteAt; rw [h.eq]; rfl
theorem b1 : byteAt p 1 = 1 := by unfold byteAt; rw [h.eq]; rfl
theorem hD : pD p = d := by unfold pD byteAt; rw [h.eq]; rfl
theorem hS : pS p = s := by unfold pS byteAt; rw [h.eq]; rfl
theorem hN : pN p = n := by
  unfold pN byteAt; rw [h.eq]
  show 256 * (n / 256) + n % 256 = n
  omega
theorem hL : pL p = L := by unfold pL; rw [h.hN, h.hD, h.eL]
theorem size : p.size = 10 + (d + s) * (L + 5) := by
  rw [← nums_length, h.eq, List.length_append, flat_length fs h.each, h.len]; rfl
theorem head6 : nums (p.extract 0 6) = headL d s n := by rw [numsX, h.eq]; rfl
theorem ok : headOk p := by
  refine ⟨by rw [h.size]; omega, h.b0, h.b1, ⟨by rw [h.hD]; exact h.d1, by rw [h.hD]; exact h.d2, by rw [h.hS]; exact h.s2⟩, by rw [h.hN]; exact h.n2, ?_⟩
  apply nums_inj
  rw [numsC, h.head6, numsX, h.eq]
  rfl
theorem cut : cutOk p := by unfold cutOk; rw [h.hD, h.hS, h.hL, h.size]
theorem frame (k : Nat) (hk : k < fs.length) : nums (frameAt p k) = fs[k] := by
  unfold frameAt
  rw [numsX, h.hL, h.eq, ← flat_at fs k h.each hk]
  rw [show 10 + (k + 1) * (L + 5) - (10 + k * (L + 5)) = L + 5 by rw [Nat.add_mul]; omega]
  congr 1
  rw [List.drop_append, List.drop_eq_nil_of_le (by show 10 ≤ _; omega), List.nil_append]
  congr 1
  show 10 + _ - 10 = _
  omega
theorem piece (k : Nat) (hk : k < fs.length) : nums (pieceAt p k) = (fs[k].drop 1).take L := by
  unfold pieceAt
  rw [numsX, h.hL, h.frame k hk, Nat.add_sub_cancel]
theorem pieceSize (k : Nat) (hk : k < fs.length) : (pieceAt p k).size = L := by
  rw [← nums_length, h.piece k hk, List.length_take, List.length_drop, h.each _ (List.getElem_mem hk)]; omega
theorem bad (k : Nat) (hk : k < fs.length) : badAt p k = decide (fs[k].getD 0 0 ≠ k ∨ fs[k].drop (L + 1) ≠ Crc.check (headL d s n ++ fs[k].take (L + 1))) := by
  unfold badAt byteAt
  rw [h.frame k hk, h.hL]
  have e : ((frameAt p k).extract (L + 1) (L + 5) = checkS (p.extract 0 6 ++ (frameAt p k).extract 0 (L + 1))) ↔ fs[k].drop (L + 1) = Crc.check (headL d s n ++ fs[k].take (L + 1)) := by
    have hz := h.each _ (List.getElem_mem hk)
    have e1 : nums ((frameAt p k).extract (L + 1) (L + 5)) = fs[k].drop (L + 1) := by
      rw [numsX, h.frame k hk, List.take_of_length_le]
      rw [List.length_drop]; omega
    have e2 : nums (checkS (p.extract 0 6 ++ (frameAt p k).extract 0 (L + 1))) = Crc.check (headL d s n ++ fs[k].take (L + 1)) := by
      rw [numsC, numsA, h.head6, numsX, h.frame k hk]; rfl
    rw [← e1, ← e2]
    exact ⟨fun x => by rw [x], nums_inj⟩
  simp only [ne_eq, e]
omit h in
/-- A byte of a frame is written over. -/
theorem set (h : IsPack p d s n L fs) {q : ByteArray} (k j v : Nat) (hk : k < fs.length) (hj : j < L + 5) (hq : nums q = (nums p).set (10 + k * (L + 5) + j) v) : IsPack q d s n L (fs.set k (fs[k].set j v)) where
  d1 := h.d1
  d2 := h.d2
  s2 := h.s2
  n2 := h.n2
  eL := h.eL
  len := by simp [h.len]
  each := by
    intro f hf
    rcases List.mem_or_eq_of_mem_set hf with hf | rfl
    · exact h.each f hf
    · rw [List.length_set]; exact h.each _ (List.getElem_mem hk)
  eq := by
    rw [hq, h.eq, List.set_append_right _ _ (by show 10 ≤ _; omega)]
    congr 1
    rw [← flat_set j v hj fs k h.each hk]
    congr 1
    show 10 + _ + j - 10 = _
    omega
end IsPack

/-! A pack that is whole. -/
def framesL (H : List Nat) (ps : List ByteArray) : List (List Nat) := (List.range ps.length).map fun k => frameL H k (nums (ps.getD k ByteArray.empty))
theorem frameL_length (H : List Nat) (k : Nat) (x : List Nat) : (frameL H k x).length = x.length + 5 := by simp [frameL]
theorem nums_head {d s n : Nat} (hd : d ≤ 10) (hs : s ≤ 6) (hn : n ≤ 400) : nums (headS d s n) = headL d s n := by
  unfold headS
  rw [numsM]
  · unfold headL
    rw [Nat.mod_eq_of_lt (show d < 256 by omega), Nat.mod_eq_of_lt (show s < 256 by omega), Nat.mod_eq_of_lt (show n / 256 < 256 by omega)]
  · intro x hx
    simp at hx
    rcases hx with rfl | rfl | rfl | rfl | rfl | rfl <;> omega
theorem nums_one {k : Nat} (hk : k < 256) : nums (oneS k) = [k] := by
  unfold oneS
  rw [numsM, Nat.mod_eq_of_lt hk]
  intro x hx
  simp at hx; omega
theorem nums_frame {h x : ByteArray} {k : Nat} (hk : k < 256) : nums (frameS h k x) = frameL (nums h) k (nums x) := by
  unfold frameS frameL
  rw [numsA, numsA, numsC, numsA, numsA, nums_one hk]
  simp
theorem nums_packTo (h : ByteArray) (ps : List ByteArray) (hl : ps.length ≤ 100) : ∀ k, k ≤ ps.length → nums (packTo h ps k) = nums h ++ Crc.check (nums h) ++ ((List.range k).map fun k => frameL (nums h) k (nums (ps.getD k ByteArray.empty))).flatten
  | 0, _ => by simp [packTo, numsA, numsC]
  | k + 1, hk => by
    rw [packTo, numsA, nums_packTo h ps hl k (by omega), nums_frame (by omega), List.range_succ]
    simp
theorem packS_is {d s n L : Nat} {ps : List ByteArray} (d1 : 1 ≤ d) (d2 : d ≤ 10) (s2 : s ≤ 6) (n2 : n ≤ 400) (eL : L = (n + d - 1) / d) (hl : ps.length = d + s) (hp : ∀ x ∈ ps, x.size = L) : IsPack (packS d s n ps) d s n L (framesL (headL d s n) ps) where
  d1 := d1
  d2 := d2
  s2 := s2
  n2 := n2
  eL := eL
  len := by simp [framesL, hl]
  each := by
    intro f hf
    simp only [framesL, List.mem_map, List.mem_range] at hf
    obtain ⟨k, hk, rfl⟩ := hf
    rw [frameL_length, nums_length, List.getD_eq_getElem?_getD, List.getElem?_eq_getElem hk, Option.getD_some, hp _ (List.getElem_mem hk)]
  eq := by
    unfold packS framesL
    rw [nums_packTo _ _ (by omega) _ (Nat.le_refl _), nums_head d2 s2 n2]
theorem framesL_get {H : List Nat} {ps : List ByteArray} {k : Nat} (hk : k < (framesL H ps).length) (hk2 : k < ps.length) : (framesL H ps)[k] = frameL H k (nums ps[k]) := by
  simp only [framesL, List.getElem_map, List.getElem_range]
  rw [List.getD_eq_getElem?_getD, List.getElem?_eq_getElem hk2, Option.getD_some]
theorem frameL_take {H x : List Nat} {k L : Nat} (hx : x.length = L) : (frameL H k x).take (L + 1) = k :: x := by
  unfold frameL
  rw [List.take_append_of_le_length (by simp [hx]), List.take_of_length_le (by simp [hx])]
theorem frameL_drop {H x : List Nat} {k L : Nat} (hx : x.length = L) : (frameL H k x).drop (L + 1) = Crc.check (H ++ k :: x) := by
  unfold frameL
  rw [List.drop_append, List.drop_eq_nil_of_le (by simp [hx]), List.nil_append]
  simp [hx]
theorem frameL_piece {H x : List Nat} {k L : Nat} (hx : x.length = L) : ((frameL H k x).drop 1).take L = x := by
  unfold frameL
  simp [← hx]
/-- A frame that stands as it was made is good. -/
theorem IsPack.good {p : ByteArray} {d s n L : Nat} {fs : List (List Nat)} (h : IsPack p d s n L fs) {k : Nat} (hk : k < fs.length) {x : List Nat} (hx : x.length = L) (hf : fs[k] = frameL (headL d s n) k x) : badAt p k = false ∧ nums (pieceAt p k) = x := by
  rw [h.bad k hk, h.piece k hk, hf, frameL_take hx, frameL_drop hx, frameL_piece hx]
  refine ⟨decide_eq_false ?_, rfl⟩
  simp [frameL]
/-- A frame whose number or piece is spoilt within four bytes is bad. -/
theorem IsPack.bad_body {p : ByteArray} {d s n L : Nat} {fs : List (List Nat)} (h : IsPack p d s n L fs) {k : Nat} (hk : k < fs.length) {x a y z b : List Nat} (hxb : Bytes (k :: x)) (hy : k :: x = a ++ y ++ b) (hz : fs[k].take (L + 1) = a ++ z ++ b) (hzb : Bytes z) (hyz : y.length = z.length) (h4 : y.length ≤ 4) (hne : y ≠ z)
    (hc : fs[k].drop (L + 1) = Crc.check (headL d s n ++ k :: x)) : badAt p k = true := by
  rw [h.bad k hk]
  refine decide_eq_true (Or.inr ?_)
  rw [hc, hz, hy]
  intro he
  rw [hy] at hxb
  have hab : Bytes a := fun v hv => hxb v (by simp [hv])
  have hyb : Bytes y := fun v hv => hxb v (by simp [hv])
  have hbb : Bytes b := fun v hv => hxb v (by simp [hv])
  apply hne
  apply Crc.check_burst (p := headL d s n ++ a) (q := b) (bytes_app h.headB hab) hyb hzb hbb hyz h4
  simpa using he
/-- A frame whose check is spoilt is bad. -/
theorem IsPack.bad_check {p : ByteArray} {d s n L : Nat} {fs : List (List Nat)} (h : IsPack p d s n L fs) {k : Nat} (hk : k < fs.length) {x : List Nat} (hz : fs[k].take (L + 1) = k :: x)
    (hc : fs[k].drop (L + 1) ≠ Crc.check (headL d s n ++ k :: x)) : badAt p k = true := by
  rw [h.bad k hk]
  refine decide_eq_true (Or.inr ?_)
  rw [hz]
  exact hc
/-- A whole pack: nothing is bad, and the pieces are told. -/
theorem packS_open {d s n L : Nat} {ps : List ByteArray} (d1 : 1 ≤ d) (d2 : d ≤ 10) (s2 : s ≤ 6) (n2 : n ≤ 400) (eL : L = (n + d - 1) / d) (hl : ps.length = d + s) (hp : ∀ x ∈ ps, x.size = L) : openPieces (packS d s n ps) = ps ∧ openBad (packS d s n ps) = [] := by
  have h := packS_is d1 d2 s2 n2 eL hl hp
  have g : ∀ k, (hk : k < ps.length) → badAt (packS d s n ps) k = false ∧ pieceAt (packS d s n ps) k = ps[k] := by
    intro k hk
    have hk' : k < (framesL (headL d s n) ps).length := by rw [h.len]; omega
    have := h.good hk' (x := nums ps[k]) (by rw [nums_length]; exact hp _ (List.getElem_mem hk)) (framesL_get hk' hk)
    exact ⟨this.1, nums_inj this.2⟩
  unfold openPieces openBad piecesTo badTo
  rw [h.hD, h.hS, ← hl]
  constructor
  · apply List.ext_getElem (by simp)
    intro k h1 h2
    simp only [List.getElem_map, List.getElem_range]
    exact (g k h2).2
  · rw [List.filter_eq_nil_iff]
    intro k hk
    rw [(g k (List.mem_range.1 hk)).1]
    simp
end Go.Proofs.YtokmllopbfmadaaGreatDoor.Ref
