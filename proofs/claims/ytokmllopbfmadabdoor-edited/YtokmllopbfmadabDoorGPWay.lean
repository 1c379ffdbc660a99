import Derived.Test.YtokmllopbfmadabDoorGFactors2
import Derived.Test.YtokmllopbfmadabDoorGChecks
namespace Go.Proofs.YtokmllopbfmadabDoor.Ref
open Go.RowKit Mem FieldWalks Tab ByTab Parts
open Gf (Bytes chosen left_ rowOf enough Wide chosen_ker chosen_lt chosen_length)
open Plans (But rowF intsV infoInt)

/-- Is the number lost? -/
def gone_ (lost : List Int) (j : Nat) : Bool := decide ((j : Int) ∈ lost)
/-- The factors of the taken pieces. -/
def takenA (d s : Nat) (lost : List Int) : Nat → Nat → Nat := fun n => rowOf d ((chosen (left_ lost) d s).getD n 0)
/-- The rows that lead back to the lost data pieces. -/
def backs (d j : Nat) (lost : List Int) (M : Nat → Nat → Nat) : List (List Nat) := ((List.range j).filter (gone_ lost)).map fun j => rowF d (fun n => M j (d + n))
theorem backs_next (d j : Nat) (lost : List Int) (M : Nat → Nat → Nat) : backs d (j + 1) lost M = backs d j lost M ++ (if gone_ lost j = true then [rowF d (fun n => M j (d + n))] else []) := by
  unfold backs
  rw [filter_next, List.map_append]
  split <;> rfl

set_option maxRecDepth 100000 in
set_option maxHeartbeats 2000000 in
theorem wayBack_any (d s : Nat) (lost : List Int) (lv : Value) (nb : Nat) (w : World) (ht : Table w) (hl : IsC w lv lost) (hd : 1 ≤ d) (hd2 : d ≤ 10) (hs : s ≤ 6) (hfew : lost.length ≤ s) (hnb : Blk w nb 3 (intsV (chosen (left_ lost) d s))) :
    Calls Tryd.prog 56 #[.int .i64 d, .int .i64 s, .slice (some ⟨nb, 0, none⟩) d d, lv] w fun e w' => ∃ v M, e = .returned v ∧ Wide d d (takenA d s lost) M ∧ RowsAt w' v (backs d d lost M) ∧ Below w.heap.size w w' := by
  have hen := enough d s lost hfew
  have hcl := chosen_length (left_ lost) d s hen
  have HCL : Hid ((chosen (left_ lost) d s).length = d) := hcl
  have hlt : ∀ k, (h : k < (chosen (left_ lost) d s).length) → (chosen (left_ lost) d s)[k] < d + s := fun k h => (chosen_lt (left_ lost) d s _ (List.getElem_mem h)).1
  have HMB := madeBy_any d s (chosen (left_ lost) d s) nb w ht hd hd2 hs hcl hlt hnb
  have HMBH : Hid (Calls Tryd.prog 64 #[.int .i64 d, .int .i64 s, .slice (some ⟨nb, 0, none⟩) d d] w fun e w' => ∃ v, e = .returned v ∧ RowsAt w' v ((chosen (left_ lost) d s).map fun p => rowF d (rowOf d p)) ∧ Below w.heap.size w w') := HMB
  have HA : Hid (∀ n, n < d → ∀ k, k < d → takenA d s lost n k < 256) := fun n hn k hk => by
    have hn' : n < (chosen (left_ lost) d s).length := by omega
    have := hlt n hn'
    unfold takenA
    rw [List.getD_eq_getElem?_getD, List.getElem?_eq_getElem hn', Option.getD_some]
    exact Gf.rowOf_lt _ _ _ (by omega) (by omega)
  have HK : Hid (∀ x : Nat → Nat, (∀ k, x k < 256) → (∀ r, r < d → Gf.dot d (takenA d s lost r) x = 0) → ∀ k, k < d → x k = 0) := fun x hx h0 => by
    refine chosen_ker (left_ lost) d s (by omega) hen x hx fun p hp => ?_
    obtain ⟨n, hn, rfl⟩ := List.mem_iff_getElem.1 hp
    have := h0 n (by omega)
    unfold takenA at this
    rw [List.getD_eq_getElem?_getD, List.getElem?_eq_getElem hn, Option.getD_some] at this
    exact this
  have HRW : Hid (∀ n, (h : n < ((chosen (left_ lost) d s).map fun p => rowF d (rowOf d p)).length) → ((chosen (left_ lost) d s).map fun p => rowF d (rowOf d p))[n] = rowF d (takenA d s lost n)) := fun n hn => by
    have hn' : n < (chosen (left_ lost) d s).length := by simpa using hn
    simp [takenA, hn']
  have HL : Hid (IsC w lv lost) := hl
  have HT : Hid (Table w) := ht
  obtain ⟨i0, hi, hz0, hz1, hz2⟩ := info_parts infoRow8
  clear hen hcl hlt HMB hl ht hnb hi hz0 hz1 hz2
  go_enter Tryd.func56, Tryd.ntmps56
  go_wp2_with fail
  refine Calls.mono HMBH.out ?_
  rintro e w1 ⟨av, rfl, hrows1, hb1⟩
  have hin := inverse_any d (takenA d s lost) _ av w1 (table_to HT.out hb1) hd hd2 (by simp [HCL.out]) HRW.out hrows1 HA.out HK.out
  have HIN : Hid _ := hin
  have HB1 : Hid (Below w.heap.size w w1) := hb1
  clear hin hrows1 hb1
  go_wp2_with fail
  refine Calls.mono HIN.out ?_
  rintro e w2 ⟨bv, M, rfl, hwide, hrows2, hb2⟩
  have HWI : Hid (Wide d d (takenA d s lost) M) := hwide
  have hb02 := HB1.out.trans (hb2.mono HB1.out.size)
  obtain ⟨bb, boff, bcap, rfl, hbbl, hbc⟩ := hrows2.pos (by simp; omega)
  have HBC : Hid (∀ k, (h : k < d) → ∃ u, w2.cell? ⟨bb, boff + k, none⟩ = some u ∧ BsAt w2 u (rowF d (fun n => M k (d + n)))) := fun k hk => by
    obtain ⟨u, h1, h2⟩ := hbc k (by simpa using hk)
    exact ⟨u, h1, by simpa using h2⟩
  rw [show ((List.range d).map fun r => rowF d (fun n => M r (d + n))).length = d by simp]
  have HB02 : Hid (Below w.heap.size w w2) := hb02
  have HL2 : Hid (IsC w2 lv lost) := HL.out.to hb02
  have hlb : lost.length < 2 ^ 62 := by omega
  clear hwide hrows2 hbc hb2 hb02 HIN
  go_wp2
  go_loopw [9, 18] (fun t i wr => ∃ (j : Nat) (us : List Value), j ≤ d ∧ i = .int .i64 j ∧ wr.ownsRow w2.heap.size 56 1 t us.length us ∧ ReadAs w2 us (backs d j lost M) ∧ Below w2.heap.size w2 wr) (fun _ i _ => d - (intOf i).toNat)
  case atStart => exact ⟨0, [], Nat.zero_le _, rfl, World.ownsRow_nil _ _ _ _, ⟨rfl, fun k hk => by simp [backs] at hk⟩, Below.refl _ _⟩
  case round =>
    obtain ⟨j, us, hj, rfl, hown, hread, hbel⟩ := hrel
    by_cases hjd : j < d
    · obtain ⟨u, hu, hbs⟩ := HBC.out j hjd
      rw [← hbel.cell (p := ⟨bb, boff + j, none⟩) hbbl] at hu
      obtain ⟨ta, tc, rfl⟩ := Plans.owns_form hown
      have HIC : Hid (IsC wr lv lost) := HL2.out.to hbel
      have HO : Hid (wr.ownsRow w2.heap.size 56 1 (.slice ta us.length tc) us.length us) := hown
      have HRE : Hid (ReadAs w2 us (backs d j lost M)) := hread
      have hul : us.length ≤ 10 := by
        rw [hread.1]; unfold backs; rw [List.length_map]
        have := List.length_filter_le (gone_ lost) (List.range j)
        rw [List.length_range] at this; omega
      have hsz := hbel.size
      by_cases hm : (j : Int) ∈ lost
      · have HD : Hid (decide ((j : Int) ∈ lost) = true) := decide_eq_true hm
        have HNX : Hid (backs d (j + 1) lost M = backs d j lost M ++ [rowF d (fun n => M j (d + n))]) := by
          show _ = _
          rw [backs_next, if_pos (by simp [gone_, hm])]
        have HRN : Hid (ReadAs w2 (us ++ [u]) (backs d j lost M ++ [rowF d (fun n => M j (d + n))])) := by
          refine hread.append ⟨rfl, fun k hk => ?_⟩
          obtain rfl : k = 0 := by simp at hk; omega
          exact ⟨u, rfl, hbs⟩
        have HU1 : Hid (u.oneCell' = true) := one_of_bs hbs
        obtain ⟨ua, uc, rfl⟩ : ∃ ua uc, u = .slice ua d uc := by
          obtain ⟨ua, uc, h, _⟩ := hbs
          exact ⟨ua, uc, by simpa using h⟩
        clear hown hread hbs hm
        go_wp2_with (first | (go_at_call 57; refine (contains_any lost j lv _ HIC.out hlb).mono ?_; rintro e w' ⟨rfl, rfl⟩; rw [HD.out]) | (at_builtin; refine wpList_append_one _ rfl _ _ 82 rfl w2.heap.size 56 (.slice none 0 0) 24 Tryd.underlying82 infoRow8 rfl (by decide) _ us.length us rfl (HO.out.alloc _) ⟨_, 0, none⟩ 1 (.slice ua d uc) rfl ((Blk.new _ _ _).cell_some rfl) HU1.out (by omega) (by simp; omega) ?_; intro v' w3 hown' hbel'))
        have HO3 : Hid (w3.ownsRow w2.heap.size 56 1 v' (us ++ [Value.slice ua d uc]).length (us ++ [Value.slice ua d uc])) := by
          rw [List.length_append]; exact hown'
        have HB3 : Hid (Below w2.heap.size w2 w3) := hbel' _ _ (hbel.alloc hsz _) (Nat.le_refl _)
        clear hown' hbel'
        go_roundw
        case rel => exact ⟨j + 1, us ++ [Value.slice ua d uc], by omega, by go_num, HO3.out, by rw [HNX.out]; exact HRN.out, HB3.out⟩
        case measure => simp [intOf]; omega
      · have HD : Hid (decide ((j : Int) ∈ lost) = false) := decide_eq_false hm
        have HNX : Hid (backs d (j + 1) lost M = backs d j lost M) := by
          show _ = _
          rw [backs_next, if_neg (by simp [gone_, hm]), List.append_nil]
        clear hown hread hbs hm
        go_wp2_with (go_at_call 57; refine (contains_any lost j lv _ HIC.out hlb).mono ?_; rintro e w' ⟨rfl, rfl⟩; rw [HD.out])
        go_roundw
        case rel => exact ⟨j + 1, us, by omega, by go_num, HO.out, by rw [HNX.out]; exact HRE.out, hbel⟩
        case measure => simp [intOf]; omega
    · obtain rfl : d = j := by omega
      have HR : Hid (RowsAt wr _ (backs d d lost M)) := hread.rows (by rw [← hread.1]; exact hown) hbel
      have HB9 : Hid (Below w.heap.size w wr) := HB02.out.trans (hbel.mono HB02.out.size)
      clear hown hread hbel
      go_wp2
      go_ret
      exact ⟨_, M, rfl, HWI.out, HR.out, HB9.out⟩
end Go.Proofs.YtokmllopbfmadabDoor.Ref

namespace Go.Proofs.YtokmllopbfmadabDoor.Top
open Go.RowKit Mem FieldWalks Tab ByTab Parts
open Gf (Bytes)

/-- What Sums is asked: in each of the three ways the sums. -/
def SumsOk : Prop := ∀ (x : Nat) (rows ps : List (List Nat)) (L : Nat) (rv pv : Value) (w : World), x ≤ 2 → Table w → RowsAt w rv rows → RowsC w pv ps → Fit rows ps L →
  Calls Tryd.prog 52 #[.int .i64 x, rv, pv] w fun e w' => ∃ v, e = .returned v ∧ RowsC w' v (sums rows ps L) ∧ Below w.heap.size w w'

/-- All pieces of a text, as strings. -/
def pieces (d s : Nat) (str : ByteArray) : List ByteArray :=
  texts (cuts (nums str) d ((str.size + d - 1) / d)) (sums (facs d s) (cuts (nums str) d ((str.size + d - 1) / d)) ((str.size + d - 1) / d))
theorem pieces_length (d s : Nat) (str : ByteArray) : (pieces d s str).length = d + s := by simp [pieces, texts, cuts, sums, facs]
theorem fit (d s : Nat) (str : ByteArray) (hd : 1 ≤ d) (hd2 : d ≤ 10) (hs : s ≤ 6) (hn : str.size ≤ 400) : Fit (facs d s) (cuts (nums str) d ((str.size + d - 1) / d)) ((str.size + d - 1) / d) := by
  have hL := ceil_le str.size d hd
  refine ⟨by simp [cuts]; omega, by simp [cuts]; omega, by simp [facs]; omega, fun j hj => by simp [cuts, cutAt], fun i hi => by simp [cuts, facs, facRow], fun i hi => ?_, fun j hj => Ref.cuts_bytes _ _ _ _ (nums_bytes _) _, by omega⟩
  simp only [facs, List.length_map, List.length_range] at hi
  simp only [facs, List.getElem_map, List.getElem_range]
  exact Ref.facRow_bytes _ _ (by omega)

theorem infoRows8 : (Tryd.prog.info? 82).map (fun i => (i.zero, i.size, i.bytes)) = some (some (.slice none 0 0), 1, 24) := by kernel_rfl
set_option maxRecDepth 100000 in
set_option maxHeartbeats 1000000 in
theorem whole_any (hS : SumsOk) (d s x : Nat) (ps : List (List Nat)) (L : Nat) (cv : Value) (hl : ps.length = d) (hd2 : d ≤ 10) (hs : s ≤ 6) (hx : x ≤ 2) (hfit : Fit (facs d s) ps L) (w : World) (ht : Table w) (hcut : RowsC w cv ps) :
    Calls Tryd.prog 41 #[.int .i64 s, .int .i64 x, cv] w fun e w' =>
      ∃ b, w.heap.size ≤ b ∧ e = .returned (.slice (some ⟨b, 0, none⟩) (d + s) (d + s)) ∧ Blk w' b 9 (strV (texts ps (sums (facs d s) ps L))) ∧ Below w.heap.size w w' := by
  have HFIT : Hid (Fit (facs d s) ps L) := hfit
  have HCUT : Hid (RowsC w cv ps) := hcut
  obtain ⟨ao, ex, rfl, _⟩ := hcut
  rw [hl] at HCUT ⊢
  generalize d + ex = c at HCUT ⊢
  have HL : Hid (ps.length = d) := hl
  clear hfit hl
  go_enter Tryd.func41, Tryd.ntmps41
  go_wp2_with fail
  refine (factors_any d s (by omega) (by omega) _ ht).mono ?_
  rintro e w2 ⟨fv, rfl, hfac, hb2⟩
  have hcut2 := HCUT.out.to hb2
  go_wp2_with fail
  refine (hS x _ _ _ fv (.slice ao d c) _ hx (table_to ht hb2) hfac hcut2 HFIT.out).mono ?_
  rintro e w3 ⟨sv, rfl, hsum, hb3⟩
  have hb13 := hb2.trans (hb3.mono hb2.size)
  have HCUT3 : Hid (RowsAt w3 (.slice ao d c) ps) := (hcut2.to hb3).rows
  have HSUM : Hid (RowsAt w3 sv (sums (facs d s) ps L)) := hsum.rows
  obtain ⟨sao, sc, hsv, _⟩ := hsum.rows
  subst hsv
  have hsl : (sums (facs d s) ps L).length = s := by simp [sums, facs]
  rw [hsl] at HSUM
  rw [hsl]
  have HSL : Hid ((sums (facs d s) ps L).length = s) := hsl
  obtain ⟨i1, hi, hz0, hz1, hz2⟩ := info_parts infoRows8
  clear hfac hcut2 hb2 hb3 hsl hsum
  have hb34 : Below w3.heap.size w3 (w3.alloc (.cells #[.slice ao d c, .slice sao s sc] 82)) := (Below.refl _ _).alloc (Nat.le_refl _) _
  have HBN : Hid (Blk (w3.alloc (.cells #[.slice ao d c, .slice sao s sc] 82)) w3.heap.size 82 [.slice ao d c, .slice sao s sc]) := Blk.new w3 #[.slice ao d c, .slice sao s sc] 82
  have HR : Hid (RowssAt (w3.alloc (.cells #[.slice ao d c, .slice sao s sc] 82)) (.slice (some ⟨w3.heap.size, 0, none⟩) 2 2) [ps, sums (facs d s) ps L]) := by
    refine ⟨_, _, rfl, HBN.out.lt, fun k hk => ?_⟩
    match k, hk with
    | 0, _ => exact ⟨_, HBN.out.cell_some rfl, HCUT3.out.to hb34⟩
    | 1, _ => exact ⟨_, HBN.out.cell_some rfl, HSUM.out.to hb34⟩
  have HB34 : Hid (Below w.heap.size w (w3.alloc (.cells #[.slice ao d c, .slice sao s sc] 82))) := hb13.trans (hb34.mono hb13.size)
  have hfl : [ps, sums (facs d s) ps L].flatten.length = d + s := by simp [HL.out, HSL.out]
  have HFL : Hid ([ps, sums (facs d s) ps L].flatten.length = d + s) := hfl
  clear hb34 hfl
  go_wp2_with fail
  refine (concat_any _ _ _ HR.out (by simp) (by rw [HFL.out]; omega)).mono ?_
  rintro e w5 ⟨v5, rfl, hrows, hb5⟩
  have hb15 := HB34.out.trans (hb5.mono HB34.out.size)
  have HROWS : Hid (RowsAt w5 v5 [ps, sums (facs d s) ps L].flatten) := hrows
  clear hrows hb5 hb13
  go_wp2_with fail
  refine (asTexts_any _ v5 _ HROWS.out (by rw [HFL.out]; omega)).mono ?_
  rintro e w6 ⟨b, hb, rfl, hblk, hb6⟩
  rw [HFL.out]
  have HBLK : Hid (Blk w6 b 9 (strV (texts ps (sums (facs d s) ps L)))) := by
    have : [ps, sums (facs d s) ps L].flatten = ps ++ sums (facs d s) ps L := by simp
    rw [this] at hblk; exact hblk
  clear hblk
  go_wp2
  go_ret
  exact ⟨b, Nat.le_trans hb15.size hb, rfl, HBLK.out, hb15.trans (hb6.mono hb15.size)⟩

set_option maxRecDepth 100000 in
set_option maxHeartbeats 1000000 in
theorem pSpread_any (hS : SumsOk) (d s x : Nat) (str : ByteArray) (hd : 1 ≤ d) (hd2 : d ≤ 10) (hs : s ≤ 6) (hx : x ≤ 2) (hn : str.size ≤ 400) (w : World) (ht : Table w) :
    Calls Tryd.prog 27 #[.int .i64 d, .int .i64 s, .int .i64 x, .string str] w fun e w' =>
      ∃ b, w.heap.size ≤ b ∧ e = .returned (.slice (some ⟨b, 0, none⟩) (d + s) (d + s)) ∧ Blk w' b 9 (strV (pieces d s str)) ∧ Below w.heap.size w w' := by
  have hfit := fit d s str hd hd2 hs hn
  have HFIT : Hid (Fit (facs d s) (cuts (nums str) d ((str.size + d - 1) / d)) ((str.size + d - 1) / d)) := hfit
  clear hfit
  go_enter Tryd.func27, Tryd.ntmps27
  go_wp2_with fail
  refine (cut_any d str hd (by omega) (by omega) _ rfl _).mono ?_
  rintro e w1 ⟨cv, rfl, hcut, hb1⟩
  go_wp2_with fail
  refine (whole_any hS d s x (cuts (nums str) d ((str.size + d - 1) / d)) ((str.size + d - 1) / d) cv (by simp [cuts]) hd2 hs hx HFIT.out _ (table_to ht hb1) hcut).mono ?_
  rintro e w4 ⟨b, hb, rfl, hblk, hb4⟩
  have HBLK : Hid (Blk w4 b 9 (strV (pieces d s str))) := hblk
  clear hblk hcut
  go_wp2
  go_ret
  exact ⟨b, Nat.le_trans hb1.size hb, rfl, HBLK.out, hb1.trans (hb4.mono hb1.size)⟩

/-- What Spread answers with an error. -/
def spreadE (d s x : Int) (n : Nat) : Int := if okCounts d s = true then (if okWay x = true then (if 400 < n then 5 else 0) else 4) else 3

set_option maxRecDepth 100000 in
set_option maxHeartbeats 1000000 in
theorem wSpread_ok (hS : SumsOk) (d s x : Nat) (str : ByteArray) (hd : 1 ≤ d) (hd2 : d ≤ 10) (hs : s ≤ 6) (hx : x ≤ 2) (hn : str.size ≤ 400) (w : World) (ht : Table w) :
    Calls Tryd.prog 17 #[.int .i64 d, .int .i64 s, .int .i64 x, .string str] w fun e w' =>
      ∃ b, w.heap.size ≤ b ∧ e = .returned (.tuple #[.slice (some ⟨b, 0, none⟩) (d + s) (d + s), .int .i64 0]) ∧ Blk w' b 9 (strV (pieces d s str)) ∧ Below w.heap.size w w' := by
  have hok : okCounts d s = true := okCounts_yes _ _ (by omega)
  have how : okWay x = true := okWay_yes _ (by omega)
  go_enter Tryd.func17, Tryd.ntmps17
  go_wp2_with fail
  refine (areCounts_any _ _ _).mono ?_
  rintro e w' ⟨rfl, rfl⟩
  go_wp2_with fail
  refine (isWay_any _ _).mono ?_
  rintro e w' ⟨rfl, rfl⟩
  go_wp2_with fail
  refine (pSpread_any hS d s x str hd hd2 hs hx hn _ ht).mono ?_
  rintro e w1 ⟨b, hb, rfl, hblk, hb1⟩
  go_wp2
  go_ret2
  exact ⟨b, hb, rfl, hblk, hb1⟩
set_option maxRecDepth 100000 in
theorem wSpread_no (d s x : Int) (str : ByteArray) (hlen : str.size ≤ maxLen) (hE : spreadE d s x str.size ≠ 0) (w : World) :
    Calls Tryd.prog 17 #[.int .i64 d, .int .i64 s, .int .i64 x, .string str] w fun e w' =>
      e = .returned (.tuple #[.slice none 0 0, .int .i64 (spreadE d s x str.size)]) ∧ w' = w := by
  unfold maxLen at hlen
  cases hok : okCounts d s
  · rw [show spreadE d s x str.size = 3 by simp [spreadE, hok]]
    clear hE
    go_enter Tryd.func17, Tryd.ntmps17
    go_wp2_with fail
    refine (areCounts_any _ _ _).mono ?_
    rintro e w' ⟨rfl, rfl⟩
    go_wp2
    go_ret2
    exact ⟨rfl, rfl⟩
  · cases how : okWay x
    · rw [show spreadE d s x str.size = 4 by simp [spreadE, hok, how]]
      clear hE
      go_enter Tryd.func17, Tryd.ntmps17
      go_wp2_with fail
      refine (areCounts_any _ _ _).mono ?_
      rintro e w' ⟨rfl, rfl⟩
      go_wp2_with fail
      refine (isWay_any _ _).mono ?_
      rintro e w' ⟨rfl, rfl⟩
      go_wp2
      go_ret2
      exact ⟨rfl, rfl⟩
    · have hbig : 400 < str.size := by
        by_cases h : 400 < str.size
        · exact h
        · exact absurd (by simp [spreadE, hok, how, h]) hE
      rw [show spreadE d s x str.size = 5 by simp [spreadE, hok, how, hbig]]
      clear hE
      go_enter Tryd.func17, Tryd.ntmps17
      go_wp2_with fail
      refine (areCounts_any _ _ _).mono ?_
      rintro e w' ⟨rfl, rfl⟩
      go_wp2_with fail
      refine (isWay_any _ _).mono ?_
      rintro e w' ⟨rfl, rfl⟩
      go_wp2
      go_ret2
      exact ⟨rfl, rfl⟩
end Go.Proofs.YtokmllopbfmadabDoor.Top
