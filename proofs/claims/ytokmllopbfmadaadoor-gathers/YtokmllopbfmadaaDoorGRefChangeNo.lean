import Derived.Test.YtokmllopbfmadaaDoorGRefRestored
import Derived.Test.YtokmllopbfmadaaDoorGPChange
import Derived.Test.YtokmllopbfmadaaDoorGConcat
import Derived.Test.YtokmllopbfmadaaDoorGChosen
import Derived.Test.YtokmllopbfmadaaDoorGPRebuild
import Derived.Test.YtokmllopbfmadaaDoorGMem
namespace Go.Proofs.YtokmllopbfmadaaDoor.Ref
open Go.RowKit Mem FieldWalks Tab ByTab Parts

/-- With an error no pieces. -/
def CNo (k : Int) (e : Ending) : Prop := e = .returned (.tuple #[.slice none 0 0, .int .i64 k])

set_option maxRecDepth 100000 in
set_option maxHeartbeats 400000 in
theorem rChange_count (d s n a : Int) (pv : Value) (text : ByteArray) (h : okCounts d s = false) (w : World) :
    Calls Tryd.prog 68 #[.int .i64 d, .int .i64 s, .int .i64 n, pv, .int .i64 a, .string text] w fun e w' => CNo 3 e ∧ w' = w := by
  go_enter Tryd.func68, Tryd.ntmps68
  go_wp2_with fail
  refine (rCounts_any _ _ _).mono ?_
  rintro e w' ⟨rfl, rfl⟩
  go_wp2
  go_ret2
  exact ⟨rfl, rfl⟩
set_option maxRecDepth 100000 in
set_option maxHeartbeats 400000 in
theorem rChange_long (d s n a : Int) (pv : Value) (text : ByteArray) (h1 : okCounts d s = true) (h : ¬ (0 ≤ n ∧ n ≤ 400)) (w : World) :
    Calls Tryd.prog 68 #[.int .i64 d, .int .i64 s, .int .i64 n, pv, .int .i64 a, .string text] w fun e w' => CNo 5 e ∧ w' = w := by
  by_cases h0 : n < 0
  · have e1 : decide (n < 0) = true := decide_eq_true h0
    go_enter Tryd.func68, Tryd.ntmps68
    go_wp2_with fail
    refine (rCounts_any _ _ _).mono ?_
    rintro e w' ⟨rfl, rfl⟩
    go_wp2
    go_ret2
    exact ⟨rfl, rfl⟩
  · have e1 : decide (n < 0) = false := decide_eq_false h0
    have e2 : decide (400 < n) = true := decide_eq_true (by omega)
    go_enter Tryd.func68, Tryd.ntmps68
    go_wp2_with fail
    refine (rCounts_any _ _ _).mono ?_
    rintro e w' ⟨rfl, rfl⟩
    go_wp2
    go_ret2
    exact ⟨rfl, rfl⟩
set_option maxRecDepth 100000 in
set_option maxHeartbeats 1000000 in
theorem rChange_shape (d s n : Nat) (a : Int) (pieces : List ByteArray) (pv : Value) (text : ByteArray) (w : World) (hp : StrsAt w pv pieces) (hpl : pieces.length < 2 ^ 62) (hd : 1 ≤ d) (hd2 : d ≤ 10) (hs : s ≤ 6) (hn : n ≤ 400) (hsz : ∀ p, (h : p < pieces.length) → pieces[p].size < 2 ^ 62)
    (hno : ¬ ShapeOk d s ((n + d - 1) / d) pieces []) :
    Calls Tryd.prog 68 #[.int .i64 d, .int .i64 s, .int .i64 n, pv, .int .i64 a, .string text] w fun e w' => CNo 6 e ∧ Drew w w' := by
  have hok : okCounts d s = true := okCounts_yes _ _ (by omega)
  have e1 : decide ((n : Int) < 0) = false := decide_eq_false (by omega)
  have e2 : decide ((400 : Int) < (n : Int)) = false := decide_eq_false (by omega)
  have HSH : Hid (Calls Tryd.prog 91 #[.int .i64 d, .int .i64 s, .int .i64 n, pv, .slice none 0 0] w fun e w'' => e = .returned (.bool false) ∧ Drew w w'') := by
    refine (shaped_any d s n _ pieces [] pv _ w hp ⟨none, 0, rfl, .inl rfl⟩ (by simp) hpl hd hd2 hs hn rfl hsz).mono ?_
    rintro e w'' ⟨⟨b, rfl, hb⟩, hw⟩
    cases b
    · exact ⟨rfl, hw⟩
    · exact absurd (hb.1 rfl) hno
  go_enter Tryd.func68, Tryd.ntmps68
  go_wp2_with fail
  refine (rCounts_any _ _ _).mono ?_
  rintro e w' ⟨rfl, rfl⟩
  go_wp2_with fail
  refine Calls.mono HSH.out ?_
  rintro e w2 ⟨rfl, hw2⟩
  go_wp2
  go_ret2
  exact ⟨rfl, hw2⟩
set_option maxRecDepth 100000 in
set_option maxHeartbeats 1000000 in
theorem rChange_range (d s n : Nat) (a : Int) (pieces : List ByteArray) (pv : Value) (text : ByteArray) (w : World) (hp : StrsAt w pv pieces) (hpl : pieces.length < 2 ^ 62) (hd : 1 ≤ d) (hd2 : d ≤ 10) (hs : s ≤ 6) (hn : n ≤ 400) (hsz : ∀ p, (h : p < pieces.length) → pieces[p].size < 2 ^ 62)
    (ha1 : -(2 : Int) ^ 63 ≤ a) (ha2 : a < (2 : Int) ^ 63) (hyes : ShapeOk d s ((n + d - 1) / d) pieces []) (hr : ¬ (0 ≤ a ∧ a + text.size ≤ n)) :
    Calls Tryd.prog 68 #[.int .i64 d, .int .i64 s, .int .i64 n, pv, .int .i64 a, .string text] w fun e w' => CNo 8 e ∧ Drew w w' := by
  have hok : okCounts d s = true := okCounts_yes _ _ (by omega)
  have e1 : decide ((n : Int) < 0) = false := decide_eq_false (by omega)
  have e2 : decide ((400 : Int) < (n : Int)) = false := decide_eq_false (by omega)
  have HSH : Hid (Calls Tryd.prog 91 #[.int .i64 d, .int .i64 s, .int .i64 n, pv, .slice none 0 0] w fun e w'' => e = .returned (.bool true) ∧ Drew w w'') := by
    refine (shaped_any d s n _ pieces [] pv _ w hp ⟨none, 0, rfl, .inl rfl⟩ (by simp) hpl hd hd2 hs hn rfl hsz).mono ?_
    rintro e w'' ⟨⟨b, rfl, hb⟩, hw⟩
    rw [hb.2 hyes]
    exact ⟨rfl, hw⟩
  by_cases h0 : a < 0
  · have e4 : decide (a < 0) = true := decide_eq_true h0
    go_enter Tryd.func68, Tryd.ntmps68
    go_wp2_with fail
    refine (rCounts_any _ _ _).mono ?_
    rintro e w' ⟨rfl, rfl⟩
    go_wp2_with fail
    refine Calls.mono HSH.out ?_
    rintro e w2 ⟨rfl, hw2⟩
    go_wp2
    go_ret2
    exact ⟨rfl, hw2⟩
  · have e4 : decide (a < 0) = false := decide_eq_false h0
    by_cases h5 : (n : Int) < a
    · have e5 : decide ((n : Int) < a) = true := decide_eq_true h5
      go_enter Tryd.func68, Tryd.ntmps68
      go_wp2_with fail
      refine (rCounts_any _ _ _).mono ?_
      rintro e w' ⟨rfl, rfl⟩
      go_wp2_with fail
      refine Calls.mono HSH.out ?_
      rintro e w2 ⟨rfl, hw2⟩
      go_wp2
      go_ret2
      exact ⟨rfl, hw2⟩
    · have e5 : decide ((n : Int) < a) = false := decide_eq_false h5
      have e6 : decide ((n : Int) - a < (text.size : Int)) = true := decide_eq_true (by omega)
      go_enter Tryd.func68, Tryd.ntmps68
      go_wp2_with fail
      refine (rCounts_any _ _ _).mono ?_
      rintro e w' ⟨rfl, rfl⟩
      go_wp2_with fail
      refine Calls.mono HSH.out ?_
      rintro e w2 ⟨rfl, hw2⟩
      go_wp2
      go_ret2
      exact ⟨rfl, hw2⟩
end Go.Proofs.YtokmllopbfmadaaDoor.Ref

namespace Go.Proofs.YtokmllopbfmadaaDoor.Ref
open Go.RowKit Mem FieldWalks Tab ByTab Parts
open Gf (Bytes newP)
open Plans (rowF)

/-- The shape, as the program asks it. -/
theorem shapeOk_iff (d s L : Nat) (pieces : List ByteArray) (lost : List Int) : ShapeOk d s L pieces lost ↔ NumsOk (d + s) lost ∧ (pieces.length = d + s ∧ SizesOk L pieces lost) :=
  ⟨fun h => ⟨h.nums, h.count, h.sizes⟩, fun h => ⟨h.2.1, h.1, h.2.2⟩⟩

section
variable (pv : Value) (text : ByteArray) (w : World)
set_option maxRecDepth 100000
theorem cFault_count (d s n a : Int) (h : okCounts d s = false) :
    Calls Tryd.prog 66 #[.int .i64 d, .int .i64 s, .int .i64 n, pv, .int .i64 a, .string text] w fun e w' => e = .returned (.int .i64 3) ∧ w' = w := by
  go_enter Tryd.func66, Tryd.ntmps66
  go_wp2_with fail
  refine (areCounts_any _ _ _).mono ?_
  rintro e w' ⟨rfl, rfl⟩
  go_wp2
  go_ret
  exact ⟨rfl, rfl⟩
theorem cFault_long (d s n a : Int) (h1 : okCounts d s = true) (h : ¬ (0 ≤ n ∧ n ≤ 400)) :
    Calls Tryd.prog 66 #[.int .i64 d, .int .i64 s, .int .i64 n, pv, .int .i64 a, .string text] w fun e w' => e = .returned (.int .i64 5) ∧ w' = w := by
  have hz := okSize_no n h
  clear h
  go_enter Tryd.func66, Tryd.ntmps66
  go_wp2_with fail
  refine (areCounts_any _ _ _).mono ?_
  rintro e w' ⟨rfl, rfl⟩
  go_wp2_with fail
  refine (isSize_any _ _).mono ?_
  rintro e w' ⟨rfl, rfl⟩
  go_wp2
  go_ret
  exact ⟨rfl, rfl⟩
theorem cFault_shape (d s n : Nat) (a : Int) (pieces : List ByteArray) (hp : StrsAt w pv pieces) (hpl : pieces.length < 2 ^ 62) (hd : 1 ≤ d) (hd2 : d ≤ 10) (hs : s ≤ 6) (hn : n ≤ 400) (hsz : ∀ p, (h : p < pieces.length) → pieces[p].size < 2 ^ 62)
    (hno : ¬ ShapeOk d s ((n + d - 1) / d) pieces []) :
    Calls Tryd.prog 66 #[.int .i64 d, .int .i64 s, .int .i64 n, pv, .int .i64 a, .string text] w fun e w' => e = .returned (.int .i64 6) ∧ w' = w := by
  have hok : okCounts d s = true := okCounts_yes _ _ (by omega)
  have hz : okSize n = true := okSize_yes _ (by omega)
  have hnil : IsC w (.slice none 0 0) [] := ⟨none, 0, rfl, .inl rfl⟩
  have HG : Hid (Calls Tryd.prog 88 #[.int .i64 d, .int .i64 s, .int .i64 n, pv, .slice none 0 0] w fun e w'' => e = .returned (.bool false) ∧ w'' = w) := by
    refine (goTogether_any d s n _ pieces [] pv _ w hp hnil (by simp) hpl hd hd2 hs hn rfl hsz).mono ?_
    rintro e w'' ⟨⟨b, rfl, hb⟩, rfl⟩
    cases b with
    | false => exact ⟨rfl, rfl⟩
    | true => exact absurd ((shapeOk_iff _ _ _ _ _).2 ⟨fun k hk => by simp at hk, hb.1 rfl⟩) hno
  clear hno hnil hp hpl hsz
  go_enter Tryd.func66, Tryd.ntmps66
  go_wp2_with fail
  refine (areCounts_any _ _ _).mono ?_
  rintro e w' ⟨rfl, rfl⟩
  go_wp2_with fail
  refine (isSize_any _ _).mono ?_
  rintro e w' ⟨rfl, rfl⟩
  go_wp2_with fail
  refine Calls.mono HG.out ?_
  rintro e w' ⟨rfl, rfl⟩
  go_wp2
  go_ret
  exact ⟨rfl, rfl⟩
theorem cFault_range (d s n : Nat) (a : Int) (pieces : List ByteArray) (hp : StrsAt w pv pieces) (hd : 1 ≤ d) (hd2 : d ≤ 10) (hs : s ≤ 6) (hn : n ≤ 400) (hsz : ∀ p, (h : p < pieces.length) → pieces[p].size < 2 ^ 62) (ha2 : a ≤ 9223372036854775807) (hlen : text.size ≤ maxLen)
    (hyes : ShapeOk d s ((n + d - 1) / d) pieces []) :
    Calls Tryd.prog 66 #[.int .i64 d, .int .i64 s, .int .i64 n, pv, .int .i64 a, .string text] w fun e w' => e = .returned (.int .i64 (if okWithin n a text.size = true then 0 else 8)) ∧ w' = w := by
  have hok : okCounts d s = true := okCounts_yes _ _ (by omega)
  have hz : okSize n = true := okSize_yes _ (by omega)
  have hnil : IsC w (.slice none 0 0) [] := ⟨none, 0, rfl, .inl rfl⟩
  have HG : Hid (Calls Tryd.prog 88 #[.int .i64 d, .int .i64 s, .int .i64 n, pv, .slice none 0 0] w fun e w'' => e = .returned (.bool true) ∧ w'' = w) := by
    refine (goTogether_any d s n _ pieces [] pv _ w hp hnil (by simp) (by rw [hyes.count]; omega) hd hd2 hs hn rfl hsz).mono ?_
    rintro e w'' ⟨⟨b, rfl, hb⟩, rfl⟩
    rw [hb.2 ((shapeOk_iff _ _ _ _ _).1 hyes).2]
    exact ⟨rfl, rfl⟩
  clear hnil hp hsz hyes
  obtain ⟨q, hq⟩ : ∃ q, q = okWithin n a text.size := ⟨_, rfl⟩
  rw [← hq]
  have HQ : Hid (q = okWithin n a text.size) := hq
  clear hq
  cases q <;>
  · go_enter Tryd.func66, Tryd.ntmps66
    go_wp2_with fail
    refine (areCounts_any _ _ _).mono ?_
    rintro e w' ⟨rfl, rfl⟩
    go_wp2_with fail
    refine (isSize_any _ _).mono ?_
    rintro e w' ⟨rfl, rfl⟩
    go_wp2_with fail
    refine Calls.mono HG.out ?_
    rintro e w' ⟨rfl, rfl⟩
    go_wp2_with fail
    refine (isWithin_any n hn a ha2 text hlen _).mono ?_
    rintro e w' ⟨rfl, rfl⟩
    rw [← HQ.out]
    go_wp2
    go_ret
    exact ⟨rfl, rfl⟩
theorem wChange_no (k : Nat) (hk : 1 ≤ k) (_hk2 : k ≤ 100) (d s n a : Int) (hF : Calls Tryd.prog 66 #[.int .i64 d, .int .i64 s, .int .i64 n, pv, .int .i64 a, .string text] w fun e w' => e = .returned (.int .i64 k) ∧ w' = w) :
    Calls Tryd.prog 29 #[.int .i64 d, .int .i64 s, .int .i64 n, pv, .int .i64 a, .string text] w fun e w' => CNo k e ∧ w' = w := by
  have hk0 : ((k : Int) != 0) = true := by simp; omega
  have hk1 : ¬ k = 0 := by omega
  go_enter Tryd.func29, Tryd.ntmps29
  go_wp2_with fail
  refine Calls.mono hF ?_
  rintro e w' ⟨rfl, rfl⟩
  go_wp2
  go_ret2
  exact ⟨rfl, rfl⟩
theorem wChange_ok (d s n at_ L : Nat) (pieces : List ByteArray) (ht : Table w) (hp : StrsAt w pv pieces) (hd : 1 ≤ d) (hd2 : d ≤ 10) (hs : s ≤ 6) (hn : n ≤ 400) (hL : L = (n + d - 1) / d) (hsz : ∀ p, (h : p < pieces.length) → pieces[p].size < 2 ^ 62)
    (hyes : ShapeOk d s L pieces []) (hat : at_ + text.size ≤ n) :
    Calls Tryd.prog 29 #[.int .i64 d, .int .i64 s, .int .i64 n, pv, .int .i64 at_, .string text] w fun e w' => ∃ b, w.heap.size ≤ b ∧ e = .returned (.tuple #[.slice (some ⟨b, 0, none⟩) (d + s) (d + s), .int .i64 0]) ∧
      Blk w' b 9 (strV ((List.range (d + s)).map fun p => mkS (rowF L (newP d L at_ (nums text) text.size (oldOf pieces) p)))) ∧ Below w.heap.size w w' := by
  have hF := cFault_range pv text w d s n at_ pieces hp hd hd2 hs hn hsz (by omega) (by unfold maxLen; omega) (by rw [← hL]; exact hyes)
  rw [show okWithin n at_ text.size = true by simp [okWithin]; omega, if_pos rfl] at hF
  have HP := pChange_any d s n at_ L pieces text pv w ht hp hd hd2 hs hn hL hyes hat
  have HPH : Hid _ := HP
  have HFH : Hid _ := hF
  clear HP hF hyes hsz hp
  go_enter Tryd.func29, Tryd.ntmps29
  go_wp2_with fail
  refine Calls.mono HFH.out ?_
  rintro e w' ⟨rfl, rfl⟩
  go_wp2_with fail
  refine Calls.mono HPH.out ?_
  rintro e w1 ⟨b, hb, rfl, hblk, hb1⟩
  have HBLK : Hid (Blk w1 b 9 (strV ((List.range (d + s)).map fun p => mkS (rowF L (newP d L at_ (nums text) text.size (oldOf pieces) p))))) := hblk
  clear hblk
  go_wp2
  go_ret2
  exact ⟨b, hb, rfl, HBLK.out, hb1⟩
end
end Go.Proofs.YtokmllopbfmadaaDoor.Ref

/- What follows (P12), in lists alone: pieces of a text fit it, and what Change makes of them are the changed text's. -/
namespace Go.Proofs.YtokmllopbfmadaaDoor.Top
open Go.RowKit Mem FieldWalks Tab ByTab Parts Ref
open Gf (Bytes sumTo rowOf dot colOf Fits xs newP newD times inv)
open Plans (rowF)

theorem mkS_nums (s : ByteArray) : mkS (nums s) = s := by
  apply ByteArray.ext
  simp only [mkS, nums, List.map_map]
  have : (UInt8.ofNat ∘ UInt8.toNat) = id := by funext x; simp
  rw [this, List.map_id]
theorem nums_mkS (l : List Nat) (h : Bytes l) : nums (mkS l) = l := by
  simp only [mkS, nums, List.map_map]
  conv => rhs; rw [← List.map_id l]
  refine List.map_congr_left fun x hx => ?_
  have := h x hx
  simp [UInt8.toNat_ofNat']; omega
theorem cuts_length (l : List Nat) (d L : Nat) : (cuts l d L).length = d := by simp [cuts]
theorem cuts_size (l : List Nat) (d L j : Nat) (h : j < (cuts l d L).length) : (cuts l d L)[j].length = L := by simp [cuts, cutAt]
theorem colOf_cuts (l : List Nat) (d L t k : Nat) (ht : t < L) (hk : k < d) : colOf (cuts l d L) t k = l.getD (k * L + t) 0 := by
  unfold colOf cuts cutAt
  simp [hk, ht]
/-- The byte t of piece p of these data pieces. -/
theorem piece_dot (d s L : Nat) (ps : List (List Nat)) (hlen : ps.length = d) (hl : ∀ j, (h : j < ps.length) → ps[j].length = L) (hb : ∀ j, (h : j < ps.length) → Bytes ps[j]) (hds : d + s ≤ 256) (p : Nat) (hp : p < d + s) (t : Nat) (ht : t < L) :
    (nums ((texts ps (sums (facs d s) ps L)).getD p ByteArray.empty)).getD t 0 = dot d (rowOf d p) (colOf ps t) := by
  have hx := Gf.colOf_lt hb t
  by_cases hpd : p < d
  · have hpl : p < ps.length := by omega
    rw [Gf.dot_unit d p hpd _ fun k _ => hx k]
    have e : (texts ps (sums (facs d s) ps L)).getD p ByteArray.empty = mkS ps[p] := by
      unfold texts
      rw [List.getD_eq_getElem?_getD, List.getElem?_map, List.getElem?_append_left hpl, List.getElem?_eq_getElem hpl]; rfl
    rw [e, nums_mkS _ (hb p hpl)]
    simp [colOf, hpl]
  · obtain ⟨i, rfl⟩ : ∃ i, p = d + i := ⟨p - d, by omega⟩
    have hi : i < s := by omega
    have e : (texts ps (sums (facs d s) ps L)).getD (d + i) ByteArray.empty = mkS (sumTo (facRow d i) ps L ps.length) := by
      unfold texts
      rw [List.getD_eq_getElem?_getD, List.getElem?_map, List.getElem?_append_right (by omega), hlen]
      simp [sums, facs, hi, hlen]
    rw [e, nums_mkS _ (Gf.sumTo_bytes _ ps L (facRow_bytes d i (by omega)) _), Gf.sumTo_dot _ ps L t hl ht _ (Nat.le_refl _), hlen]
    refine Gf.xs_congr fun k hk => ?_
    rw [show rowOf d (d + i) k = inv ((d + i) ^^^ k) by unfold rowOf; rw [if_neg (by omega)]]
    simp [facRow, hk]
/-- Pieces of a text, some of them spoilt: the text's data pieces fit those that are left. -/
theorem pieces_fit (d s : Nat) (str : ByteArray) (lost : List Int) (spoilt : List ByteArray) (hds : d + s ≤ 256) (hsp : ∀ p, p < d + s → (p : Int) ∉ lost → spoilt.getD p ByteArray.empty = (pieces d s str).getD p ByteArray.empty) :
    Fits d ((str.size + d - 1) / d) (Gf.chosen (Gf.left_ lost) d s) (fun p => nums (spoilt.getD p ByteArray.empty)) (cuts (nums str) d ((str.size + d - 1) / d)) := by
  have hb : ∀ j, (h : j < (cuts (nums str) d ((str.size + d - 1) / d)).length) → Bytes (cuts (nums str) d ((str.size + d - 1) / d))[j] := fun j h => cuts_bytes _ _ _ _ (nums_bytes _) _
  refine ⟨cuts_length _ _ _, cuts_size _ _ _, hb, fun p hp t ht => ?_⟩
  have h1 := Gf.chosen_lt _ _ _ _ hp
  rw [hsp p h1.1 (by simpa [Gf.left_] using h1.2)]
  exact (piece_dot d s _ _ (cuts_length _ _ _) (cuts_size _ _ _) hb hds p h1.1 t ht).symm
theorem flatten_cuts (l : List Nat) (L : Nat) : ∀ d, (cuts l d L).flatten = (List.range (d * L)).map fun i => l.getD i 0 := by
  intro d
  induction d with
  | zero => simp [cuts]
  | succ d ih =>
    have e : cuts l (d + 1) L = cuts l d L ++ [cutAt l L d] := by simp [cuts, List.range_succ]
    rw [e, List.flatten_append, ih, Nat.add_mul, Nat.one_mul, List.range_add, List.map_append]
    simp [cutAt]
theorem flatten_take (l : List Nat) (d L n : Nat) (hn : l.length = n) (h : n ≤ d * L) : (cuts l d L).flatten.take n = l := by
  rw [flatten_cuts]
  apply List.ext_getElem
  · simp; omega
  · intro i h1 h2
    simp [h2]
theorem pieces_sizes (d s : Nat) (str : ByteArray) (p : Nat) (hp : p < (pieces d s str).length) : (pieces d s str)[p].size = (str.size + d - 1) / d := by
  rw [pieces_length] at hp
  have key : ∀ (ps : List (List Nat)) (L : Nat) (hl : ∀ j, (h : j < ps.length) → ps[j].length = L), ps.length = d → ∀ q, (h : q < (texts ps (sums (facs d s) ps L)).length) → ((texts ps (sums (facs d s) ps L))[q]).size = L := by
    intro ps L hl hlen q h
    have hq : q < d + s := by simpa [texts, sums, facs, hlen] using h
    have h' : q < (ps ++ sums (facs d s) ps L).length := by simpa [texts] using h
    have e0 : (texts ps (sums (facs d s) ps L))[q] = mkS (ps ++ sums (facs d s) ps L)[q] := List.getElem_map _
    rw [e0, mkS_size]
    by_cases e : q < ps.length
    · rw [List.getElem_append_left e]; exact hl q e
    · rw [List.getElem_append_right (by omega)]
      simp only [sums, List.getElem_map]
      exact Gf.sumTo_length _ ps L hl _ (Nat.le_refl _)
  exact key _ _ (cuts_size _ _ _) (cuts_length _ _ _) p _

/-- A text, written over. -/
def overL (l : List Nat) (at_ : Nat) (t : List Nat) : List Nat := l.take at_ ++ t ++ l.drop (at_ + t.length)
theorem overL_length (l : List Nat) (at_ : Nat) (t : List Nat) (h : at_ + t.length ≤ l.length) : (overL l at_ t).length = l.length := by simp [overL]; omega
theorem overL_getD (l : List Nat) (at_ : Nat) (t : List Nat) (h : at_ + t.length ≤ l.length) (i : Nat) : (overL l at_ t).getD i 0 = if at_ ≤ i ∧ i < at_ + t.length then t.getD (i - at_) 0 else l.getD i 0 := by
  unfold overL
  simp only [List.getD_eq_getElem?_getD, List.append_assoc]
  by_cases h1 : i < at_
  · rw [List.getElem?_append_left (by simp; omega), if_neg (by omega), List.getElem?_take_of_lt h1]
  · rw [List.getElem?_append_right (by simp; omega)]
    have e : (l.take at_).length = at_ := by simp; omega
    rw [e]
    by_cases h2 : i < at_ + t.length
    · rw [List.getElem?_append_left (by omega), if_pos (by omega)]
    · rw [List.getElem?_append_right (by omega), if_neg (by omega), List.getElem?_drop, show at_ + t.length + (i - at_ - t.length) = i by omega]
theorem newD_cuts (d L at_ : Nat) (str str2 t : ByteArray) (old : Nat → Nat → Nat) (h : at_ + t.size ≤ str.size) (h2 : nums str2 = overL (nums str) at_ (nums t)) (j : Nat) (hj : j < d) (u : Nat) (hu : u < L) (ho : old j u = colOf (cuts (nums str) d L) u j) :
    newD L at_ (nums t) t.size old j u = colOf (cuts (nums str2) d L) u j := by
  rw [colOf_cuts _ _ _ _ _ hu hj] at ho ⊢
  rw [h2, overL_getD _ _ _ (by rw [nums_length, nums_length]; exact h), nums_length]
  unfold newD
  rw [ho]
/-- ████ What Change makes of a text's pieces are the changed text's. ████ -/
theorem change_pieces (d s at_ : Nat) (str str2 t : ByteArray) (hds : d + s ≤ 256) (h : at_ + t.size ≤ str.size) (h2 : nums str2 = overL (nums str) at_ (nums t)) :
    ((List.range (d + s)).map fun p => mkS (rowF ((str.size + d - 1) / d) (newP d ((str.size + d - 1) / d) at_ (nums t) t.size (oldOf (pieces d s str)) p))) = pieces d s str2 := by
  have hsz : str2.size = str.size := by rw [← nums_length, h2, overL_length _ _ _ (by rw [nums_length, nums_length]; exact h), nums_length]
  obtain ⟨L, hL⟩ : ∃ L, L = (str.size + d - 1) / d := ⟨_, rfl⟩
  have hL2 : (str2.size + d - 1) / d = L := by rw [hsz, hL]
  have hb : ∀ (l : List Nat), Bytes l → ∀ j, (h : j < (cuts l d L).length) → Bytes (cuts l d L)[j] := fun l hl j h => cuts_bytes _ _ _ _ hl _
  have dot1 : ∀ p, p < d + s → ∀ u, u < L → oldOf (pieces d s str) p u = dot d (rowOf d p) (colOf (cuts (nums str) d L) u) := fun p hp u hu => by
    unfold oldOf pieces
    rw [← hL]
    exact piece_dot d s L _ (cuts_length _ _ _) (cuts_size _ _ _) (hb _ (nums_bytes _)) hds p hp u hu
  have dot2 : ∀ p, p < d + s → ∀ u, u < L → (nums ((pieces d s str2).getD p ByteArray.empty)).getD u 0 = dot d (rowOf d p) (colOf (cuts (nums str2) d L) u) := fun p hp u hu => by
    unfold pieces
    rw [hL2]
    exact piece_dot d s L _ (cuts_length _ _ _) (cuts_size _ _ _) (hb _ (nums_bytes _)) hds p hp u hu
  have old1 : ∀ j, j < d → ∀ u, u < L → oldOf (pieces d s str) j u = colOf (cuts (nums str) d L) u j := fun j hj u hu => by
    rw [dot1 j (by omega) u hu, Gf.dot_unit d j hj _ fun k _ => Gf.colOf_lt (hb _ (nums_bytes _)) u k]
  rw [← hL]
  apply List.ext_getElem
  · rw [pieces_length]; simp
  · intro p h1 h3
    have hp : p < d + s := by rw [pieces_length] at h3; exact h3
    have e3 : (pieces d s str2).getD p ByteArray.empty = (pieces d s str2)[p] := by simp [h3]
    rw [List.getElem_map, List.getElem_range, ← mkS_nums (pieces d s str2)[p]]
    congr 1
    apply List.ext_getElem
    · rw [nums_length, pieces_sizes, hL2]; simp
    · intro u h4 h5
      have hu : u < L := by simpa using h4
      have e4 := dot2 p hp u hu
      rw [e3, List.getD_eq_getElem?_getD, List.getElem?_eq_getElem h5, Option.getD_some] at e4
      rw [e4]
      simp only [rowF, List.getElem_map, List.getElem_range]
      unfold newP
      by_cases hpd : p < d
      · rw [if_pos hpd, newD_cuts d L at_ str str2 t _ h h2 p hpd u hu (old1 p hpd u hu), Gf.dot_unit d p hpd _ fun k _ => Gf.colOf_lt (hb _ (nums_bytes _)) u k]
      · rw [if_neg hpd, dot1 p hp u hu]
        unfold dot
        rw [← Gf.xs_xor]
        refine Gf.xs_congr fun j hj => ?_
        rw [old1 j hj u hu, newD_cuts d L at_ str str2 t _ h h2 j hj u hu (old1 j hj u hu)]
        have hF : inv (p ^^^ j) < 256 := Gf.inv_lt _ (Gf.xor_lt (by omega) (by omega))
        rw [show rowOf d p j = inv (p ^^^ j) by simp [rowOf, hpd], ← Gf.times_xor_r _ _ _ hF, Gf.xcl]
end Go.Proofs.YtokmllopbfmadaaDoor.Top

namespace Go.Proofs.YtokmllopbfmadaaDoor.KeepW
open Go.RowKit Mem FieldWalks Tab ByTab Parts Ref Top

/-- How many bits a byte has, among the first c. -/
def bitsTo (v : Nat) : Nat → Nat
  | 0 => 0
  | c + 1 => bitsTo v c + v / 2 ^ c % 2
/-- The bits of all bytes, behind the first b. -/
def rowBits (l : List Nat) : Nat → Nat
  | 0 => 0
  | b + 1 => rowBits l b + bitsTo (l.getD b 0) 8
/-- What one data piece turns in the first i spare pieces. -/
def pieceTurns (d j : Nat) : Nat → Nat
  | 0 => 0
  | i + 1 => pieceTurns d j i + rowBits ((List.range 8).map fun b => Gf.times (Gf.inv ((d + i) ^^^ j)) (2 ^ b)) 8
/-- How many pairs of a bit of a spare byte and a bit of a data byte there are, of which the second turns the first: of the first j data pieces. -/
def turnsTo (d s : Nat) : Nat → Nat
  | 0 => 0
  | j + 1 => turnsTo d s j + pieceTurns d j s
/-- The text of which data piece j has the eight bytes of one bit, the others nothing. -/
def unitT (d j : Nat) : List Nat := (List.range (8 * d)).map fun q => if q / 8 = j then 2 ^ (q % 8) else 0
theorem unitT_bytes (d j : Nat) : Gf.Bytes (unitT d j) := by
  intro x hx
  simp only [unitT, List.mem_map, List.mem_range] at hx
  obtain ⟨q, _, rfl⟩ := hx
  split
  · have : q % 8 < 8 := Nat.mod_lt _ (by decide)
    exact Nat.pow_lt_pow_right (by decide) this
  · decide
theorem addTo_map (f L : Nat) (a p : Nat → Nat) : Gf.addTo f ((List.range L).map a) ((List.range L).map p) = (List.range L).map fun t => a t ^^^ Gf.times f (p t) := by
  apply List.ext_getElem
  · simp [Gf.addTo]
  · intro i h1 h2; simp [Gf.addTo]
theorem cut_unit (d j k : Nat) (hk : k < d) : cutAt (unitT d j) 8 k = (List.range 8).map fun b => if k = j then 2 ^ b else 0 := by
  unfold cutAt
  refine List.map_congr_left fun b hb => ?_
  have hb := List.mem_range.1 hb
  have h1 : k * 8 + b < 8 * d := by omega
  rw [List.getD_eq_getElem?_getD]
  simp only [unitT, List.getElem?_map, List.getElem?_range h1, Option.map_some, Option.getD_some]
  rw [show (k * 8 + b) / 8 = k by omega, show (k * 8 + b) % 8 = b by omega]
theorem sum_unit (d j : Nat) (row : List Nat) (hj : j < d) (hr : Gf.Bytes row) : ∀ k, k ≤ d → Gf.sumTo row (cuts (unitT d j) d 8) 8 k = (List.range 8).map fun b => if j < k then Gf.times (row.getD j 0) (2 ^ b) else 0
  | 0, _ => by simp [Gf.sumTo, List.map_const']
  | k + 1, hk => by
    have e : (cuts (unitT d j) d 8).getD k [] = cutAt (unitT d j) 8 k := by
      simp [cuts, List.getD_eq_getElem?_getD, List.getElem?_range (show k < d by omega)]
    rw [Gf.sumTo, sum_unit d j row hj hr k (by omega), e, cut_unit d j k (by omega), addTo_map]
    refine List.map_congr_left fun b _ => ?_
    by_cases h1 : k = j
    · subst h1; simp
    · rw [if_neg h1, Gf.times_zero _ (hr.getD k), Nat.xor_zero]
      by_cases h2 : j < k
      · rw [if_pos h2, if_pos (by omega)]
      · rw [if_neg h2, if_neg (by omega)]
theorem nums_mkSu (d j : Nat) : nums (mkS (unitT d j)) = unitT d j := nums_mkS _ (unitT_bytes d j)
theorem unit_size (d j : Nat) : (mkS (unitT d j)).size = 8 * d := by rw [mkS_size]; simp [unitT]
theorem unit_piece (d s j i : Nat) (hd : 1 ≤ d) (hds : d + s < 256) (hj : j < d) (hi : i < s) (h : d + i < (pieces d s (mkS (unitT d j))).length) :
    (pieces d s (mkS (unitT d j)))[d + i] = mkS ((List.range 8).map fun b => Gf.times (Gf.inv ((d + i) ^^^ j)) (2 ^ b)) := by
  have e8 : ((mkS (unitT d j)).size + d - 1) / d = 8 := by
    rw [unit_size, show 8 * d + d - 1 = (d - 1) + d * 8 by omega, Nat.add_mul_div_left _ _ (by omega), Nat.div_eq_of_lt (by omega)]
  have hb : Gf.Bytes (facRow d i) := facRow_bytes d i (by omega)
  have key : (pieces d s (mkS (unitT d j)))[d + i]? = some (mkS ((List.range 8).map fun b => Gf.times (Gf.inv ((d + i) ^^^ j)) (2 ^ b))) := by
    unfold pieces texts
    rw [e8, nums_mkSu, List.getElem?_map, List.getElem?_append_right (by simp [cuts]), show d + i - (cuts (unitT d j) d 8).length = i by simp [cuts]]
    simp only [sums, facs, List.getElem?_map, List.getElem?_range hi, Option.map_some]
    rw [show (cuts (unitT d j) d 8).length = d by simp [cuts], sum_unit d j _ hj hb d (Nat.le_refl _)]
    congr 2
    refine List.map_congr_left fun b _ => ?_
    rw [if_pos hj]
    congr 1
    simp [facRow, List.getD_eq_getElem?_getD, List.getElem?_range hj]
  rw [List.getElem?_eq_getElem h] at key
  exact Option.some.inj key
end Go.Proofs.YtokmllopbfmadaaDoor.KeepW
