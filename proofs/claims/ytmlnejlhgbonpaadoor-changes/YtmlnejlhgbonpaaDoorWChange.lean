import Derived.Test.YtmlnejlhgbonpaaDoorPChange
import Derived.Test.YtmlnejlhgbonpaaDoorRefChangeNo
namespace Go.Proofs.YtmlnejlhgbonpaaDoor.Ref
open Go.RowKit Mem FieldWalks Tab ByTab Parts
open Gf (Bytes newP)
open Plans (rowF)

/-- The shape, as the program asks it. -/
theorem shapeOk_iff (d s L : Nat) (pieces : List ByteArray) (lost : List Int) : ShapeOk d s L pieces lost ↔ NumsOk (d + s) lost ∧ (pieces.length = d + s ∧ SizesOk L pieces lost) :=
  ⟨fun h => ⟨h.nums, h.count, h.sizes⟩, fun h => ⟨h.2.1, h.1, h.2.2⟩⟩

section
variable (pv : Value) (text : ByteArray) (w : World)
set_option maxRecDepth 100000
theorem cFault_count (d s n a : Int) (h : okCounts d s = false) :
    Calls Tryd.prog 61 #[.int .i64 d, .int .i64 s, .int .i64 n, pv, .int .i64 a, .string text] w fun e w' => e = .returned (.int .i64 3) ∧ w' = w := by
  go_enter Tryd.func61, Tryd.ntmps61
  go_wp2_with fail
  refine (areCounts_any _ _ _).mono ?_
  rintro e w' ⟨rfl, rfl⟩
  go_wp2
  go_ret
  exact ⟨rfl, rfl⟩
theorem cFault_long (d s n a : Int) (h1 : okCounts d s = true) (h : ¬ (0 ≤ n ∧ n ≤ 400)) :
    Calls Tryd.prog 61 #[.int .i64 d, .int .i64 s, .int .i64 n, pv, .int .i64 a, .string text] w fun e w' => e = .returned (.int .i64 5) ∧ w' = w := by
  have hz := okSize_no n h
  clear h
  go_enter Tryd.func61, Tryd.ntmps61
  go_wp2_with fail
  refine (areCounts_any _ _ _).mono ?_
  rintro e w' ⟨rfl, rfl⟩
  go_wp2_with fail
  refine (isSize_any _ _).mono ?_
  rintro e w' ⟨rfl, rfl⟩
  go_wp2
  go_ret
  exact ⟨rfl, rfl⟩
theorem cFault_shape (d s n : Nat) (a : Int) (pieces : List ByteArray) (hp : StrsAt w pv pieces) (hpl : pieces.length < 2 ^ 62) (hd : 1 ≤ d) (hd2 : d ≤ 10) (hs : s ≤ 6) (hn : n ≤ 400) (hsz : ∀ p, (h : p < pieces.length) → pieces[p].size < 2 ^ 62)
    (hno : ¬ ShapeOk d s ((n + d - 1) / d) pieces []) :
    Calls Tryd.prog 61 #[.int .i64 d, .int .i64 s, .int .i64 n, pv, .int .i64 a, .string text] w fun e w' => e = .returned (.int .i64 6) ∧ w' = w := by
  have hok : okCounts d s = true := okCounts_yes _ _ (by omega)
  have hz : okSize n = true := okSize_yes _ (by omega)
  have hnil : IsC w (.slice none 0 0) [] := ⟨none, 0, rfl, .inl rfl⟩
  have HG : Hid (Calls Tryd.prog 77 #[.int .i64 d, .int .i64 s, .int .i64 n, pv, .slice none 0 0] w fun e w'' => e = .returned (.bool false) ∧ w'' = w) := by
    refine (goTogether_any d s n _ pieces [] pv _ w hp hnil (by simp) hpl hd hd2 hs hn rfl hsz).mono ?_
    rintro e w'' ⟨⟨b, rfl, hb⟩, rfl⟩
    cases b with
    | false => exact ⟨rfl, rfl⟩
    | true => exact absurd ((shapeOk_iff _ _ _ _ _).2 ⟨fun k hk => by simp at hk, hb.1 rfl⟩) hno
  clear hno hnil hp hpl hsz
  go_enter Tryd.func61, Tryd.ntmps61
  go_wp2_with fail
  refine (areCounts_any _ _ _).mono ?_
  rintro e w' ⟨rfl, rfl⟩
  go_wp2_with fail
  refine (isSize_any _ _).mono ?_
  rintro e w' ⟨rfl, rfl⟩
  go_wp2_with fail
  refine Calls.mono HG.out ?_
  rintro e w' ⟨rfl, rfl⟩
  go_wp2
  go_ret
  exact ⟨rfl, rfl⟩
theorem cFault_range (d s n : Nat) (a : Int) (pieces : List ByteArray) (hp : StrsAt w pv pieces) (hd : 1 ≤ d) (hd2 : d ≤ 10) (hs : s ≤ 6) (hn : n ≤ 400) (hsz : ∀ p, (h : p < pieces.length) → pieces[p].size < 2 ^ 62) (ha2 : a ≤ 9223372036854775807) (hlen : text.size ≤ maxLen)
    (hyes : ShapeOk d s ((n + d - 1) / d) pieces []) :
    Calls Tryd.prog 61 #[.int .i64 d, .int .i64 s, .int .i64 n, pv, .int .i64 a, .string text] w fun e w' => e = .returned (.int .i64 (if okWithin n a text.size = true then 0 else 8)) ∧ w' = w := by
  have hok : okCounts d s = true := okCounts_yes _ _ (by omega)
  have hz : okSize n = true := okSize_yes _ (by omega)
  have hnil : IsC w (.slice none 0 0) [] := ⟨none, 0, rfl, .inl rfl⟩
  have HG : Hid (Calls Tryd.prog 77 #[.int .i64 d, .int .i64 s, .int .i64 n, pv, .slice none 0 0] w fun e w'' => e = .returned (.bool true) ∧ w'' = w) := by
    refine (goTogether_any d s n _ pieces [] pv _ w hp hnil (by simp) (by rw [hyes.count]; omega) hd hd2 hs hn rfl hsz).mono ?_
    rintro e w'' ⟨⟨b, rfl, hb⟩, rfl⟩
    rw [hb.2 ((shapeOk_iff _ _ _ _ _).1 hyes).2]
    exact ⟨rfl, rfl⟩
  clear hnil hp hsz hyes
  obtain ⟨q, hq⟩ : ∃ q, q = okWithin n a text.size := ⟨_, rfl⟩
  rw [← hq]
  have HQ : Hid (q = okWithin n a text.size) := hq
  clear hq
  cases q <;>
  · go_enter Tryd.func61, Tryd.ntmps61
    go_wp2_with fail
    refine (areCounts_any _ _ _).mono ?_
    rintro e w' ⟨rfl, rfl⟩
    go_wp2_with fail
    refine (isSize_any _ _).mono ?_
    rintro e w' ⟨rfl, rfl⟩
    go_wp2_with fail
    refine Calls.mono HG.out ?_
    rintro e w' ⟨rfl, rfl⟩
    go_wp2_with fail
    refine (isWithin_any n hn a ha2 text hlen _).mono ?_
    rintro e w' ⟨rfl, rfl⟩
    rw [← HQ.out]
    go_wp2
    go_ret
    exact ⟨rfl, rfl⟩
theorem wChange_no (k : Nat) (hk : 1 ≤ k) (_hk2 : k ≤ 100) (d s n a : Int) (hF : Calls Tryd.prog 61 #[.int .i64 d, .int .i64 s, .int .i64 n, pv, .int .i64 a, .string text] w fun e w' => e = .returned (.int .i64 k) ∧ w' = w) :
    Calls Tryd.prog 28 #[.int .i64 d, .int .i64 s, .int .i64 n, pv, .int .i64 a, .string text] w fun e w' => CNo k e ∧ w' = w := by
  have hk0 : ((k : Int) != 0) = true := by simp; omega
  have hk1 : ¬ k = 0 := by omega
  go_enter Tryd.func28, Tryd.ntmps28
  go_wp2_with fail
  refine Calls.mono hF ?_
  rintro e w' ⟨rfl, rfl⟩
  go_wp2
  go_ret2
  exact ⟨rfl, rfl⟩
theorem wChange_ok (d s n at_ L : Nat) (pieces : List ByteArray) (ht : Table w) (hp : StrsAt w pv pieces) (hd : 1 ≤ d) (hd2 : d ≤ 10) (hs : s ≤ 6) (hn : n ≤ 400) (hL : L = (n + d - 1) / d) (hsz : ∀ p, (h : p < pieces.length) → pieces[p].size < 2 ^ 62)
    (hyes : ShapeOk d s L pieces []) (hat : at_ + text.size ≤ n) :
    Calls Tryd.prog 28 #[.int .i64 d, .int .i64 s, .int .i64 n, pv, .int .i64 at_, .string text] w fun e w' => ∃ b, w.heap.size ≤ b ∧ e = .returned (.tuple #[.slice (some ⟨b, 0, none⟩) (d + s) (d + s), .int .i64 0]) ∧
      Blk w' b 9 (strV ((List.range (d + s)).map fun p => mkS (rowF L (newP d L at_ (nums text) text.size (oldOf pieces) p)))) ∧ Below w.heap.size w w' := by
  have hF := cFault_range pv text w d s n at_ pieces hp hd hd2 hs hn hsz (by omega) (by unfold maxLen; omega) (by rw [← hL]; exact hyes)
  rw [show okWithin n at_ text.size = true by simp [okWithin]; omega, if_pos rfl] at hF
  have HP := pChange_any d s n at_ L pieces text pv w ht hp hd hd2 hs hn hL hyes hat
  have HPH : Hid _ := HP
  have HFH : Hid _ := hF
  clear HP hF hyes hsz hp
  go_enter Tryd.func28, Tryd.ntmps28
  go_wp2_with fail
  refine Calls.mono HFH.out ?_
  rintro e w' ⟨rfl, rfl⟩
  go_wp2_with fail
  refine Calls.mono HPH.out ?_
  rintro e w1 ⟨b, hb, rfl, hblk, hb1⟩
  have HBLK : Hid (Blk w1 b 9 (strV ((List.range (d + s)).map fun p => mkS (rowF L (newP d L at_ (nums text) text.size (oldOf pieces) p))))) := hblk
  clear hblk
  go_wp2
  go_ret2
  exact ⟨b, hb, rfl, HBLK.out, hb1⟩
end
end Go.Proofs.YtmlnejlhgbonpaaDoor.Ref
