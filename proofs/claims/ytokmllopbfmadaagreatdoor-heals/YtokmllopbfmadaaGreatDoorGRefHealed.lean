import Derived.Test.YtokmllopbfmadaaGreatDoorGRefOpen3
import Derived.Test.YtokmllopbfmadaaGreatDoorGPkMend
import Derived.Test.YtokmllopbfmadaaGreatDoorGRefRestored
import Derived.Test.YtokmllopbfmadaaGreatDoorGBookOpen
import Derived.Test.YtokmllopbfmadaaGreatDoorGRefChange
import Derived.Test.YtokmllopbfmadaaGreatDoorGRefChangeNo
/- A pack is healed by the document. -/
namespace Go.Proofs.YtokmllopbfmadaaGreatDoor.Ref
open Go.RowKit Mem FieldWalks Tab ByTab Parts Top
open Gf (Bytes Fits chosen left_)
open Plans (intsV)
open Pk (MendNo MendYes)

/-- New strings stay while an older block is written. -/
theorem strs_set1 {w : World} {B : Nat} {v : Value} {ss : List ByteArray} (h : StrsNew w B v ss) {R : Nat} (hR : R < B) (k : Nat) (u : Value) : StrsNew (w.setCell ⟨R, k, none⟩ u) B v ss := by
  obtain ⟨ao, cap, rfl, h⟩ := h
  refine ⟨ao, cap, rfl, ?_⟩
  rcases h with h | ⟨b, off, rfl, h0, h1, h2⟩
  · exact .inl h
  · refine .inr ⟨b, off, rfl, h0, by simpa [World.setCell] using h1, fun i hi => ?_⟩
    rw [World.cell?_of_block (w := w) (heap_setCell_other w ⟨R, k, none⟩ b u (by show b ≠ R; omega))]
    exact h2 i hi
/-- What healed answers with an error. -/
def noHealed (k : Nat) : Value := .tuple #[noOpened, .string ByteArray.empty, .slice none 0 0, .int .i64 k]
set_option maxRecDepth 100000 in
set_option maxHeartbeats 1000000 in
theorem healed_err (p : ByteArray) (x : Int) (k : Nat) (hk : 1 ≤ k) (hk2 : k ≤ 100) (hh : ∀ W, Calls Tryz.prog 29 #[.string p] W fun e w' => e = .returned (.tuple #[noOpened, .int .i64 k]) ∧ Below W.heap.size W w') (w : World) :
    Calls Tryz.prog 19 #[.string p, .int .i64 x] w fun e w' => e = .returned (noHealed k) ∧ Below w.heap.size w w' := by
  have HH : Hid (∀ W, Calls Tryz.prog 29 #[.string p] W fun e w' => e = .returned (.tuple #[.agg #[.int .i64 0, .int .i64 0, .int .i64 0, .slice none 0 0, .slice none 0 0], .int .i64 k]) ∧ Below W.heap.size W w') := hh
  have e1 : ((k : Int) != 0) = true := by simp; omega
  have e2 : ((k : Int) == 0) = false := by simp; omega
  clear hh
  go_enter Tryz.func19, Tryz.ntmps19
  go_wp2_with fail
  refine Calls.mono (HH.out _) ?_
  rintro e w1 ⟨rfl, hb1⟩
  have R1 : Blk w1 w.heap.size 54 [.int .i64 0, .int .i64 0, .int .i64 0, .slice none 0 0, .slice none 0 0] := (Blk.new w #[.int .i64 0, .int .i64 0, .int .i64 0, .slice none 0 0, .slice none 0 0] 54).to hb1
  have B1 : Below w.heap.size w w1 := ((Below.refl w.heap.size w).alloc (Nat.le_refl _) (.cells #[.int .i64 0, .int .i64 0, .int .i64 0, .slice none 0 0, .slice none 0 0] 54)).trans (hb1.mono (by simp))
  have R2 := R1.alloc (.cells #[.int .i64 0, .int .i64 0, .int .i64 0, .slice none 0 0, .slice none 0 0] 54)
  have B2 := B1.alloc B1.size (.cells #[.int .i64 0, .int .i64 0, .int .i64 0, .slice none 0 0, .slice none 0 0] 54)
  have q0 := R2.cell_some (k := 0) rfl
  have q1 := R2.cell_some (k := 1) rfl
  have q2 := R2.cell_some (k := 2) rfl
  have q3 := R2.cell_some (k := 3) rfl
  have q4 := R2.cell_some (k := 4) rfl
  have f0 := R2.free 0
  have f1 := R2.free 1
  have f2 := R2.free 2
  have f3 := R2.free 3
  have f4 := R2.free 4
  have HR : Hid (Blk (w1.alloc (.cells #[.int .i64 0, .int .i64 0, .int .i64 0, .slice none 0 0, .slice none 0 0] 54)) w.heap.size 54 [.int .i64 0, .int .i64 0, .int .i64 0, .slice none 0 0, .slice none 0 0]) := R2
  have HB : Hid (Below w.heap.size w (w1.alloc (.cells #[.int .i64 0, .int .i64 0, .int .i64 0, .slice none 0 0, .slice none 0 0] 54))) := B2
  clear R1 B1 R2 B2 hb1
  go_wp2
  have hr := (((((HR.out.set 0 (.int .i64 0)).set 1 (.int .i64 0)).set 2 (.int .i64 0)).set 3 (.slice none 0 0)).set 4 (.slice none 0 0))
  refine bodyPost_ret (v := .tuple #[noOpened, .string ByteArray.empty, .slice none 0 0, .int .i64 k]) (results_row_tmp3 (p := 4) (u := 5) (u2 := 6) (u3 := 7) (ty := 54) (by kernel_rfl) _ _ w.heap.size 54 _ (0, 0) _ rfl hr Tryz.underlying54 rfl infoOpened _ _ _ rfl rfl rfl) rfl ⟨rfl, ?_⟩
  exact (((((HB.out.setCell (by exact Nat.le_refl _) _).setCell (by exact Nat.le_refl _) _).setCell (by exact Nat.le_refl _) _).setCell (by exact Nat.le_refl _) _).setCell (by exact Nat.le_refl _) _)
set_option maxRecDepth 100000 in
set_option maxHeartbeats 1000000 in
theorem healed_way (p : ByteArray) (x : Int) (h : headOk p) (hc : cutOk p) (hp : p.size < 4611686018427387904) (hx : okWay x = false) (w : World) :
    Calls Tryz.prog 19 #[.string p, .int .i64 x] w fun e w' => e = .returned (noHealed 4) ∧ Below w.heap.size w w' := by
  have HH : Hid (∀ W, Calls Tryz.prog 29 #[.string p] W fun e w' => ∃ v1 v2, e = .returned (.tuple #[.agg #[.int .i64 (pD p), .int .i64 (pS p), .int .i64 (pN p), v1, v2], .int .i64 0]) ∧ w'.ownsRow W.heap.size 9 1 v1 (openPieces p).length ((openPieces p).map Value.string) ∧ w'.ownsRow W.heap.size 3 1 v2 (openBad p).length (intsV (openBad p)) ∧ Below W.heap.size W w') := fun W => rOpen_ok p hp h hc W
  obtain ⟨P, hPe⟩ : ∃ P, P = openPieces p := ⟨_, rfl⟩
  obtain ⟨bad, hbe⟩ : ∃ b, b = openBad p := ⟨_, rfl⟩
  obtain ⟨pl, hpl⟩ : ∃ n, n = P.length := ⟨_, rfl⟩
  obtain ⟨bl, hbl⟩ : ∃ n, n = bad.length := ⟨_, rfl⟩
  rw [← hPe, ← hbe, ← hpl, ← hbl] at HH
  have HPL : Hid (pl = P.length) := hpl
  have HBL : Hid (bl = bad.length) := hbl
  generalize pD p = D at HH
  generalize pS p = S at HH
  generalize pN p = N at HH
  clear h hc hPe hbe hpl hbl
  go_enter Tryz.func19, Tryz.ntmps19
  go_wp2_with fail
  refine Calls.mono (HH.out _) ?_
  rintro e w1 ⟨v1, v2, rfl, ho1, ho2, hb1⟩
  obtain ⟨va1, vc1, rfl⟩ := owns_slice ho1
  obtain ⟨va2, vc2, rfl⟩ := owns_slice ho2
  have R1 : Blk w1 w.heap.size 54 [.int .i64 0, .int .i64 0, .int .i64 0, .slice none 0 0, .slice none 0 0] := (Blk.new w #[.int .i64 0, .int .i64 0, .int .i64 0, .slice none 0 0, .slice none 0 0] 54).to hb1
  have B1 : Below w.heap.size w w1 := ((Below.refl w.heap.size w).alloc (Nat.le_refl _) (.cells #[.int .i64 0, .int .i64 0, .int .i64 0, .slice none 0 0, .slice none 0 0] 54)).trans (hb1.mono (by simp))
  go_wp2_with fail
  generalize hw2 : w1.alloc _ = w2
  have R2 : Blk w2 w.heap.size 54 [.int .i64 0, .int .i64 0, .int .i64 0, .slice none 0 0, .slice none 0 0] := by rw [← hw2]; exact R1.alloc _
  have O2 : Blk w2 w1.heap.size 54 [.int .i64 D, .int .i64 S, .int .i64 N, .slice va1 pl vc1, .slice va2 bl vc2] := by rw [← hw2]; exact Blk.new w1 _ _
  have b12 : Below w1.heap.size w1 w2 := by rw [← hw2]; exact (Below.refl _ _).alloc (Nat.le_refl _) _
  have B2 : Below w.heap.size w w2 := B1.trans (b12.mono B1.size)
  have HP2 : Hid (w2.ownsRow w.heap.size 9 1 (.slice va1 pl vc1) pl (P.map Value.string)) := ownsRow_to (owns_less ho1 (by simp)) b12
  have HQ2 : Hid (w2.ownsRow w.heap.size 3 1 (.slice va2 bl vc2) bl (intsV bad)) := ownsRow_to (owns_less ho2 (by simp)) b12
  generalize w1.heap.size = O at O2 ⊢
  have q0 := R2.cell_some (k := 0) rfl
  have q1 := R2.cell_some (k := 1) rfl
  have q2 := R2.cell_some (k := 2) rfl
  have q3 := R2.cell_some (k := 3) rfl
  have q4 := R2.cell_some (k := 4) rfl
  have f0 := R2.free 0
  have f1 := R2.free 1
  have f2 := R2.free 2
  have f3 := R2.free 3
  have f4 := R2.free 4
  have HR : Hid (Blk w2 w.heap.size 54 [.int .i64 0, .int .i64 0, .int .i64 0, .slice none 0 0, .slice none 0 0]) := R2
  have HB : Hid (Below w.heap.size w w2) := B2
  clear R2 B2 hw2 R1 B1 O2 b12 ho1 ho2 hb1
  refine (rWay_any _ _).mono ?_
  rintro e w' ⟨rfl, hw⟩
  obtain rfl : w2 = w' := hw.symm
  go_wp2_with fail
  have hr := (((((HR.out.set 0 (.int .i64 0)).set 1 (.int .i64 0)).set 2 (.int .i64 0)).set 3 (.slice none 0 0)).set 4 (.slice none 0 0))
  refine bodyPost_ret (v := .tuple #[noOpened, .string ByteArray.empty, .slice none 0 0, .int .i64 4]) (results_row_tmp3 (p := 4) (u := 5) (u2 := 6) (u3 := 7) (ty := 54) (by kernel_rfl) _ _ w.heap.size 54 _ (0, 0) _ rfl hr Tryz.underlying54 rfl infoOpened _ _ _ rfl rfl rfl) rfl ⟨rfl, ?_⟩
  exact (((((HB.out.setCell (by exact Nat.le_refl _) _).setCell (by exact Nat.le_refl _) _).setCell (by exact Nat.le_refl _) _).setCell (by exact Nat.le_refl _) _).setCell (by exact Nat.le_refl _) _)
set_option maxRecDepth 100000 in
set_option maxHeartbeats 1000000 in
theorem healed_few (p : ByteArray) (x : Nat) (h : headOk p) (hc : cutOk p) (hp : p.size < 4611686018427387904) (hx : x ≤ 2) (hfew : pS p < (openBad p).length) (w : World) :
    Calls Tryz.prog 19 #[.string p, .int .i64 x] w fun e w' => e = .returned (noHealed 7) ∧ Below w.heap.size w w' := by
  have HH : Hid (∀ W, Calls Tryz.prog 29 #[.string p] W fun e w' => ∃ v1 v2, e = .returned (.tuple #[.agg #[.int .i64 (pD p), .int .i64 (pS p), .int .i64 (pN p), v1, v2], .int .i64 0]) ∧ w'.ownsRow W.heap.size 9 1 v1 (openPieces p).length ((openPieces p).map Value.string) ∧ w'.ownsRow W.heap.size 3 1 v2 (openBad p).length (intsV (openBad p)) ∧ Below W.heap.size W w') := fun W => rOpen_ok p hp h hc W
  have hD := h.2.2.2.1
  have hN := h.2.2.2.2.1
  have how : okWay (x : Int) = true := okWay_yes _ (by omega)
  obtain ⟨fs, hpk⟩ := isPack_of h hc
  have HGA : Hid (∀ W pv lv, StrsAt W pv (openPieces p) → IsC W lv ((openBad p).map Int.ofNat) → Calls Tryz.prog 38 #[.int .i64 (pD p), .int .i64 (pS p), .int .i64 x, .int .i64 (pN p), pv, lv] W fun e w' => e = .returned (.tuple #[.string ByteArray.empty, .slice none 0 0, .int .i64 7]) ∧ Below W.heap.size W w') := fun W pv lv hp hl =>
    (rGather_few (pD p) (pS p) x (pN p) (openPieces p) ((openBad p).map Int.ofNat) pv lv W hp hl (by have := hpk.bad_length; simp; omega) (by rw [hpk.pieces_length]; omega) (by omega) (by omega) (by omega) hx hN (fun q hq => by rw [hpk.pieces_size q hq]; have : pL p ≤ 409 := (by unfold pL; exact Nat.le_trans (Nat.div_le_self _ _) (by omega)); omega) hpk.shape (by simpa using hfew)).mono fun e w' hh => ⟨hh.1, hh.2.below⟩
  obtain ⟨P, hPe⟩ : ∃ P, P = openPieces p := ⟨_, rfl⟩
  obtain ⟨bad, hbe⟩ : ∃ b, b = openBad p := ⟨_, rfl⟩
  obtain ⟨pl, hpl⟩ : ∃ n, n = P.length := ⟨_, rfl⟩
  obtain ⟨bl, hbl⟩ : ∃ n, n = bad.length := ⟨_, rfl⟩
  rw [← hPe, ← hbe, ← hpl, ← hbl] at HH
  have HPL : Hid (pl = P.length) := hpl
  have HBL : Hid (bl = bad.length) := hbl
  rw [← hPe, ← hbe] at HGA
  generalize pD p = D at HH HGA
  generalize pS p = S at HH HGA
  generalize pN p = N at HH HGA
  clear h hc hPe hbe hpl hbl hfew hpk hD hN
  go_enter Tryz.func19, Tryz.ntmps19
  go_wp2_with fail
  refine Calls.mono (HH.out _) ?_
  rintro e w1 ⟨v1, v2, rfl, ho1, ho2, hb1⟩
  obtain ⟨va1, vc1, rfl⟩ := owns_slice ho1
  obtain ⟨va2, vc2, rfl⟩ := owns_slice ho2
  have R1 : Blk w1 w.heap.size 54 [.int .i64 0, .int .i64 0, .int .i64 0, .slice none 0 0, .slice none 0 0] := (Blk.new w #[.int .i64 0, .int .i64 0, .int .i64 0, .slice none 0 0, .slice none 0 0] 54).to hb1
  have B1 : Below w.heap.size w w1 := ((Below.refl w.heap.size w).alloc (Nat.le_refl _) (.cells #[.int .i64 0, .int .i64 0, .int .i64 0, .slice none 0 0, .slice none 0 0] 54)).trans (hb1.mono (by simp))
  go_wp2_with fail
  generalize hw2 : w1.alloc _ = w2
  have R2 : Blk w2 w.heap.size 54 [.int .i64 0, .int .i64 0, .int .i64 0, .slice none 0 0, .slice none 0 0] := by rw [← hw2]; exact R1.alloc _
  have O2 : Blk w2 w1.heap.size 54 [.int .i64 D, .int .i64 S, .int .i64 N, .slice va1 pl vc1, .slice va2 bl vc2] := by rw [← hw2]; exact Blk.new w1 _ _
  have b12 : Below w1.heap.size w1 w2 := by rw [← hw2]; exact (Below.refl _ _).alloc (Nat.le_refl _) _
  have B2 : Below w.heap.size w w2 := B1.trans (b12.mono B1.size)
  have HP2 : Hid (w2.ownsRow w.heap.size 9 1 (.slice va1 pl vc1) pl (P.map Value.string)) := ownsRow_to (owns_less ho1 (by simp)) b12
  have HQ2 : Hid (w2.ownsRow w.heap.size 3 1 (.slice va2 bl vc2) bl (intsV bad)) := ownsRow_to (owns_less ho2 (by simp)) b12
  generalize w1.heap.size = O at O2 ⊢
  have y0 := O2.cell_some (k := 0) rfl
  have y1 := O2.cell_some (k := 1) rfl
  have y2 := O2.cell_some (k := 2) rfl
  have y3 := O2.cell_some (k := 3) rfl
  have y4 := O2.cell_some (k := 4) rfl
  have HR : Hid (Blk w2 w.heap.size 54 [.int .i64 0, .int .i64 0, .int .i64 0, .slice none 0 0, .slice none 0 0]) := R2
  have HB : Hid (Below w.heap.size w w2) := B2
  clear R2 B2 hw2 R1 B1 O2 b12 ho1 ho2 hb1
  refine (rWay_any _ _).mono ?_
  rintro e w' ⟨rfl, hw⟩
  obtain rfl : w2 = w' := hw.symm
  have HST : Hid (StrsAt w2 (.slice va1 pl vc1) P) := StrsAt.of_owns HP2.out
  have HIC : Hid (IsC w2 (.slice va2 bl vc2) (bad.map Int.ofNat)) := by
    have := HQ2.out; rw [HBL.out] at this ⊢; exact KeepW.IsC.of_owns this
  go_wp2_with fail
  refine Calls.mono (HGA.out _ _ _ HST.out HIC.out) ?_
  rintro e w3 ⟨rfl, hb3⟩
  have R3 := HR.out.to hb3
  have B3 := HB.out.trans (hb3.mono HB.out.size)
  have q0 := R3.cell_some (k := 0) rfl
  have q1 := R3.cell_some (k := 1) rfl
  have q2 := R3.cell_some (k := 2) rfl
  have q3 := R3.cell_some (k := 3) rfl
  have q4 := R3.cell_some (k := 4) rfl
  have f0 := R3.free 0
  have f1 := R3.free 1
  have f2 := R3.free 2
  have f3 := R3.free 3
  have f4 := R3.free 4
  have HR3 : Hid (Blk w3 w.heap.size 54 [.int .i64 0, .int .i64 0, .int .i64 0, .slice none 0 0, .slice none 0 0]) := R3
  have HB3 : Hid (Below w.heap.size w w3) := B3
  clear R3 B3 hb3 y0 y1 y2 y3 y4 HR HB HST HIC HP2 HQ2
  go_wp2_with fail
  have hr := (((((HR3.out.set 0 (.int .i64 0)).set 1 (.int .i64 0)).set 2 (.int .i64 0)).set 3 (.slice none 0 0)).set 4 (.slice none 0 0))
  refine bodyPost_ret (v := .tuple #[noOpened, .string ByteArray.empty, .slice none 0 0, .int .i64 7]) (results_row_tmp3 (p := 4) (u := 5) (u2 := 6) (u3 := 7) (ty := 54) (by kernel_rfl) _ _ w.heap.size 54 _ (0, 0) _ rfl hr Tryz.underlying54 rfl infoOpened _ _ _ rfl rfl rfl) rfl ⟨rfl, ?_⟩
  exact (((((HB3.out.setCell (by exact Nat.le_refl _) _).setCell (by exact Nat.le_refl _) _).setCell (by exact Nat.le_refl _) _).setCell (by exact Nat.le_refl _) _).setCell (by exact Nat.le_refl _) _)
theorem healed_no (p : ByteArray) (x : Int) (k : Nat) (hp : p.size < 4611686018427387904) (h : MendNo p x k) (w : World) :
    Calls Tryz.prog 19 #[.string p, .int .i64 x] w fun e w' => e = .returned (noHealed k) ∧ Below w.heap.size w w' := by
  rcases h with ⟨rfl, h⟩ | ⟨rfl, h, hc⟩ | ⟨rfl, h, hc, hx⟩ | ⟨rfl, h, hc, hx, hf⟩
  · exact healed_err p x 9 (by omega) (by omega) (fun W => rOpen_head p hp h W) w
  · exact healed_err p x 10 (by omega) (by omega) (fun W => rOpen_cut p hp h hc W) w
  · exact healed_way p x h hc hp hx w
  · have hx' := of_decide_eq_true hx
    obtain ⟨x, rfl⟩ := Int.eq_ofNat_of_zero_le hx'.1
    exact healed_few p x h hc hp (by omega) hf w
/-- What healed answers. -/
def HealedAns (w w' : World) (D S N : Nat) (str : ByteArray) (ss : List ByteArray) (bad : List Nat) (e : Ending) : Prop :=
  ∃ v1 v2 v, e = .returned (.tuple #[.agg #[.int .i64 D, .int .i64 S, .int .i64 N, v1, v2], .string str, v, .int .i64 0]) ∧ (∃ a n c, v1 = .slice a n c) ∧ StrsAt w' v ss ∧ w'.ownsRow w.heap.size 3 1 v2 bad.length (intsV bad) ∧ Below w.heap.size w w'
set_option maxRecDepth 100000 in
set_option maxHeartbeats 2000000 in
theorem healed_ok (p : ByteArray) (x : Nat) (h : headOk p) (hc : cutOk p) (hp : p.size < 4611686018427387904) (hx : x ≤ 2) (hfew : (openBad p).length ≤ pS p) (ps : List (List Nat))
    (hfit : Fits (pD p) (pL p) (chosen (left_ ((openBad p).map Int.ofNat)) (pD p) (pS p)) (fun q => nums ((openPieces p).getD q ByteArray.empty)) ps) (w : World) :
    Calls Tryz.prog 19 #[.string p, .int .i64 x] w fun e w' => HealedAns w w' (pD p) (pS p) (pN p) (mkS (ps.flatten.take (pN p))) (texts ps (sums (facs (pD p) (pS p)) ps (pL p))) (openBad p) e := by
  have HH : Hid (∀ W, Calls Tryz.prog 29 #[.string p] W fun e w' => ∃ v1 v2, e = .returned (.tuple #[.agg #[.int .i64 (pD p), .int .i64 (pS p), .int .i64 (pN p), v1, v2], .int .i64 0]) ∧ w'.ownsRow W.heap.size 9 1 v1 (openPieces p).length ((openPieces p).map Value.string) ∧ w'.ownsRow W.heap.size 3 1 v2 (openBad p).length (intsV (openBad p)) ∧ Below W.heap.size W w') := fun W => rOpen_ok p hp h hc W
  have hD := h.2.2.2.1
  have hN := h.2.2.2.2.1
  have how : okWay (x : Int) = true := okWay_yes _ (by omega)
  obtain ⟨fs, hpk⟩ := isPack_of h hc
  have HGA : Hid (∀ W pv lv, StrsAt W pv (openPieces p) → IsC W lv ((openBad p).map Int.ofNat) → Calls Tryz.prog 38 #[.int .i64 (pD p), .int .i64 (pS p), .int .i64 x, .int .i64 (pN p), pv, lv] W fun e w' => ∃ v, e = .returned (.tuple #[.string (mkS (ps.flatten.take (pN p))), v, .int .i64 0]) ∧ StrsNew w' W.heap.size v (texts ps (sums (facs (pD p) (pS p)) ps (pL p))) ∧ Below W.heap.size W w') := fun W pv lv hp hl =>
    (rGather_ok (pD p) (pS p) x (pN p) (pL p) (openPieces p) ((openBad p).map Int.ofNat) pv lv W hp hl (by omega) (by omega) (by omega) hx hN rfl (fun q hq => by rw [hpk.pieces_size q hq]; have : pL p ≤ 409 := (by unfold pL; exact Nat.le_trans (Nat.div_le_self _ _) (by omega)); omega) hpk.shape (by simpa using hfew)).mono fun e w' hh => by
      obtain ⟨v, ps', rfl, hfit', hst, hb⟩ := hh
      obtain rfl : ps' = ps := Fits.sole (by omega) (Gf.enough (pD p) (pS p) ((openBad p).map Int.ofNat) (by simpa using hfew)) hfit' hfit
      exact ⟨v, rfl, hst, hb⟩
  obtain ⟨P, hPe⟩ : ∃ P, P = openPieces p := ⟨_, rfl⟩
  obtain ⟨bad, hbe⟩ : ∃ b, b = openBad p := ⟨_, rfl⟩
  obtain ⟨pl, hpl⟩ : ∃ n, n = P.length := ⟨_, rfl⟩
  obtain ⟨bl, hbl⟩ : ∃ n, n = bad.length := ⟨_, rfl⟩
  rw [← hPe, ← hbe, ← hpl, ← hbl] at HH
  have HPL : Hid (pl = P.length) := hpl
  have HBL : Hid (bl = bad.length) := hbl
  rw [← hPe, ← hbe] at HGA
  rw [← hbe]
  generalize texts ps (sums (facs (pD p) (pS p)) ps (pL p)) = ss at HGA ⊢
  generalize mkS (ps.flatten.take (pN p)) = str at HGA ⊢
  generalize pD p = D at HH HGA ⊢
  generalize pS p = S at HH HGA ⊢
  generalize pN p = N at HH HGA ⊢
  clear h hc hPe hbe hpl hbl hfew hpk hD hN hfit
  go_enter Tryz.func19, Tryz.ntmps19
  go_wp2_with fail
  refine Calls.mono (HH.out _) ?_
  rintro e w1 ⟨v1, v2, rfl, ho1, ho2, hb1⟩
  obtain ⟨va1, vc1, rfl⟩ := owns_slice ho1
  obtain ⟨va2, vc2, rfl⟩ := owns_slice ho2
  have R1 : Blk w1 w.heap.size 54 [.int .i64 0, .int .i64 0, .int .i64 0, .slice none 0 0, .slice none 0 0] := (Blk.new w #[.int .i64 0, .int .i64 0, .int .i64 0, .slice none 0 0, .slice none 0 0] 54).to hb1
  have B1 : Below w.heap.size w w1 := ((Below.refl w.heap.size w).alloc (Nat.le_refl _) (.cells #[.int .i64 0, .int .i64 0, .int .i64 0, .slice none 0 0, .slice none 0 0] 54)).trans (hb1.mono (by simp))
  go_wp2_with fail
  generalize hw2 : w1.alloc _ = w2
  have R2 : Blk w2 w.heap.size 54 [.int .i64 0, .int .i64 0, .int .i64 0, .slice none 0 0, .slice none 0 0] := by rw [← hw2]; exact R1.alloc _
  have O2 : Blk w2 w1.heap.size 54 [.int .i64 D, .int .i64 S, .int .i64 N, .slice va1 pl vc1, .slice va2 bl vc2] := by rw [← hw2]; exact Blk.new w1 _ _
  have b12 : Below w1.heap.size w1 w2 := by rw [← hw2]; exact (Below.refl _ _).alloc (Nat.le_refl _) _
  have B2 : Below w.heap.size w w2 := B1.trans (b12.mono B1.size)
  have HP2 : Hid (w2.ownsRow w.heap.size 9 1 (.slice va1 pl vc1) pl (P.map Value.string)) := ownsRow_to (owns_less ho1 (by simp)) b12
  have HQ2 : Hid (w2.ownsRow w.heap.size 3 1 (.slice va2 bl vc2) bl (intsV bad)) := ownsRow_to (owns_less ho2 (by simp)) b12
  generalize w1.heap.size = O at O2 ⊢
  have y0 := O2.cell_some (k := 0) rfl
  have y1 := O2.cell_some (k := 1) rfl
  have y2 := O2.cell_some (k := 2) rfl
  have y3 := O2.cell_some (k := 3) rfl
  have y4 := O2.cell_some (k := 4) rfl
  have HR : Hid (Blk w2 w.heap.size 54 [.int .i64 0, .int .i64 0, .int .i64 0, .slice none 0 0, .slice none 0 0]) := R2
  have HO : Hid (Blk w2 O 54 [.int .i64 D, .int .i64 S, .int .i64 N, .slice va1 pl vc1, .slice va2 bl vc2]) := O2
  have HB : Hid (Below w.heap.size w w2) := B2
  clear R2 B2 hw2 R1 B1 O2 b12 ho1 ho2 hb1
  refine (rWay_any _ _).mono ?_
  rintro e w' ⟨rfl, hw⟩
  obtain rfl : w2 = w' := hw.symm
  have HST : Hid (StrsAt w2 (.slice va1 pl vc1) P) := StrsAt.of_owns HP2.out
  have HIC : Hid (IsC w2 (.slice va2 bl vc2) (bad.map Int.ofNat)) := by
    have := HQ2.out; rw [HBL.out] at this ⊢; exact KeepW.IsC.of_owns this
  go_wp2_with fail
  refine Calls.mono (HGA.out _ _ _ HST.out HIC.out) ?_
  rintro e w3 ⟨v, rfl, hst3, hb3⟩
  have R3 := HR.out.to hb3
  have O3 := HO.out.to hb3
  have B3 := HB.out.trans (hb3.mono HB.out.size)
  have HQ3 : Hid (w3.ownsRow w.heap.size 3 1 (.slice va2 bl vc2) bl (intsV bad)) := ownsRow_to HQ2.out hb3
  have HS3 : Hid (StrsNew w3 w2.heap.size v ss) := hst3
  have hRlt : w.heap.size < w2.heap.size := HR.out.lt
  clear y0 y1 y2 y3 y4
  have q0 := R3.cell_some (k := 0) rfl
  have q1 := R3.cell_some (k := 1) rfl
  have q2 := R3.cell_some (k := 2) rfl
  have q3 := R3.cell_some (k := 3) rfl
  have q4 := R3.cell_some (k := 4) rfl
  have f0 := R3.free 0
  have f1 := R3.free 1
  have f2 := R3.free 2
  have f3 := R3.free 3
  have f4 := R3.free 4
  have y0 := O3.cell_some (k := 0) rfl
  have y1 := O3.cell_some (k := 1) rfl
  have y2 := O3.cell_some (k := 2) rfl
  have y3 := O3.cell_some (k := 3) rfl
  have y4 := O3.cell_some (k := 4) rfl
  have HR3 : Hid (Blk w3 w.heap.size 54 [.int .i64 0, .int .i64 0, .int .i64 0, .slice none 0 0, .slice none 0 0]) := R3
  have HB3 : Hid (Below w.heap.size w w3) := B3
  clear R3 B3 O3 hb3 hst3 HR HB HO HST HIC HP2 HQ2
  go_wp2_with fail
  have a0 := HR3.out
  have a1 := a0.set 0 (.int .i64 D)
  have a2 := a1.set 1 (.int .i64 S)
  have a3 := a2.set 2 (.int .i64 N)
  have a4 := a3.set 3 (.slice va1 pl vc1)
  have a5 := a4.set 4 (.slice va2 bl vc2)
  refine bodyPost_ret (v := .tuple #[.agg #[.int .i64 D, .int .i64 S, .int .i64 N, .slice va1 pl vc1, .slice va2 bl vc2], .string str, v, .int .i64 0]) (results_row_tmp3 (p := 4) (u := 5) (u2 := 6) (u3 := 7) (ty := 54) (by kernel_rfl) _ _ w.heap.size 54 _ (0, 0) _ rfl a5 Tryz.underlying54 rfl infoOpened _ _ _ rfl rfl rfl) rfl ?_
  exact ⟨_, _, v, rfl, ⟨_, _, _, rfl⟩, (strs_set1 (strs_set1 (strs_set1 (strs_set1 (strs_set1 HS3.out hRlt 0 (.int .i64 D)) hRlt 1 (.int .i64 S)) hRlt 2 (.int .i64 N)) hRlt 3 (.slice va1 pl vc1)) hRlt 4 (.slice va2 bl vc2)).at, by rw [← HBL.out]; exact (owns_set1 (owns_set1 (owns_set1 (owns_set1 (owns_set1 HQ3.out a0 (by decide) 0 (.int .i64 D)) a1 (by decide) 1 (.int .i64 S)) a2 (by decide) 2 (.int .i64 N)) a3 (by decide) 3 (.slice va1 pl vc1)) a4 (by decide) 4 (.slice va2 bl vc2)), (((((HB3.out.setCell (by exact Nat.le_refl _) _).setCell (by exact Nat.le_refl _) _).setCell (by exact Nat.le_refl _) _).setCell (by exact Nat.le_refl _) _).setCell (by exact Nat.le_refl _) _)⟩
end Go.Proofs.YtokmllopbfmadaaGreatDoor.Ref

/- Read, Heal and Edit of the document. -/
namespace Go.Proofs.YtokmllopbfmadaaGreatDoor.Ref
open Go.RowKit Mem FieldWalks Tab ByTab Parts Top
open Gf (Bytes Fits chosen left_)
open Plans (intsV)
open Pk (MendNo MendYes newPieces)

set_option maxRecDepth 100000 in
set_option maxHeartbeats 1000000 in
theorem rRead_no (p : ByteArray) (x : Int) (k : Nat) (hp : p.size < 4611686018427387904) (h : MendNo p x k) (w : World) :
    Calls Tryz.prog 6 #[.string p, .int .i64 x] w fun e w' => e = .returned (.tuple #[.string ByteArray.empty, .int .i64 k]) ∧ Below w.heap.size w w' := by
  have HM : Hid _ := healed_no p x k hp h w
  clear h
  unfold noHealed noOpened at HM
  go_enter Tryz.func6, Tryz.ntmps6
  go_wp2_with fail
  refine Calls.mono HM.out ?_
  rintro e w1 ⟨rfl, hb1⟩
  go_wp2
  go_ret2
  exact ⟨rfl, hb1.alloc hb1.size _⟩
set_option maxRecDepth 100000 in
set_option maxHeartbeats 1000000 in
theorem rHeal_no (p : ByteArray) (x : Int) (k : Nat) (hk : 1 ≤ k) (hp : p.size < 4611686018427387904) (h : MendNo p x k) (w : World) :
    Calls Tryz.prog 8 #[.string p, .int .i64 x] w fun e w' => e = .returned (.tuple #[.string ByteArray.empty, .slice none 0 0, .int .i64 k]) ∧ Below w.heap.size w w' := by
  have HM : Hid _ := healed_no p x k hp h w
  have e1 : ((k : Int) != 0) = true := by simp; omega
  have e2 : ((k : Int) == 0) = false := by simp; omega
  clear h
  unfold noHealed noOpened at HM
  go_enter Tryz.func8, Tryz.ntmps8
  go_wp2_with fail
  refine Calls.mono HM.out ?_
  rintro e w1 ⟨rfl, hb1⟩
  go_wp2
  go_ret3
  exact ⟨rfl, hb1.alloc hb1.size _⟩
set_option maxRecDepth 100000 in
set_option maxHeartbeats 1000000 in
theorem rEdit_no (p : ByteArray) (x a : Int) (t : ByteArray) (k : Nat) (hk : 1 ≤ k) (hp : p.size < 4611686018427387904) (h : MendNo p x k) (w : World) :
    Calls Tryz.prog 12 #[.string p, .int .i64 x, .int .i64 a, .string t] w fun e w' => e = .returned (.tuple #[.string ByteArray.empty, .int .i64 k]) ∧ Below w.heap.size w w' := by
  have HM : Hid _ := healed_no p x k hp h w
  have e1 : ((k : Int) != 0) = true := by simp; omega
  have e2 : ((k : Int) == 0) = false := by simp; omega
  clear h
  unfold noHealed noOpened at HM
  go_enter Tryz.func12, Tryz.ntmps12
  go_wp2_with fail
  refine Calls.mono HM.out ?_
  rintro e w1 ⟨rfl, hb1⟩
  go_wp2
  go_ret2
  exact ⟨rfl, hb1.alloc hb1.size _⟩
/-- What is told of healed, for a pack that is healed. -/
def HealedOk (p : ByteArray) (x : Int) (D S N : Nat) (str : ByteArray) (ss : List ByteArray) (bad : List Nat) : Prop :=
  ∀ W, Calls Tryz.prog 19 #[.string p, .int .i64 x] W fun e w' => HealedAns W w' D S N str ss bad e
set_option maxRecDepth 100000 in
set_option maxHeartbeats 1000000 in
theorem rRead_ok (p : ByteArray) (x : Int) (D S N : Nat) (str : ByteArray) (ss : List ByteArray) (bad : List Nat) (h : HealedOk p x D S N str ss bad) (w : World) :
    Calls Tryz.prog 6 #[.string p, .int .i64 x] w fun e w' => e = .returned (.tuple #[.string str, .int .i64 0]) ∧ Below w.heap.size w w' := by
  have HM : Hid _ := h w
  clear h
  go_enter Tryz.func6, Tryz.ntmps6
  go_wp2_with fail
  refine Calls.mono HM.out ?_
  rintro e w1 ⟨v1, v2, v, rfl, ⟨va1, pl, vc1, rfl⟩, hst, hown, hb1⟩
  obtain ⟨va2, vc2, rfl⟩ := owns_slice hown
  go_wp2
  go_ret2
  exact ⟨rfl, hb1.alloc hb1.size _⟩
set_option maxRecDepth 100000 in
set_option maxHeartbeats 1000000 in
theorem rHeal_ok (p : ByteArray) (x : Int) (D S N : Nat) (str : ByteArray) (ss : List ByteArray) (bad : List Nat) (hD : D ≤ 10) (hS : S ≤ 6) (hN : N ≤ 400) (hl : ss.length = D + S) (hz : ∀ q, (h : q < ss.length) → ss[q].size ≤ 1000) (h : HealedOk p x D S N str ss bad) (w : World) :
    Calls Tryz.prog 8 #[.string p, .int .i64 x] w fun e w' => ∃ vb, e = .returned (.tuple #[.string (packS D S N ss), vb, .int .i64 0]) ∧ w'.ownsRow w.heap.size 3 1 vb bad.length (intsV bad) ∧ Below w.heap.size w w' := by
  have HM : Hid _ := h w
  have HWR : Hid (∀ W v, StrsAt W v ss → Calls Tryz.prog 21 #[.int .i64 D, .int .i64 S, .int .i64 N, v] W fun e w' => e = .returned (.string (packS D S N ss)) ∧ Below W.heap.size W w') := fun W v hv =>
    packed_any D S N ss v (by omega) (by omega) hz W hv
  generalize packS D S N ss = out at HWR ⊢
  clear h hl hz
  go_enter Tryz.func8, Tryz.ntmps8
  go_wp2_with fail
  refine Calls.mono HM.out ?_
  rintro e w1 ⟨v1, v2, v, rfl, ⟨va1, pl, vc1, rfl⟩, hst, hown, hb1⟩
  obtain ⟨va2, vc2, rfl⟩ := owns_slice hown
  go_wp2_with fail
  generalize hw2 : w1.alloc _ = w2
  have M2 : Blk w2 w1.heap.size 54 [.int .i64 D, .int .i64 S, .int .i64 N, .slice va1 pl vc1, .slice va2 bad.length vc2] := by rw [← hw2]; exact Blk.new w1 _ _
  have hb12 : Below w1.heap.size w1 w2 := by rw [← hw2]; exact (Below.refl _ _).alloc (Nat.le_refl _) _
  have HB2 : Hid (Below w.heap.size w w2) := hb1.trans (hb12.mono hb1.size)
  have HO2 : Hid (w2.ownsRow w.heap.size 3 1 (.slice va2 bad.length vc2) bad.length (intsV bad)) := ownsRow_to hown hb12
  have HS2 : Hid (StrsAt w2 v ss) := hst.to hb12
  generalize w1.heap.size = M at M2 ⊢
  have hMlt := M2.lt
  have z0 := M2.drew.cell_some (k := 0) rfl
  have z1 := M2.drew.cell_some (k := 1) rfl
  have z2 := M2.drew.cell_some (k := 2) rfl
  have z4 := M2.drew.cell_some (k := 4) rfl
  clear hw2 hb12 M2 hown hst hb1 HM
  go_region_held3 (fun wx => wx.cell? ⟨M, 0, none⟩ = some (.int .i64 (D : Int)) ∧ wx.cell? ⟨M, 1, none⟩ = some (.int .i64 (S : Int)) ∧ wx.cell? ⟨M, 2, none⟩ = some (.int .i64 (N : Int)) ∧ wx.cell? ⟨M, 4, none⟩ = some (.slice va2 bad.length vc2)) (go_keep) (first | (go_at_call 21; refine Calls.mono (HWR.out _ _ (by exact HS2.out)) ?_; rintro e w3 ⟨rfl, hb3⟩; have o0 := (hb3.cell (p := ⟨M, 0, none⟩) hMlt).trans z0; have o1 := (hb3.cell (p := ⟨M, 1, none⟩) hMlt).trans z1; have o2 := (hb3.cell (p := ⟨M, 2, none⟩) hMlt).trans z2; have o4 := (hb3.cell (p := ⟨M, 4, none⟩) hMlt).trans z4))
  have B23 : Below w2.heap.size w2 w3 := (Below.refl w2.heap.size w2).drew.trans hb3
  go_wp2
  go_ret3
  exact ⟨_, rfl, ownsRow_to HO2.out B23, HB2.out.trans (B23.mono HB2.out.size)⟩
set_option maxRecDepth 100000 in
set_option maxHeartbeats 1000000 in
theorem rEdit_range (p : ByteArray) (x a : Int) (t : ByteArray) (D S N L : Nat) (str : ByteArray) (ss : List ByteArray) (bad : List Nat) (hD1 : 1 ≤ D) (hD : D ≤ 10) (hS : S ≤ 6) (hN : N ≤ 400) (hL : L = (N + D - 1) / D) (hl : ss.length = D + S) (hz : ∀ q, (h : q < ss.length) → ss[q].size = L) (ha1 : -(2 : Int) ^ 63 ≤ a) (ha2 : a < (2 : Int) ^ 63) (hr : ¬ (0 ≤ a ∧ a + t.size ≤ N)) (h : HealedOk p x D S N str ss bad) (w : World) :
    Calls Tryz.prog 12 #[.string p, .int .i64 x, .int .i64 a, .string t] w fun e w' => e = .returned (.tuple #[.string ByteArray.empty, .int .i64 8]) ∧ Below w.heap.size w w' := by
  have HM : Hid _ := h w
  have hLs : L ≤ 400 := by have := ceil_le N D hD1; omega
  have hsh : ShapeOk D S L ss [] := ⟨hl, fun k hk => by simp at hk, fun q hq _ => hz q hq⟩
  have HCH : Hid (∀ W v, StrsAt W v ss → Calls Tryz.prog 24 #[.int .i64 D, .int .i64 S, .int .i64 N, v, .int .i64 a, .string t] W fun e w' => e = .returned (.tuple #[.slice none 0 0, .int .i64 8]) ∧ Below W.heap.size W w') := fun W v hv =>
    (rChange_range D S N a ss v t W hv (by omega) hD1 hD hS hN (fun q hq => by rw [hz q hq]; omega) ha1 ha2 (by rw [← hL]; exact hsh) hr).mono fun e w' hh => ⟨hh.1, hh.2.below⟩
  clear h hsh hl hz hL hr
  go_enter Tryz.func12, Tryz.ntmps12
  go_wp2_with fail
  refine Calls.mono HM.out ?_
  rintro e w1 ⟨v1, v2, v, rfl, ⟨va1, pl, vc1, rfl⟩, hst, hown, hb1⟩
  obtain ⟨va2, vc2, rfl⟩ := owns_slice hown
  go_wp2_with fail
  generalize hw2 : w1.alloc _ = w2
  have M2 : Blk w2 w1.heap.size 54 [.int .i64 D, .int .i64 S, .int .i64 N, .slice va1 pl vc1, .slice va2 bad.length vc2] := by rw [← hw2]; exact Blk.new w1 _ _
  have hb12 : Below w1.heap.size w1 w2 := by rw [← hw2]; exact (Below.refl _ _).alloc (Nat.le_refl _) _
  have HB2 : Hid (Below w.heap.size w w2) := hb1.trans (hb12.mono hb1.size)
  have HO2 : Hid (w2.ownsRow w.heap.size 3 1 (.slice va2 bad.length vc2) bad.length (intsV bad)) := ownsRow_to hown hb12
  have HS2 : Hid (StrsAt w2 v ss) := hst.to hb12
  generalize w1.heap.size = M at M2 ⊢
  have hMlt := M2.lt
  have z0 := M2.cell_some (k := 0) rfl
  have z1 := M2.cell_some (k := 1) rfl
  have z2 := M2.cell_some (k := 2) rfl
  clear hw2 hb12 M2 hown hst hb1 HM HO2
  refine Calls.mono (HCH.out _ _ HS2.out) ?_
  rintro e w3 ⟨rfl, hb3⟩
  go_wp2
  go_ret2
  exact ⟨rfl, HB2.out.trans (hb3.mono HB2.out.size)⟩
set_option maxRecDepth 100000 in
set_option maxHeartbeats 1000000 in
theorem rEdit_ok (p : ByteArray) (x : Int) (a : Nat) (t : ByteArray) (D S N L : Nat) (str : ByteArray) (ss : List ByteArray) (bad : List Nat) (hD1 : 1 ≤ D) (hD : D ≤ 10) (hS : S ≤ 6) (hN : N ≤ 400) (hL : L = (N + D - 1) / D) (hl : ss.length = D + S) (hz : ∀ q, (h : q < ss.length) → ss[q].size = L) (hat : a + t.size ≤ N) (h : HealedOk p x D S N str ss bad) (w : World) :
    Calls Tryz.prog 12 #[.string p, .int .i64 x, .int .i64 a, .string t] w fun e w' => e = .returned (.tuple #[.string (packS D S N (newPieces D S L a t ss)), .int .i64 0]) ∧ Below w.heap.size w w' := by
  have HM : Hid _ := h w
  have hLs : L ≤ 400 := by have := ceil_le N D hD1; omega
  have hsh : ShapeOk D S L ss [] := ⟨hl, fun k hk => by simp at hk, fun q hq _ => hz q hq⟩
  have HCH : Hid (∀ W v, StrsAt W v ss → Calls Tryz.prog 24 #[.int .i64 D, .int .i64 S, .int .i64 N, v, .int .i64 a, .string t] W fun e w' => ∃ v', e = .returned (.tuple #[v', .int .i64 0]) ∧ StrsAt w' v' (newPieces D S L a t ss) ∧ Below W.heap.size W w') := fun W v hv =>
    (rChange_ok D S N a L ss t v W hv hD1 hD hS hN hL (fun q hq => by rw [hz q hq]; omega) hsh hat).mono fun e w' hh => by
      obtain ⟨v', rfl, hst, hb⟩ := hh
      exact ⟨v', rfl, hst.at, hb⟩
  have HWR : Hid (∀ W v, StrsAt W v (newPieces D S L a t ss) → Calls Tryz.prog 21 #[.int .i64 D, .int .i64 S, .int .i64 N, v] W fun e w' => e = .returned (.string (packS D S N (newPieces D S L a t ss))) ∧ Below W.heap.size W w') := fun W v hv =>
    packed_any D S N _ v (by omega) (by simp [newPieces]; omega) (fun q h => by simp [newPieces, mkS_size, Plans.rowF]; omega) W hv
  generalize packS D S N (newPieces D S L a t ss) = out at HWR ⊢
  generalize newPieces D S L a t ss = ns at HWR HCH
  clear h hsh hl hz hL
  go_enter Tryz.func12, Tryz.ntmps12
  go_wp2_with fail
  refine Calls.mono HM.out ?_
  rintro e w1 ⟨v1, v2, v, rfl, ⟨va1, pl, vc1, rfl⟩, hst, hown, hb1⟩
  obtain ⟨va2, vc2, rfl⟩ := owns_slice hown
  go_wp2_with fail
  generalize hw2 : w1.alloc _ = w2
  have M2 : Blk w2 w1.heap.size 54 [.int .i64 D, .int .i64 S, .int .i64 N, .slice va1 pl vc1, .slice va2 bad.length vc2] := by rw [← hw2]; exact Blk.new w1 _ _
  have hb12 : Below w1.heap.size w1 w2 := by rw [← hw2]; exact (Below.refl _ _).alloc (Nat.le_refl _) _
  have HB2 : Hid (Below w.heap.size w w2) := hb1.trans (hb12.mono hb1.size)
  have HO2 : Hid (w2.ownsRow w.heap.size 3 1 (.slice va2 bad.length vc2) bad.length (intsV bad)) := ownsRow_to hown hb12
  have HS2 : Hid (StrsAt w2 v ss) := hst.to hb12
  generalize w1.heap.size = M at M2 ⊢
  have hMlt := M2.lt
  have z0 := M2.cell_some (k := 0) rfl
  have z1 := M2.cell_some (k := 1) rfl
  have z2 := M2.cell_some (k := 2) rfl
  clear hw2 hb12 M2 hown hst hb1 HM HO2
  refine Calls.mono (HCH.out _ _ HS2.out) ?_
  rintro e w3 ⟨v', rfl, hst3, hb3⟩
  have o0 := (hb3.cell (p := ⟨M, 0, none⟩) hMlt).trans z0
  have o1 := (hb3.cell (p := ⟨M, 1, none⟩) hMlt).trans z1
  have o2 := (hb3.cell (p := ⟨M, 2, none⟩) hMlt).trans z2
  have B3 := HB2.out.trans (hb3.mono HB2.out.size)
  have HS3 : Hid (StrsAt w3 v' ns) := hst3
  clear z0 z1 z2 hst3 hb3
  go_wp2_with fail
  refine Calls.mono (HWR.out _ _ HS3.out) ?_
  rintro e w4 ⟨rfl, hb4⟩
  go_wp2
  go_ret2
  exact ⟨rfl, B3.trans (hb4.mono B3.size)⟩
end Go.Proofs.YtokmllopbfmadaaGreatDoor.Ref
