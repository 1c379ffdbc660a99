import Derived.Test.YtokmllopbfmadabDoorGPkHead
import Derived.Test.YtokmllopbfmadabDoorGPkPieces
import Derived.Test.YtokmllopbfmadabDoorGWGather
import Derived.Test.YtokmllopbfmadabDoorGKGone
import Derived.Test.YtokmllopbfmadabDoorGKRest2
/- A pack is mended: its errors. -/
namespace Go.Proofs.YtokmllopbfmadabDoor.Pk
open Go.RowKit Mem FieldWalks Tab ByTab Parts Ref Top
open Gf (Bytes Fits chosen left_)
open Plans (intsV)

/-- The zero value of what mend answers. -/
def noMended : Value := .agg #[.int .i64 0, .int .i64 0, .int .i64 0, .string ByteArray.empty, .slice none 0 0, .slice none 0 0]
theorem infoMended : (Tryd.prog.info? 64).map (·.size) = some 6 := by kernel_rfl
/-- Why a pack is not mended. -/
def MendNo (p : ByteArray) (x : Int) (k : Nat) : Prop :=
  (k = 9 ∧ ¬ headOk p) ∨ (k = 10 ∧ headOk p ∧ ¬ cutOk p) ∨ (k = 4 ∧ headOk p ∧ cutOk p ∧ okWay x = false) ∨ (k = 7 ∧ headOk p ∧ cutOk p ∧ okWay x = true ∧ pS p < (openBad p).length)
/-- It is mended. -/
def MendYes (p : ByteArray) (x : Int) : Prop := headOk p ∧ cutOk p ∧ okWay x = true ∧ (openBad p).length ≤ pS p
theorem mend_cases (p : ByteArray) (x : Int) : MendYes p x ∨ ∃ k, 1 ≤ k ∧ k ≤ 10 ∧ MendNo p x k := by
  by_cases h1 : headOk p
  · by_cases h2 : cutOk p
    · cases h3 : okWay x
      · exact .inr ⟨4, by omega, by omega, .inr (.inr (.inl ⟨rfl, h1, h2, h3⟩))⟩
      · by_cases h4 : (openBad p).length ≤ pS p
        · exact .inl ⟨h1, h2, h3, h4⟩
        · exact .inr ⟨7, by omega, by omega, .inr (.inr (.inr ⟨rfl, h1, h2, h3, by omega⟩))⟩
    · exact .inr ⟨10, by omega, by omega, .inr (.inl ⟨rfl, h1, h2⟩)⟩
  · exact .inr ⟨9, by omega, by omega, .inl ⟨rfl, h1⟩⟩
set_option maxRecDepth 100000 in
set_option maxHeartbeats 1000000 in
theorem mend_err (p : ByteArray) (x : Int) (k : Nat) (hk : 1 ≤ k) (hk2 : k ≤ 100) (hh : ∀ W, Calls Tryd.prog 19 #[.string p] W fun e w' => e = .returned (.tuple #[headV 0 0 0, .int .i64 k]) ∧ Below W.heap.size W w') (w : World) :
    Calls Tryd.prog 22 #[.string p, .int .i64 x] w fun e w' => e = .returned (.tuple #[noMended, .int .i64 k]) ∧ Below w.heap.size w w' := by
  have HH : Hid (∀ W, Calls Tryd.prog 19 #[.string p] W fun e w' => e = .returned (.tuple #[.agg #[.int .i64 0, .int .i64 0, .int .i64 0], .int .i64 k]) ∧ Below W.heap.size W w') := hh
  have e1 : ((k : Int) != 0) = true := by simp; omega
  have e2 : ((k : Int) == 0) = false := by simp; omega
  clear hh
  go_enter Tryd.func22, Tryd.ntmps22
  go_wp2_with fail
  refine Calls.mono (HH.out _) ?_
  rintro e w1 ⟨rfl, hb1⟩
  have R1 : Blk w1 w.heap.size 64 [.int .i64 0, .int .i64 0, .int .i64 0, .string ByteArray.empty, .slice none 0 0, .slice none 0 0] := (Blk.new w #[.int .i64 0, .int .i64 0, .int .i64 0, .string ByteArray.empty, .slice none 0 0, .slice none 0 0] 64).to hb1
  have B1 : Below w.heap.size w w1 := ((Below.refl w.heap.size w).alloc (Nat.le_refl _) (.cells #[.int .i64 0, .int .i64 0, .int .i64 0, .string ByteArray.empty, .slice none 0 0, .slice none 0 0] 64)).trans (hb1.mono (by simp))
  clear hb1
  have R2 := R1.alloc (.cells #[.int .i64 0, .int .i64 0, .int .i64 0] 37)
  have B2 := B1.alloc B1.size (.cells #[.int .i64 0, .int .i64 0, .int .i64 0] 37)
  have q0 := R2.cell_some (k := 0) rfl
  have q1 := R2.cell_some (k := 1) rfl
  have q2 := R2.cell_some (k := 2) rfl
  have q3 := R2.cell_some (k := 3) rfl
  have q4 := R2.cell_some (k := 4) rfl
  have q5 := R2.cell_some (k := 5) rfl
  have f0 := R2.free 0
  have f1 := R2.free 1
  have f2 := R2.free 2
  have f3 := R2.free 3
  have f4 := R2.free 4
  have f5 := R2.free 5
  have HR : Hid (Blk (w1.alloc (.cells #[.int .i64 0, .int .i64 0, .int .i64 0] 37)) w.heap.size 64 [.int .i64 0, .int .i64 0, .int .i64 0, .string ByteArray.empty, .slice none 0 0, .slice none 0 0]) := R2
  have HB : Hid (Below w.heap.size w (w1.alloc (.cells #[.int .i64 0, .int .i64 0, .int .i64 0] 37))) := B2
  clear R1 B1 R2 B2
  go_wp2
  have hr := ((((((HR.out.set 0 (.int .i64 0)).set 1 (.int .i64 0)).set 2 (.int .i64 0)).set 3 (.string ByteArray.empty)).set 4 (.slice none 0 0)).set 5 (.slice none 0 0))
  refine bodyPost_ret (v := .tuple #[noMended, .int .i64 k]) (results_row_tmp (p := 4) (u := 5) (ty := 64) (by kernel_rfl) _ _ w.heap.size 64 _ (0, 0) _ rfl hr Tryd.underlying64 rfl infoMended _ rfl) rfl ⟨rfl, ?_⟩
  exact ((((((HB.out.setCell (by exact Nat.le_refl _) _).setCell (by exact Nat.le_refl _) _).setCell (by exact Nat.le_refl _) _).setCell (by exact Nat.le_refl _) _).setCell (by exact Nat.le_refl _) _).setCell (by exact Nat.le_refl _) _)
set_option maxRecDepth 100000 in
set_option maxHeartbeats 1000000 in
theorem mend_way (p : ByteArray) (x : Int) (h : headOk p) (hc : cutOk p) (hp : p.size < 4611686018427387904) (hx : okWay x = false) (w : World) :
    Calls Tryd.prog 22 #[.string p, .int .i64 x] w fun e w' => e = .returned (.tuple #[noMended, .int .i64 4]) ∧ Below w.heap.size w w' := by
  have HH : Hid (∀ W, Calls Tryd.prog 19 #[.string p] W fun e w' => e = .returned (.tuple #[.agg #[.int .i64 (pD p), .int .i64 (pS p), .int .i64 (pN p)], .int .i64 0]) ∧ Below W.heap.size W w') := fun W => (headOf_yes p h hp W).mono fun e w' hh => ⟨hh.1 hc, hh.2.2⟩
  generalize pD p = D at HH
  generalize pS p = S at HH
  generalize pN p = N at HH
  clear h hc
  go_enter Tryd.func22, Tryd.ntmps22
  go_wp2_with fail
  refine Calls.mono (HH.out _) ?_
  rintro e w1 ⟨rfl, hb1⟩
  have R1 : Blk w1 w.heap.size 64 [.int .i64 0, .int .i64 0, .int .i64 0, .string ByteArray.empty, .slice none 0 0, .slice none 0 0] := (Blk.new w #[.int .i64 0, .int .i64 0, .int .i64 0, .string ByteArray.empty, .slice none 0 0, .slice none 0 0] 64).to hb1
  have B1 : Below w.heap.size w w1 := ((Below.refl w.heap.size w).alloc (Nat.le_refl _) (.cells #[.int .i64 0, .int .i64 0, .int .i64 0, .string ByteArray.empty, .slice none 0 0, .slice none 0 0] 64)).trans (hb1.mono (by simp))
  clear hb1
  go_wp2_with fail
  generalize hw2 : w1.alloc _ = w2
  have R2 : Blk w2 w.heap.size 64 [.int .i64 0, .int .i64 0, .int .i64 0, .string ByteArray.empty, .slice none 0 0, .slice none 0 0] := by rw [← hw2]; exact R1.alloc _
  have O2 : Blk w2 w1.heap.size 37 [.int .i64 D, .int .i64 S, .int .i64 N] := by rw [← hw2]; exact Blk.new w1 _ _
  have B2 : Below w.heap.size w w2 := by rw [← hw2]; exact B1.alloc B1.size _
  generalize w1.heap.size = O at O2 ⊢
  have q0 := R2.cell_some (k := 0) rfl
  have q1 := R2.cell_some (k := 1) rfl
  have q2 := R2.cell_some (k := 2) rfl
  have q3 := R2.cell_some (k := 3) rfl
  have q4 := R2.cell_some (k := 4) rfl
  have q5 := R2.cell_some (k := 5) rfl
  have f0 := R2.free 0
  have f1 := R2.free 1
  have f2 := R2.free 2
  have f3 := R2.free 3
  have f4 := R2.free 4
  have f5 := R2.free 5
  have y0 := O2.cell_some (k := 0) rfl
  have y1 := O2.cell_some (k := 1) rfl
  have y2 := O2.cell_some (k := 2) rfl
  have HR : Hid (Blk w2 w.heap.size 64 [.int .i64 0, .int .i64 0, .int .i64 0, .string ByteArray.empty, .slice none 0 0, .slice none 0 0]) := R2
  have HB : Hid (Below w.heap.size w w2) := B2
  clear R2 B2 hw2 R1 B1 O2
  refine (isWay_any _ _).mono ?_
  rintro e w' ⟨rfl, hw⟩
  obtain rfl : w2 = w' := hw.symm
  go_wp2_with fail
  have hr := ((((((HR.out.set 0 (.int .i64 0)).set 1 (.int .i64 0)).set 2 (.int .i64 0)).set 3 (.string ByteArray.empty)).set 4 (.slice none 0 0)).set 5 (.slice none 0 0))
  refine bodyPost_ret (v := .tuple #[noMended, .int .i64 4]) (results_row_tmp (p := 4) (u := 5) (ty := 64) (by kernel_rfl) _ _ w.heap.size 64 _ (0, 0) _ rfl hr Tryd.underlying64 rfl infoMended _ rfl) rfl ⟨rfl, ?_⟩
  exact ((((((HB.out.setCell (by exact Nat.le_refl _) _).setCell (by exact Nat.le_refl _) _).setCell (by exact Nat.le_refl _) _).setCell (by exact Nat.le_refl _) _).setCell (by exact Nat.le_refl _) _).setCell (by exact Nat.le_refl _) _)
set_option maxRecDepth 100000 in
set_option maxHeartbeats 1000000 in
theorem mend_few (p : ByteArray) (x : Int) (h : headOk p) (hc : cutOk p) (hp : p.size < 4611686018427387904) (hx : okWay x = true) (hfew : pS p < (openBad p).length) (w : World) :
    Calls Tryd.prog 22 #[.string p, .int .i64 x] w fun e w' => e = .returned (.tuple #[noMended, .int .i64 7]) ∧ Below w.heap.size w w' := by
  have HH : Hid (∀ W, Calls Tryd.prog 19 #[.string p] W fun e w' => e = .returned (.tuple #[.agg #[.int .i64 (pD p), .int .i64 (pS p), .int .i64 (pN p)], .int .i64 0]) ∧ Below W.heap.size W w') := fun W => (headOf_yes p h hp W).mono fun e w' hh => ⟨hh.1 hc, hh.2.2⟩
  have hD := h.2.2.2.1
  have HBA : Hid (∀ W, Calls Tryd.prog 20 #[.agg #[.int .i64 (pD p), .int .i64 (pS p), .int .i64 (pN p)], .string p, .int .i64 (pS p)] W fun e w' => ∃ ao c, e = .returned (.slice ao (pS p + 1) c) ∧ Below W.heap.size W w') := fun W => (bad_any p hp h hc (pS p) (by omega) W).mono fun e w' hh => by
    obtain ⟨v, rfl, hv, hb⟩ := hh
    obtain ⟨ao, c, rfl⟩ := owns_slice hv
    refine ⟨ao, c, ?_, hb⟩
    rw [List.length_take, Nat.min_eq_left hfew]
  generalize pD p = D at HH HBA hD
  generalize pS p = S at HH HBA hD
  generalize pN p = N at HH HBA
  clear h hc hfew
  go_enter Tryd.func22, Tryd.ntmps22
  go_wp2_with fail
  refine Calls.mono (HH.out _) ?_
  rintro e w1 ⟨rfl, hb1⟩
  have R1 : Blk w1 w.heap.size 64 [.int .i64 0, .int .i64 0, .int .i64 0, .string ByteArray.empty, .slice none 0 0, .slice none 0 0] := (Blk.new w #[.int .i64 0, .int .i64 0, .int .i64 0, .string ByteArray.empty, .slice none 0 0, .slice none 0 0] 64).to hb1
  have B1 : Below w.heap.size w w1 := ((Below.refl w.heap.size w).alloc (Nat.le_refl _) (.cells #[.int .i64 0, .int .i64 0, .int .i64 0, .string ByteArray.empty, .slice none 0 0, .slice none 0 0] 64)).trans (hb1.mono (by simp))
  clear hb1
  go_wp2_with fail
  generalize hw2 : w1.alloc _ = w2
  have R2 : Blk w2 w.heap.size 64 [.int .i64 0, .int .i64 0, .int .i64 0, .string ByteArray.empty, .slice none 0 0, .slice none 0 0] := by rw [← hw2]; exact R1.alloc _
  have O2 : Blk w2 w1.heap.size 37 [.int .i64 D, .int .i64 S, .int .i64 N] := by rw [← hw2]; exact Blk.new w1 _ _
  have B2 : Below w.heap.size w w2 := by rw [← hw2]; exact B1.alloc B1.size _
  generalize w1.heap.size = O at O2 ⊢
  have q0 := R2.cell_some (k := 0) rfl
  have q1 := R2.cell_some (k := 1) rfl
  have q2 := R2.cell_some (k := 2) rfl
  have q3 := R2.cell_some (k := 3) rfl
  have q4 := R2.cell_some (k := 4) rfl
  have q5 := R2.cell_some (k := 5) rfl
  have f0 := R2.free 0
  have f1 := R2.free 1
  have f2 := R2.free 2
  have f3 := R2.free 3
  have f4 := R2.free 4
  have f5 := R2.free 5
  have y0 := O2.cell_some (k := 0) rfl
  have y1 := O2.cell_some (k := 1) rfl
  have y2 := O2.cell_some (k := 2) rfl
  have HR : Hid (Blk w2 w.heap.size 64 [.int .i64 0, .int .i64 0, .int .i64 0, .string ByteArray.empty, .slice none 0 0, .slice none 0 0]) := R2
  have HO : Hid (Blk w2 O 37 [.int .i64 D, .int .i64 S, .int .i64 N]) := O2
  have HB : Hid (Below w.heap.size w w2) := B2
  clear R2 B2 hw2 R1 B1 O2
  refine (isWay_any _ _).mono ?_
  rintro e w' ⟨rfl, hw⟩
  obtain rfl : w2 = w' := hw.symm
  go_wp2_with fail
  refine Calls.mono (HBA.out _) ?_
  rintro e w3 ⟨ao, c, rfl, hb3⟩
  have R3 := HR.out.to hb3
  have O3 := HO.out.to hb3
  have B3 := HB.out.trans (hb3.mono HB.out.size)
  clear q0 f0 q1 f1 q2 f2 q3 f3 q4 f4 q5 f5 y0 y1 y2
  have q0 := R3.cell_some (k := 0) rfl
  have q1 := R3.cell_some (k := 1) rfl
  have q2 := R3.cell_some (k := 2) rfl
  have q3 := R3.cell_some (k := 3) rfl
  have q4 := R3.cell_some (k := 4) rfl
  have q5 := R3.cell_some (k := 5) rfl
  have f0 := R3.free 0
  have f1 := R3.free 1
  have f2 := R3.free 2
  have f3 := R3.free 3
  have f4 := R3.free 4
  have f5 := R3.free 5
  have y0 := O3.cell_some (k := 0) rfl
  have y1 := O3.cell_some (k := 1) rfl
  have y2 := O3.cell_some (k := 2) rfl
  have HR3 : Hid (Blk w3 w.heap.size 64 [.int .i64 0, .int .i64 0, .int .i64 0, .string ByteArray.empty, .slice none 0 0, .slice none 0 0]) := R3
  have HB3 : Hid (Below w.heap.size w w3) := B3
  have e1 : decide ((S : Int) < (S : Int) + 1) = true := decide_eq_true (by omega)
  have e2 : decide (((S + 1 : Nat) : Int) > (S : Int)) = true := decide_eq_true (by omega)
  have e3 : decide ((S : Int) < ((S + 1 : Nat) : Int)) = true := decide_eq_true (by omega)
  clear R3 O3 B3 HR HB HO hb3
  go_wp2_with fail
  have hr := ((((((HR3.out.set 0 (.int .i64 0)).set 1 (.int .i64 0)).set 2 (.int .i64 0)).set 3 (.string ByteArray.empty)).set 4 (.slice none 0 0)).set 5 (.slice none 0 0))
  refine bodyPost_ret (v := .tuple #[noMended, .int .i64 7]) (results_row_tmp (p := 4) (u := 5) (ty := 64) (by kernel_rfl) _ _ w.heap.size 64 _ (0, 0) _ rfl hr Tryd.underlying64 rfl infoMended _ rfl) rfl ⟨rfl, ?_⟩
  exact ((((((HB3.out.setCell (by exact Nat.le_refl _) _).setCell (by exact Nat.le_refl _) _).setCell (by exact Nat.le_refl _) _).setCell (by exact Nat.le_refl _) _).setCell (by exact Nat.le_refl _) _).setCell (by exact Nat.le_refl _) _)
theorem mend_no (p : ByteArray) (x : Int) (k : Nat) (hp : p.size < 4611686018427387904) (h : MendNo p x k) (w : World) :
    Calls Tryd.prog 22 #[.string p, .int .i64 x] w fun e w' => e = .returned (.tuple #[noMended, .int .i64 k]) ∧ Below w.heap.size w w' := by
  rcases h with ⟨rfl, h⟩ | ⟨rfl, h, hc⟩ | ⟨rfl, h, hc, hx⟩ | ⟨rfl, h, hc, hx, hf⟩
  · exact mend_err p x 9 (by omega) (by omega) (fun W => headOf_no p h hp W) w
  · exact mend_err p x 10 (by omega) (by omega) (fun W => (headOf_yes p h hp W).mono fun e w' hh => ⟨hh.2.1 hc, hh.2.2⟩) w
  · exact mend_way p x h hc hp hx w
  · exact mend_few p x h hc hp hx hf w
end Go.Proofs.YtokmllopbfmadabDoor.Pk

/- A pack is mended. -/
namespace Go.Proofs.YtokmllopbfmadabDoor.Pk
open Go.RowKit Mem FieldWalks Tab ByTab Parts Ref Top
open Gf (Bytes Fits chosen left_)
open Plans (intsV)

/-- What mend answers of a pack: head, text, all pieces, the bad ones. -/
def MendAns (w w' : World) (D S N : Nat) (str : ByteArray) (ss : List ByteArray) (bad : List Nat) (e : Ending) : Prop :=
  ∃ b vb, w.heap.size ≤ b ∧ e = .returned (.tuple #[.agg #[.int .i64 D, .int .i64 S, .int .i64 N, .string str, .slice (some ⟨b, 0, none⟩) (D + S) (D + S), vb], .int .i64 0]) ∧ Blk w' b 9 (strV ss) ∧ w'.ownsRow w.heap.size 3 1 vb bad.length (intsV bad) ∧ Below w.heap.size w w'
theorem owns_set {w : World} {base size n : Nat} {e t : TypeId} {v : Value} {xs us : List Value} {B : Nat} (h : w.ownsRow base e size v n xs) (hB : Blk w B t us) (ht : e ≠ t) (k : Nat) (u : Value) : (w.setCell ⟨B, k, none⟩ u).ownsRow base e size v n xs := by
  obtain ⟨a1, a2⟩ := h
  refine ⟨a1, ?_⟩
  rcases a2 with a2 | ⟨g, cp, cur, hv, hgb, hh, rr⟩
  · exact Or.inl a2
  · have hb : Blk w g e cur.toList := by unfold Blk; rw [hh]
    have := hb.other (a := ⟨B, k, none⟩) (hb.type_ne hB ht) u
    unfold Blk at this
    exact Or.inr ⟨g, cp, cur, hv, hgb, this, rr⟩
theorem table_kept {w w' : World} (h : Table w) (hb : Below w.heap.size w w') : Table w' := table_to h hb
set_option maxRecDepth 100000 in
set_option maxHeartbeats 2000000 in
theorem mend_ok (hS : SumsOk) (p : ByteArray) (x : Nat) (h : headOk p) (hc : cutOk p) (hp : p.size < 4611686018427387904) (hx : x ≤ 2) (hfew : (openBad p).length ≤ pS p) (ps : List (List Nat))
    (hfit : Fits (pD p) (pL p) (chosen (left_ ((openBad p).map Int.ofNat)) (pD p) (pS p)) (fun q => nums ((openPieces p).getD q ByteArray.empty)) ps) (w : World) (ht : Table w) :
    Calls Tryd.prog 22 #[.string p, .int .i64 x] w fun e w' => MendAns w w' (pD p) (pS p) (pN p) (mkS (ps.flatten.take (pN p))) (texts ps (sums (facs (pD p) (pS p)) ps (pL p))) (openBad p) e := by
  have HH : Hid (∀ W, Calls Tryd.prog 19 #[.string p] W fun e w' => e = .returned (.tuple #[.agg #[.int .i64 (pD p), .int .i64 (pS p), .int .i64 (pN p)], .int .i64 0]) ∧ Below W.heap.size W w') := fun W => (headOf_yes p h hp W).mono fun e w' hh => ⟨hh.1 hc, hh.2.2⟩
  have hD := h.2.2.2.1
  have hN := h.2.2.2.2.1
  have how : okWay (x : Int) = true := okWay_yes _ (by omega)
  obtain ⟨fs, hpk⟩ := isPack_of h hc
  have HBA : Hid (∀ W, Calls Tryd.prog 20 #[.agg #[.int .i64 (pD p), .int .i64 (pS p), .int .i64 (pN p)], .string p, .int .i64 (pS p)] W fun e w' => ∃ v, e = .returned v ∧ W.heap.size ≤ w'.heap.size ∧ w'.ownsRow W.heap.size 3 1 v (openBad p).length (intsV (openBad p)) ∧ Below W.heap.size W w') := fun W => (bad_any p hp h hc (pS p) (by omega) W).mono fun e w' hh => by
    obtain ⟨v, rfl, hv, hb⟩ := hh
    rw [List.take_of_length_le (by omega)] at hv
    exact ⟨v, rfl, hb.size, hv, hb⟩
  have HPI : Hid (∀ W, Calls Tryd.prog 21 #[.agg #[.int .i64 (pD p), .int .i64 (pS p), .int .i64 (pN p)], .string p] W fun e w' => ∃ b, W.heap.size ≤ b ∧ e = .returned (.slice (some ⟨b, 0, none⟩) (openPieces p).length (openPieces p).length) ∧ Blk w' b 9 (strV (openPieces p)) ∧ Below W.heap.size W w') := fun W => pieces_any p hp h hc W
  have HGA : Hid (∀ W pv lv, Table W → StrsAt W pv (openPieces p) → IsC W lv ((openBad p).map Int.ofNat) → Calls Tryd.prog 37 #[.int .i64 (pD p), .int .i64 (pS p), .int .i64 x, .int .i64 (pN p), pv, lv] W fun e w' => ∃ b, W.heap.size ≤ b ∧ e = .returned (.tuple #[.string (mkS (ps.flatten.take (pN p))), .slice (some ⟨b, 0, none⟩) (pD p + pS p) (pD p + pS p)]) ∧ Blk w' b 9 (strV (texts ps (sums (facs (pD p) (pS p)) ps (pL p)))) ∧ Below W.heap.size W w') := fun W pv lv hT hp hl =>
    pGather_any hS (pD p) (pS p) x (pN p) (pL p) (openPieces p) ((openBad p).map Int.ofNat) ps pv lv W hT hp hl (by omega) (by omega) (by omega) hx (by omega) rfl hpk.shape (by simpa using hfew) hfit
  have hbl : (openBad p).length ≤ 6 := by omega
  have HTT : Hid (Table w) := ht
  generalize openPieces p = P at HPI HGA
  have HBL : Hid ((openBad p).length ≤ pS p) := hfew
  generalize openBad p = bad at HBA HGA HBL hbl ⊢
  generalize texts ps (sums (facs (pD p) (pS p)) ps (pL p)) = ss at HGA ⊢
  generalize mkS (ps.flatten.take (pN p)) = str at HGA ⊢
  generalize pD p = D at HH HBA HPI HGA hD ⊢
  generalize pS p = S at HH HBA HPI HGA HBL hD ⊢
  generalize pN p = N at HH HBA HPI HGA hN ⊢
  clear h hc hfew hpk hfit ht
  go_enter Tryd.func22, Tryd.ntmps22
  go_wp2_with fail
  refine Calls.mono (HH.out _) ?_
  rintro e w1 ⟨rfl, hb1⟩
  have R1 : Blk w1 w.heap.size 64 [.int .i64 0, .int .i64 0, .int .i64 0, .string ByteArray.empty, .slice none 0 0, .slice none 0 0] := (Blk.new w #[.int .i64 0, .int .i64 0, .int .i64 0, .string ByteArray.empty, .slice none 0 0, .slice none 0 0] 64).to hb1
  have B1 : Below w.heap.size w w1 := ((Below.refl w.heap.size w).alloc (Nat.le_refl _) (.cells #[.int .i64 0, .int .i64 0, .int .i64 0, .string ByteArray.empty, .slice none 0 0, .slice none 0 0] 64)).trans (hb1.mono (by simp))
  clear hb1
  go_wp2_with fail
  generalize hw2 : w1.alloc _ = w2
  have R2 : Blk w2 w.heap.size 64 [.int .i64 0, .int .i64 0, .int .i64 0, .string ByteArray.empty, .slice none 0 0, .slice none 0 0] := by rw [← hw2]; exact R1.alloc _
  have O2 : Blk w2 w1.heap.size 37 [.int .i64 D, .int .i64 S, .int .i64 N] := by rw [← hw2]; exact Blk.new w1 _ _
  have B2 : Below w.heap.size w w2 := by rw [← hw2]; exact B1.alloc B1.size _
  generalize w1.heap.size = O at O2 ⊢
  have y0 := O2.cell_some (k := 0) rfl
  have y1 := O2.cell_some (k := 1) rfl
  have y2 := O2.cell_some (k := 2) rfl
  have HR : Hid (Blk w2 w.heap.size 64 [.int .i64 0, .int .i64 0, .int .i64 0, .string ByteArray.empty, .slice none 0 0, .slice none 0 0]) := R2
  have HO : Hid (Blk w2 O 37 [.int .i64 D, .int .i64 S, .int .i64 N]) := O2
  have HB : Hid (Below w.heap.size w w2) := B2
  clear R2 B2 hw2 R1 B1 O2
  refine (isWay_any _ _).mono ?_
  rintro e w' ⟨rfl, hw⟩
  obtain rfl : w2 = w' := hw.symm
  go_wp2_with fail
  refine Calls.mono (HBA.out _) ?_
  rintro e w3 ⟨v, rfl, _, ho3, hb3⟩
  obtain ⟨ao, c, rfl⟩ := owns_slice ho3
  have R3 := HR.out.to hb3
  have O3 := HO.out.to hb3
  have B3 := HB.out.trans (hb3.mono HB.out.size)
  have HOB : Hid (w3.ownsRow w.heap.size 3 1 (.slice ao bad.length c) bad.length (intsV bad)) := owns_less ho3 HB.out.size
  have HT3 : Hid (Table w3) := table_to HTT.out B3
  clear y0 y1 y2
  have y0 := O3.cell_some (k := 0) rfl
  have y1 := O3.cell_some (k := 1) rfl
  have y2 := O3.cell_some (k := 2) rfl
  have HR3 : Hid (Blk w3 w.heap.size 64 [.int .i64 0, .int .i64 0, .int .i64 0, .string ByteArray.empty, .slice none 0 0, .slice none 0 0]) := R3
  have HO3 : Hid (Blk w3 O 37 [.int .i64 D, .int .i64 S, .int .i64 N]) := O3
  have HB3 : Hid (Below w.heap.size w w3) := B3
  have hle := HBL.out
  have hOlt : O < w3.heap.size := O3.lt
  clear R3 O3 B3 HR HB HO hb3 ho3 HBA HTT HH
  go_wp2_with fail
  have hOlt' : O < w3.drew.heap.size := hOlt
  have z0 := HO3.out.drew.cell_some (k := 0) rfl
  have z1 := HO3.out.drew.cell_some (k := 1) rfl
  have z2 := HO3.out.drew.cell_some (k := 2) rfl
  clear y0 y1 y2
  go_region_held3 (fun wx => wx.cell? ⟨O, 0, none⟩ = some (.int .i64 (D : Int)) ∧ wx.cell? ⟨O, 1, none⟩ = some (.int .i64 (S : Int)) ∧ wx.cell? ⟨O, 2, none⟩ = some (.int .i64 (N : Int))) (go_keep) (first | (go_at_call 21; refine Calls.mono (HPI.out _) ?_; rintro e w4 ⟨pb, hpb, rfl, hpblk, hb4⟩; have o0 := (hb4.cell (p := ⟨O, 0, none⟩) hOlt').trans z0; have o1 := (hb4.cell (p := ⟨O, 1, none⟩) hOlt').trans z1; have o2 := (hb4.cell (p := ⟨O, 2, none⟩) hOlt').trans z2; have hOlt4 : O < w4.heap.size := Nat.lt_of_lt_of_le hOlt' hb4.size) | (go_at_call 37; refine Calls.mono (HGA.out _ _ _ (table_to (table_to HT3.out ((Below.refl _ _).drew)) hb4) (StrsAt.of_blk hpblk _ _ rfl) (KeepW.IsC.of_owns (ownsRow_to HOB.out.drew hb4))) ?_; rintro e w5 ⟨gb, hgb, rfl, hgblk, hb5⟩; have u0 := (hb5.cell (p := ⟨O, 0, none⟩) hOlt4).trans o0; have u1 := (hb5.cell (p := ⟨O, 1, none⟩) hOlt4).trans o1; have u2 := (hb5.cell (p := ⟨O, 2, none⟩) hOlt4).trans o2))
  have B45 : Below w3.heap.size w3 w5 := ((Below.refl w3.heap.size w3).drew.trans hb4).trans (hb5.mono hb4.size)
  have R5 := HR3.out.to B45
  have B5 := HB3.out.trans (B45.mono HB3.out.size)
  have q0 := R5.cell_some (k := 0) rfl
  have q1 := R5.cell_some (k := 1) rfl
  have q2 := R5.cell_some (k := 2) rfl
  have q3 := R5.cell_some (k := 3) rfl
  have q4 := R5.cell_some (k := 4) rfl
  have q5 := R5.cell_some (k := 5) rfl
  have f0 := R5.free 0
  have f1 := R5.free 1
  have f2 := R5.free 2
  have f3 := R5.free 3
  have f4 := R5.free 4
  have f5 := R5.free 5
  have HR5 : Hid (Blk w5 w.heap.size 64 [.int .i64 0, .int .i64 0, .int .i64 0, .string ByteArray.empty, .slice none 0 0, .slice none 0 0]) := R5
  have HB5 : Hid (Below w.heap.size w w5) := B5
  have HOB5 : Hid (w5.ownsRow w.heap.size 3 1 (.slice ao bad.length c) bad.length (intsV bad)) := ownsRow_to HOB.out B45
  have HG5 : Hid (Blk w5 gb 9 (strV ss)) := hgblk
  have hgb2 : w.heap.size ≤ gb := Nat.le_trans (Nat.le_trans HB3.out.size hb4.size) hgb
  clear R5 B5 B45 hb4 hb5 hgblk hpblk z0 z1 z2 o0 o1 o2 HO3
  go_wp2_with fail
  have a0 := HR5.out
  have a1 := a0.set 0 (.int .i64 D)
  have a2 := a1.set 1 (.int .i64 S)
  have a3 := a2.set 2 (.int .i64 N)
  have a4 := a3.set 3 (.string str)
  have a5 := a4.set 4 (.slice (some ⟨gb, 0, none⟩) (D + S) (D + S))
  have a6 := a5.set 5 (.slice ao bad.length c)
  have hne : gb ≠ w.heap.size := HG5.out.type_ne HR5.out (by decide)
  refine bodyPost_ret (v := .tuple #[.agg #[.int .i64 D, .int .i64 S, .int .i64 N, .string str, .slice (some ⟨gb, 0, none⟩) (D + S) (D + S), .slice ao bad.length c], .int .i64 0]) (results_row_tmp (p := 4) (u := 5) (ty := 64) (by kernel_rfl) _ _ w.heap.size 64 _ (0, 0) _ rfl a6 Tryd.underlying64 rfl infoMended _ rfl) rfl ?_
  exact ⟨gb, _, hgb2, rfl, ((((((HG5.out.other (a := ⟨w.heap.size, 0, none⟩) hne (.int .i64 D)).other (a := ⟨w.heap.size, 1, none⟩) hne (.int .i64 S)).other (a := ⟨w.heap.size, 2, none⟩) hne (.int .i64 N)).other (a := ⟨w.heap.size, 3, none⟩) hne (.string str)).other (a := ⟨w.heap.size, 4, none⟩) hne (.slice (some ⟨gb, 0, none⟩) (D + S) (D + S))).other (a := ⟨w.heap.size, 5, none⟩) hne (.slice ao bad.length c)), (owns_set (owns_set (owns_set (owns_set (owns_set (owns_set HOB5.out a0 (by decide) 0 (.int .i64 D)) a1 (by decide) 1 (.int .i64 S)) a2 (by decide) 2 (.int .i64 N)) a3 (by decide) 3 (.string str)) a4 (by decide) 4 (.slice (some ⟨gb, 0, none⟩) (D + S) (D + S))) a5 (by decide) 5 (.slice ao bad.length c)), ((((((HB5.out.setCell (by exact Nat.le_refl _) _).setCell (by exact Nat.le_refl _) _).setCell (by exact Nat.le_refl _) _).setCell (by exact Nat.le_refl _) _).setCell (by exact Nat.le_refl _) _).setCell (by exact Nat.le_refl _) _)⟩
end Go.Proofs.YtokmllopbfmadabDoor.Pk
