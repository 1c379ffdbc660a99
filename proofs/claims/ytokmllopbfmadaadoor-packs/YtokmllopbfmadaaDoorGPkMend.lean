import Derived.Test.YtokmllopbfmadaaDoorGPkHead2
import Derived.Test.YtokmllopbfmadaaDoorGPkBad
import Derived.Test.YtokmllopbfmadaaDoorGWGather
import Derived.Test.YtokmllopbfmadaaDoorGKGone
import Derived.Test.YtokmllopbfmadaaDoorGKRest2
/- A pack is mended: its errors. -/
namespace Go.Proofs.YtokmllopbfmadaaDoor.Pk
open Go.RowKit Mem FieldWalks Tab ByTab Parts Ref Top
open Gf (Bytes Fits chosen left_)
open Plans (intsV)

/-- The zero value of what mend answers. -/
def noMended : Value := .agg #[.int .i64 0, .int .i64 0, .int .i64 0, .string ByteArray.empty, .slice none 0 0, .slice none 0 0]
/-- Why a pack is not mended. -/
def MendNo (p : ByteArray) (x : Int) (k : Nat) : Prop :=
  (k = 9 ∧ ¬ headOk p) ∨ (k = 10 ∧ headOk p ∧ ¬ cutOk p) ∨ (k = 4 ∧ headOk p ∧ cutOk p ∧ okWay x = false) ∨ (k = 7 ∧ headOk p ∧ cutOk p ∧ okWay x = true ∧ pS p < (openBad p).length)
/-- It is mended. -/
def MendYes (p : ByteArray) (x : Int) : Prop := headOk p ∧ cutOk p ∧ okWay x = true ∧ (openBad p).length ≤ pS p
theorem mend_cases (p : ByteArray) (x : Int) : MendYes p x ∨ ∃ k, 1 ≤ k ∧ k ≤ 10 ∧ MendNo p x k := by
  by_cases h1 : headOk p
  · by_cases h2 : cutOk p
    · cases h3 : okWay x
      · exact .inr ⟨4, by omega, by omega, .inr (.inr (.inl ⟨rfl, h1, h2, h3⟩))⟩
      · by_cases h4 : (openBad p).length ≤ pS p
        · exact .inl ⟨h1, h2, h3, h4⟩
        · exact .inr ⟨7, by omega, by omega, .inr (.inr (.inr ⟨rfl, h1, h2, h3, by omega⟩))⟩
    · exact .inr ⟨10, by omega, by omega, .inr (.inl ⟨rfl, h1, h2⟩)⟩
  · exact .inr ⟨9, by omega, by omega, .inl ⟨rfl, h1⟩⟩
end Go.Proofs.YtokmllopbfmadaaDoor.Pk

/- A pack is mended. -/
namespace Go.Proofs.YtokmllopbfmadaaDoor.Pk
open Go.RowKit Mem FieldWalks Tab ByTab Parts Ref Top
open Gf (Bytes Fits chosen left_)
open Plans (intsV)

/-- What mend answers of a pack: head, text, all pieces, the bad ones. -/
def MendAns (w w' : World) (D S N : Nat) (str : ByteArray) (ss : List ByteArray) (bad : List Nat) (e : Ending) : Prop :=
  ∃ b vb, w.heap.size ≤ b ∧ e = .returned (.tuple #[.agg #[.int .i64 D, .int .i64 S, .int .i64 N, .string str, .slice (some ⟨b, 0, none⟩) (D + S) (D + S), vb], .int .i64 0]) ∧ Blk w' b 9 (strV ss) ∧ w'.ownsRow w.heap.size 3 1 vb bad.length (intsV bad) ∧ Below w.heap.size w w'
theorem owns_set {w : World} {base size n : Nat} {e t : TypeId} {v : Value} {xs us : List Value} {B : Nat} (h : w.ownsRow base e size v n xs) (hB : Blk w B t us) (ht : e ≠ t) (k : Nat) (u : Value) : (w.setCell ⟨B, k, none⟩ u).ownsRow base e size v n xs := by
  obtain ⟨a1, a2⟩ := h
  refine ⟨a1, ?_⟩
  rcases a2 with a2 | ⟨g, cp, cur, hv, hgb, hh, rr⟩
  · exact Or.inl a2
  · have hb : Blk w g e cur.toList := by unfold Blk; rw [hh]
    have := hb.other (a := ⟨B, k, none⟩) (hb.type_ne hB ht) u
    unfold Blk at this
    exact Or.inr ⟨g, cp, cur, hv, hgb, this, rr⟩
theorem table_kept {w w' : World} (h : Table w) (hb : Below w.heap.size w w') : Table w' := table_to h hb
end Go.Proofs.YtokmllopbfmadaaDoor.Pk

/- Open of the program. -/
namespace Go.Proofs.YtokmllopbfmadaaDoor.Pk
open Go.RowKit Mem FieldWalks Tab ByTab Parts Ref
open Gf (Bytes)
open Plans (intsV)

set_option maxRecDepth 100000 in
set_option maxHeartbeats 1000000 in
theorem wOpen_err (p : ByteArray) (k : Nat) (hk : 1 ≤ k) (hk2 : k ≤ 100) (hh : ∀ W, Calls Tryd.prog 103 #[.string p] W fun e w' => e = .returned (.tuple #[headV 0 0 0, .int .i64 k]) ∧ Below W.heap.size W w') (w : World) :
    Calls Tryd.prog 75 #[.string p] w fun e w' => e = .returned (.tuple #[headV 0 0 0, .slice none 0 0, .slice none 0 0, .int .i64 k]) ∧ Below w.heap.size w w' := by
  have HH : Hid (∀ W, Calls Tryd.prog 103 #[.string p] W fun e w' => e = .returned (.tuple #[.agg #[.int .i64 0, .int .i64 0, .int .i64 0], .int .i64 k]) ∧ Below W.heap.size W w') := hh
  have e1 : ((k : Int) != 0) = true := by simp; omega
  have e2 : ((k : Int) == 0) = false := by simp; omega
  clear hh
  go_enter Tryd.func75, Tryd.ntmps75
  go_wp2_with fail
  refine Calls.mono (HH.out _) ?_
  rintro e w1 ⟨rfl, hb1⟩
  have R1 : Blk w1 w.heap.size 110 [.int .i64 0, .int .i64 0, .int .i64 0] := (Blk.new w #[.int .i64 0, .int .i64 0, .int .i64 0] 110).to hb1
  have B1 : Below w.heap.size w w1 := ((Below.refl w.heap.size w).alloc (Nat.le_refl _) (.cells #[.int .i64 0, .int .i64 0, .int .i64 0] 110)).trans (hb1.mono (by simp))
  clear hb1
  have R2 := R1.alloc (.cells #[.int .i64 0, .int .i64 0, .int .i64 0] 110)
  have B2 := B1.alloc B1.size (.cells #[.int .i64 0, .int .i64 0, .int .i64 0] 110)
  have q0 := R2.cell_some (k := 0) rfl
  have q1 := R2.cell_some (k := 1) rfl
  have q2 := R2.cell_some (k := 2) rfl
  have f0 := R2.free 0
  have f1 := R2.free 1
  have f2 := R2.free 2
  have HR : Hid (Blk (w1.alloc (.cells #[.int .i64 0, .int .i64 0, .int .i64 0] 110)) w.heap.size 110 [.int .i64 0, .int .i64 0, .int .i64 0]) := R2
  have HB : Hid (Below w.heap.size w (w1.alloc (.cells #[.int .i64 0, .int .i64 0, .int .i64 0] 110))) := B2
  clear R1 B1 R2 B2
  go_wp2
  have hr := (((HR.out.set 0 (.int .i64 0)).set 1 (.int .i64 0)).set 2 (.int .i64 0))
  refine bodyPost_ret (v := .tuple #[headV 0 0 0, .slice none 0 0, .slice none 0 0, .int .i64 k]) (results_row_tmp3 (p := 2) (u := 3) (u2 := 4) (u3 := 5) (ty := 110) (by kernel_rfl) _ _ w.heap.size 110 _ (0, 0) _ rfl hr Tryd.underlying110 rfl infoHead _ _ _ rfl rfl rfl) rfl ⟨rfl, ?_⟩
  exact (((HB.out.setCell (by exact Nat.le_refl _) _).setCell (by exact Nat.le_refl _) _).setCell (by exact Nat.le_refl _) _)
theorem wOpen_no (p : ByteArray) (k : Nat) (hp : p.size < 4611686018427387904) (h : (k = 9 ∧ ¬ headOk p) ∨ (k = 10 ∧ headOk p ∧ ¬ cutOk p)) (w : World) :
    Calls Tryd.prog 75 #[.string p] w fun e w' => e = .returned (.tuple #[headV 0 0 0, .slice none 0 0, .slice none 0 0, .int .i64 k]) ∧ Below w.heap.size w w' := by
  rcases h with ⟨rfl, h⟩ | ⟨rfl, h, hc⟩
  · exact wOpen_err p 9 (by omega) (by omega) (fun W => headOf_no p h hp W) w
  · exact wOpen_err p 10 (by omega) (by omega) (fun W => (headOf_yes p h hp W).mono fun e w' hh => ⟨hh.2.1 hc, hh.2.2⟩) w
set_option maxRecDepth 100000 in
set_option maxHeartbeats 2000000 in
theorem wOpen_ok (p : ByteArray) (hp : p.size < 4611686018427387904) (h : headOk p) (hc : cutOk p) (w : World) :
    Calls Tryd.prog 75 #[.string p] w fun e w' => ∃ b vb, w.heap.size ≤ b ∧ e = .returned (.tuple #[headV (pD p) (pS p) (pN p), .slice (some ⟨b, 0, none⟩) (openPieces p).length (openPieces p).length, vb, .int .i64 0]) ∧ Blk w' b 9 (strV (openPieces p)) ∧ w'.ownsRow w.heap.size 3 1 vb (openBad p).length (intsV (openBad p)) ∧ Below w.heap.size w w' := by
  have HH : Hid (∀ W, Calls Tryd.prog 103 #[.string p] W fun e w' => e = .returned (.tuple #[.agg #[.int .i64 (pD p), .int .i64 (pS p), .int .i64 (pN p)], .int .i64 0]) ∧ Below W.heap.size W w') := fun W => (headOf_yes p h hp W).mono fun e w' hh => ⟨hh.1 hc, hh.2.2⟩
  have hD := h.2.2.2.1
  have hbl : (openBad p).length ≤ pD p + pS p := by
    unfold openBad badTo
    have := List.length_filter_le (badAt p) (List.range (pD p + pS p))
    rwa [List.length_range] at this
  have HBA : Hid (∀ W, Calls Tryd.prog 104 #[.agg #[.int .i64 (pD p), .int .i64 (pS p), .int .i64 (pN p)], .string p, .int .i64 ((pD p : Int) + (pS p : Int))] W fun e w' => ∃ v, e = .returned v ∧ w'.ownsRow W.heap.size 3 1 v (openBad p).length (intsV (openBad p)) ∧ Below W.heap.size W w') := fun W => by
    have := bad_any p hp h hc (pD p + pS p) (by omega) W
    rw [List.take_of_length_le (by omega), Int.natCast_add] at this
    exact this
  have HPI : Hid (∀ W, Calls Tryd.prog 105 #[.agg #[.int .i64 (pD p), .int .i64 (pS p), .int .i64 (pN p)], .string p] W fun e w' => ∃ b, W.heap.size ≤ b ∧ e = .returned (.slice (some ⟨b, 0, none⟩) (openPieces p).length (openPieces p).length) ∧ Blk w' b 9 (strV (openPieces p)) ∧ Below W.heap.size W w') := fun W => pieces_any p hp h hc W
  generalize openPieces p = P at HPI ⊢
  generalize openBad p = bad at HBA ⊢
  generalize pD p = D at HH HBA HPI hD ⊢
  generalize pS p = S at HH HBA HPI hD ⊢
  generalize pN p = N at HH HBA HPI ⊢
  clear h hc hbl
  go_enter Tryd.func75, Tryd.ntmps75
  go_wp2_with fail
  refine Calls.mono (HH.out _) ?_
  rintro e w1 ⟨rfl, hb1⟩
  have R1 : Blk w1 w.heap.size 110 [.int .i64 0, .int .i64 0, .int .i64 0] := (Blk.new w #[.int .i64 0, .int .i64 0, .int .i64 0] 110).to hb1
  have B1 : Below w.heap.size w w1 := ((Below.refl w.heap.size w).alloc (Nat.le_refl _) (.cells #[.int .i64 0, .int .i64 0, .int .i64 0] 110)).trans (hb1.mono (by simp))
  clear hb1
  have R2 := R1.alloc (.cells #[.int .i64 D, .int .i64 S, .int .i64 N] 110)
  have B2 := B1.alloc B1.size (.cells #[.int .i64 D, .int .i64 S, .int .i64 N] 110)
  have O2 := Blk.new w1 #[.int .i64 D, .int .i64 S, .int .i64 N] 110
  have hRO : w.heap.size ≠ w1.heap.size := by have := R1.lt; omega
  have HW2 : Hid (∃ W2, W2 = w1.alloc (.cells #[.int .i64 D, .int .i64 S, .int .i64 N] 110)) := ⟨_, rfl⟩
  clear R1 B1
  go_wp2_with fail
  generalize w1.alloc (.cells #[.int .i64 D, .int .i64 S, .int .i64 N] 110) = w2 at R2 B2 O2 ⊢
  generalize w1.heap.size = O at O2 hRO ⊢
  clear HW2
  refine Calls.mono (HBA.out _) ?_
  rintro e w3 ⟨v, rfl, ho3, hb3⟩
  obtain ⟨ao, c, rfl⟩ := owns_slice ho3
  have R3 := R2.to hb3
  have O3 := O2.to hb3
  have B3 := B2.trans (hb3.mono B2.size)
  have HOB : Hid (w3.ownsRow w.heap.size 3 1 (.slice ao bad.length c) bad.length (intsV bad)) := owns_less ho3 B2.size
  obtain ⟨R, hR⟩ : ∃ R, R = w.heap.size := ⟨_, rfl⟩
  have HRE : Hid (R = w.heap.size) := hR
  rw [← hR] at R3 B3 hRO ⊢
  have HR3 : Hid (Blk w3 R 110 [.int .i64 0, .int .i64 0, .int .i64 0]) := R3
  have HO3 : Hid (Blk w3 O 110 [.int .i64 D, .int .i64 S, .int .i64 N]) := O3
  have HB3 : Hid (Below R w w3) := B3
  have hRlt : R < w3.heap.size := R3.lt
  have hOlt : O < w3.heap.size := O3.lt
  have hOR : O ≠ R := fun e => hRO e.symm
  have z0 := O3.drew.cell_some (k := 0) rfl
  have z1 := O3.drew.cell_some (k := 1) rfl
  have z2 := O3.drew.cell_some (k := 2) rfl
  clear R2 B2 O2 R3 O3 B3 ho3 hb3 hR HBA HH
  go_wp2_with fail
  go_region_held3 (fun wx => wx.cell? ⟨O, 0, none⟩ = some (.int .i64 (D : Int)) ∧ wx.cell? ⟨O, 1, none⟩ = some (.int .i64 (S : Int)) ∧ wx.cell? ⟨O, 2, none⟩ = some (.int .i64 (N : Int))) (go_keep) (first | (go_at_call 105; refine Calls.mono (HPI.out _) ?_; rintro e w4 ⟨pb, hpb, rfl, hpblk, hb4⟩; have o0 := (hb4.cell (p := ⟨O, 0, none⟩) hOlt).trans z0; have o1 := (hb4.cell (p := ⟨O, 1, none⟩) hOlt).trans z1; have o2 := (hb4.cell (p := ⟨O, 2, none⟩) hOlt).trans z2; have R4 := HR3.out.drew.to hb4; have q0 := R4.cell_some (k := 0) rfl; have q1 := R4.cell_some (k := 1) rfl; have q2 := R4.cell_some (k := 2) rfl; have f0 := R4.free 0; have f1 := R4.free 1; have f2 := R4.free 2))
  have B34 : Below w3.heap.size w3 w4 := (Below.refl w3.heap.size w3).drew.trans hb4
  have HB4 : Hid (Below R w w4) := HB3.out.trans (B34.mono (Nat.le_of_lt hRlt))
  have HO4 : Hid (w4.ownsRow w.heap.size 3 1 (.slice ao bad.length c) bad.length (intsV bad)) := ownsRow_to HOB.out B34
  have HP4 : Hid (Blk w4 pb 9 (strV P)) := hpblk
  have HR4 : Hid (Blk w4 R 110 [.int .i64 0, .int .i64 0, .int .i64 0]) := R4
  have hpb2 : R ≤ pb := Nat.le_trans (Nat.le_of_lt hRlt) hpb
  clear B34 hb4 hpblk R4
  go_wp2_with fail
  have a0 := HR4.out
  have a1 := a0.set 0 (.int .i64 D)
  have a2 := a1.set 1 (.int .i64 S)
  have a3 := a2.set 2 (.int .i64 N)
  have hne : pb ≠ R := HP4.out.type_ne HR4.out (by decide)
  refine bodyPost_ret (v := .tuple #[headV D S N, .slice (some ⟨pb, 0, none⟩) P.length P.length, .slice ao bad.length c, .int .i64 0]) (results_row_tmp3 (p := 2) (u := 3) (u2 := 4) (u3 := 5) (ty := 110) (by kernel_rfl) _ _ R 110 _ (0, 0) _ rfl a3 Tryd.underlying110 rfl infoHead _ _ _ rfl rfl rfl) rfl ?_
  exact ⟨pb, _, by rw [← HRE.out]; exact hpb2, rfl, (((HP4.out.other (a := ⟨R, 0, none⟩) hne (.int .i64 D)).other (a := ⟨R, 1, none⟩) hne (.int .i64 S)).other (a := ⟨R, 2, none⟩) hne (.int .i64 N)), (owns_set (owns_set (owns_set HO4.out a0 (by decide) 0 (.int .i64 D)) a1 (by decide) 1 (.int .i64 S)) a2 (by decide) 2 (.int .i64 N)), by rw [← HRE.out]; exact (((HB4.out.setCell (by exact Nat.le_refl _) _).setCell (by exact Nat.le_refl _) _).setCell (by exact Nat.le_refl _) _)⟩
end Go.Proofs.YtokmllopbfmadaaDoor.Pk
