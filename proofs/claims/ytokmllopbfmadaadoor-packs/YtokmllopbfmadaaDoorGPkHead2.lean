import Derived.Test.YtokmllopbfmadaaDoorGPkHead
import Derived.Test.YtokmllopbfmadaaDoorGRefPacked
import Derived.Test.YtokmllopbfmadaaDoorGLess
/- The head that a pack begins with, if it may be and the pack is as long as it asks for. -/
namespace Go.Proofs.YtokmllopbfmadaaDoor.Pk
open Go.RowKit Mem FieldWalks Tab ByTab Parts Ref
open Gf (Bytes)

set_option maxRecDepth 100000 in
set_option maxHeartbeats 1000000 in
theorem headOf_no (p : ByteArray) (h : ¬ headOk p) (hp : p.size < 4611686018427387904) (w : World) :
    Calls Tryd.prog 103 #[.string p] w fun e w' => e = .returned (.tuple #[headV 0 0 0, .int .i64 9]) ∧ Below w.heap.size w w' := by
  by_cases hpre : preOk p
  · have HH : Hid (∀ W, Calls Tryd.prog 125 #[.string p] W fun e w' => e = .returned (.tuple #[.agg #[.int .i64 (pD p), .int .i64 (pS p), .int .i64 (pN p)], .bool true]) ∧ Below W.heap.size W w') := fun W => HeadOf_yes p hpre hp W
    have hN : ¬ ((1 ≤ pD p ∧ pD p ≤ 10 ∧ pS p ≤ 6) ∧ pN p ≤ 400) := fun hh => h ⟨hpre.1, hpre.2.1, hpre.2.2.1, hh.1, hh.2, hpre.2.2.2⟩
    generalize pD p = D at HH hN
    generalize pS p = S at HH hN
    generalize pN p = N at HH hN
    clear h hpre
    go_enter Tryd.func103, Tryd.ntmps103
    go_wp2_with fail
    refine Calls.mono (HH.out _) ?_
    rintro e w1 ⟨rfl, hb1⟩
    have R1 : Blk w1 w.heap.size 110 [.int .i64 0, .int .i64 0, .int .i64 0] := (Blk.new w #[.int .i64 0, .int .i64 0, .int .i64 0] 110).to hb1
    have B1 : Below w.heap.size w w1 := ((Below.refl w.heap.size w).alloc (Nat.le_refl _) (.cells #[.int .i64 0, .int .i64 0, .int .i64 0] 110)).trans (hb1.mono (by simp))
    clear hb1
    cases hc : okCounts (D : Int) (S : Int)
    · go_wp2_with fail
      generalize hw2 : w1.alloc _ = w2
      have R2 : Blk w2 w.heap.size 110 [.int .i64 0, .int .i64 0, .int .i64 0] := by rw [← hw2]; exact R1.alloc _
      have O2 : Blk w2 w1.heap.size 110 [.int .i64 D, .int .i64 S, .int .i64 N] := by rw [← hw2]; exact Blk.new w1 _ _
      have B2 : Below w.heap.size w w2 := by rw [← hw2]; exact B1.alloc B1.size _
      generalize w1.heap.size = O at O2 ⊢
      have q0 := R2.cell_some (k := 0) rfl
      have q1 := R2.cell_some (k := 1) rfl
      have q2 := R2.cell_some (k := 2) rfl
      have f0 := R2.free 0
      have f1 := R2.free 1
      have f2 := R2.free 2
      have y0 := O2.cell_some (k := 0) rfl
      have y1 := O2.cell_some (k := 1) rfl
      have y2 := O2.cell_some (k := 2) rfl
      have HR : Hid (Blk w2 w.heap.size 110 [.int .i64 0, .int .i64 0, .int .i64 0]) := R2
      have HB : Hid (Below w.heap.size w w2) := B2
      clear R2 B2 hw2 R1 B1
      refine (areCounts_any _ _ _).mono ?_
      rintro e w' ⟨rfl, hw⟩
      obtain rfl : w2 = w' := hw.symm
      go_wp2_with fail
      have hr := ((HR.out.set 0 (.int .i64 0)).set 1 (.int .i64 0)).set 2 (.int .i64 0)
      refine bodyPost_ret (v := .tuple #[headV 0 0 0, .int .i64 9]) (results_row_tmp (p := 2) (u := 3) (ty := 110) (by kernel_rfl) _ _ w.heap.size 110 _ (0, 0) _ rfl hr Tryd.underlying110 rfl infoHead _ rfl) rfl ⟨rfl, ?_⟩
      exact ((HB.out.setCell (by exact Nat.le_refl _) _).setCell (by exact Nat.le_refl _) _).setCell (by exact Nat.le_refl _) _
    · have hsz : okSize (N : Int) = false := by
        have hc' := of_decide_eq_true hc
        exact okSize_no _ (by omega)
      go_wp2_with fail
      generalize hw2 : w1.alloc _ = w2
      have R2 : Blk w2 w.heap.size 110 [.int .i64 0, .int .i64 0, .int .i64 0] := by rw [← hw2]; exact R1.alloc _
      have O2 : Blk w2 w1.heap.size 110 [.int .i64 D, .int .i64 S, .int .i64 N] := by rw [← hw2]; exact Blk.new w1 _ _
      have B2 : Below w.heap.size w w2 := by rw [← hw2]; exact B1.alloc B1.size _
      generalize w1.heap.size = O at O2 ⊢
      have q0 := R2.cell_some (k := 0) rfl
      have q1 := R2.cell_some (k := 1) rfl
      have q2 := R2.cell_some (k := 2) rfl
      have f0 := R2.free 0
      have f1 := R2.free 1
      have f2 := R2.free 2
      have y0 := O2.cell_some (k := 0) rfl
      have y1 := O2.cell_some (k := 1) rfl
      have y2 := O2.cell_some (k := 2) rfl
      have HR : Hid (Blk w2 w.heap.size 110 [.int .i64 0, .int .i64 0, .int .i64 0]) := R2
      have HB : Hid (Below w.heap.size w w2) := B2
      clear R2 B2 hw2 R1 B1
      refine (areCounts_any _ _ _).mono ?_
      rintro e w' ⟨rfl, hw⟩
      obtain rfl : w2 = w' := hw.symm
      go_wp2_with fail
      refine (isSize_any _ _).mono ?_
      rintro e w' ⟨rfl, hw⟩
      obtain rfl : w2 = w' := hw.symm
      go_wp2_with fail
      have hr := ((HR.out.set 0 (.int .i64 0)).set 1 (.int .i64 0)).set 2 (.int .i64 0)
      refine bodyPost_ret (v := .tuple #[headV 0 0 0, .int .i64 9]) (results_row_tmp (p := 2) (u := 3) (ty := 110) (by kernel_rfl) _ _ w.heap.size 110 _ (0, 0) _ rfl hr Tryd.underlying110 rfl infoHead _ rfl) rfl ⟨rfl, ?_⟩
      exact ((HB.out.setCell (by exact Nat.le_refl _) _).setCell (by exact Nat.le_refl _) _).setCell (by exact Nat.le_refl _) _
  · have HH : Hid (∀ W, Calls Tryd.prog 125 #[.string p] W fun e w' => e = .returned (.tuple #[.agg #[.int .i64 0, .int .i64 0, .int .i64 0], .bool false]) ∧ Below W.heap.size W w') := fun W => HeadOf_no p hpre hp W
    clear h hpre
    go_enter Tryd.func103, Tryd.ntmps103
    go_wp2_with fail
    refine Calls.mono (HH.out _) ?_
    rintro e w1 ⟨rfl, hb1⟩
    have R1 : Blk w1 w.heap.size 110 [.int .i64 0, .int .i64 0, .int .i64 0] := (Blk.new w #[.int .i64 0, .int .i64 0, .int .i64 0] 110).to hb1
    have B1 : Below w.heap.size w w1 := ((Below.refl w.heap.size w).alloc (Nat.le_refl _) (.cells #[.int .i64 0, .int .i64 0, .int .i64 0] 110)).trans (hb1.mono (by simp))
    clear hb1
    have hB := B1.size
    have R2 := R1.alloc (.cells #[.int .i64 0, .int .i64 0, .int .i64 0] 110)
    have B2 := B1.alloc B1.size (.cells #[.int .i64 0, .int .i64 0, .int .i64 0] 110)
    have q0 := R2.cell_some (k := 0) rfl
    have q1 := R2.cell_some (k := 1) rfl
    have q2 := R2.cell_some (k := 2) rfl
    have f0 := R2.free 0
    have f1 := R2.free 1
    have f2 := R2.free 2
    have HR : Hid (Blk (w1.alloc (.cells #[.int .i64 0, .int .i64 0, .int .i64 0] 110)) w.heap.size 110 [.int .i64 0, .int .i64 0, .int .i64 0]) := R2
    have HB : Hid (Below w.heap.size w (w1.alloc (.cells #[.int .i64 0, .int .i64 0, .int .i64 0] 110))) := B2
    clear R1 B1 R2 B2
    go_wp2
    have hr := ((HR.out.set 0 (.int .i64 0)).set 1 (.int .i64 0)).set 2 (.int .i64 0)
    refine bodyPost_ret (v := .tuple #[headV 0 0 0, .int .i64 9]) (results_row_tmp (p := 2) (u := 3) (ty := 110) (by kernel_rfl) _ _ w.heap.size 110 _ (0, 0) _ rfl hr Tryd.underlying110 rfl infoHead _ rfl) rfl ⟨rfl, ?_⟩
    exact ((HB.out.setCell (by exact Nat.le_refl _) _).setCell (by exact Nat.le_refl _) _).setCell (by exact Nat.le_refl _) _
set_option maxRecDepth 100000 in
set_option maxHeartbeats 1000000 in
theorem headOf_yes (p : ByteArray) (h : headOk p) (hp : p.size < 4611686018427387904) (w : World) :
    Calls Tryd.prog 103 #[.string p] w fun e w' => (cutOk p → e = .returned (.tuple #[headV (pD p) (pS p) (pN p), .int .i64 0])) ∧ (¬ cutOk p → e = .returned (.tuple #[headV 0 0 0, .int .i64 10])) ∧ Below w.heap.size w w' := by
  have hpre : preOk p := ⟨h.1, h.2.1, h.2.2.1, h.2.2.2.2.2⟩
  have HH : Hid (∀ W, Calls Tryd.prog 125 #[.string p] W fun e w' => e = .returned (.tuple #[.agg #[.int .i64 (pD p), .int .i64 (pS p), .int .i64 (pN p)], .bool true]) ∧ Below W.heap.size W w') := fun W => HeadOf_yes p hpre hp W
  have hD := h.2.2.2.1
  have hN := h.2.2.2.2.1
  obtain ⟨M, hM⟩ : ∃ M, M = 10 + (pD p + pS p) * (pL p + 5) := ⟨_, rfl⟩
  have HC : Hid (cutOk p ↔ p.size = M) := by show _ ↔ _; unfold cutOk; rw [hM]
  have HS : Hid (∀ W, Calls Tryd.prog 126 #[.agg #[.int .i64 (pD p), .int .i64 (pS p), .int .i64 (pN p)]] W fun e w' => e = .returned (.int .i64 (M : Int)) ∧ Below W.heap.size W w') := fun W => by rw [hM]; exact size_any (pD p) (pS p) (pN p) (pL p) (by omega) (by omega) (by omega) (by omega) rfl W
  have hMs : M ≤ 10 + 16 * 1105 := by
    rw [hM]
    have h1 : pL p ≤ 409 := by unfold pL; exact Nat.le_trans (Nat.div_le_self _ _) (by omega)
    have : (pD p + pS p) * (pL p + 5) ≤ 16 * 1105 := Nat.mul_le_mul (by omega) (by omega)
    omega
  generalize cutOk p = C at HC ⊢
  generalize pD p = D at HH HS hD ⊢
  generalize pS p = S at HH HS hD ⊢
  generalize pN p = N at HH HS hN ⊢
  have hc : okCounts (D : Int) (S : Int) = true := okCounts_yes _ _ (by omega)
  have hsz : okSize (N : Int) = true := okSize_yes _ (by omega)
  clear h hpre hM
  go_enter Tryd.func103, Tryd.ntmps103
  go_wp2_with fail
  refine Calls.mono (HH.out _) ?_
  rintro e w1 ⟨rfl, hb1⟩
  have R1 : Blk w1 w.heap.size 110 [.int .i64 0, .int .i64 0, .int .i64 0] := (Blk.new w #[.int .i64 0, .int .i64 0, .int .i64 0] 110).to hb1
  have B1 : Below w.heap.size w w1 := ((Below.refl w.heap.size w).alloc (Nat.le_refl _) (.cells #[.int .i64 0, .int .i64 0, .int .i64 0] 110)).trans (hb1.mono (by simp))
  clear hb1
  go_wp2_with fail
  generalize hw2 : w1.alloc _ = w2
  have R2 : Blk w2 w.heap.size 110 [.int .i64 0, .int .i64 0, .int .i64 0] := by rw [← hw2]; exact R1.alloc _
  have O2 : Blk w2 w1.heap.size 110 [.int .i64 D, .int .i64 S, .int .i64 N] := by rw [← hw2]; exact Blk.new w1 _ _
  have B2 : Below w.heap.size w w2 := by rw [← hw2]; exact B1.alloc B1.size _
  generalize w1.heap.size = O at O2 ⊢
  have q0 := R2.cell_some (k := 0) rfl
  have q1 := R2.cell_some (k := 1) rfl
  have q2 := R2.cell_some (k := 2) rfl
  have f0 := R2.free 0
  have f1 := R2.free 1
  have f2 := R2.free 2
  have y0 := O2.cell_some (k := 0) rfl
  have y1 := O2.cell_some (k := 1) rfl
  have y2 := O2.cell_some (k := 2) rfl
  have HR : Hid (Blk w2 w.heap.size 110 [.int .i64 0, .int .i64 0, .int .i64 0]) := R2
  have HB : Hid (Below w.heap.size w w2) := B2
  clear R2 B2 hw2 R1 B1
  have HO : Hid (Blk w2 O 110 [.int .i64 D, .int .i64 S, .int .i64 N]) := O2
  clear O2
  refine (areCounts_any _ _ _).mono ?_
  rintro e w' ⟨rfl, hw⟩
  obtain rfl : w2 = w' := hw.symm
  go_wp2_with fail
  refine (isSize_any _ _).mono ?_
  rintro e w' ⟨rfl, hw⟩
  obtain rfl : w2 = w' := hw.symm
  go_wp2_with fail
  refine Calls.mono (HS.out _) ?_
  rintro e w3 ⟨rfl, hb3⟩
  have R3 := HR.out.to hb3
  have O3 := HO.out.to hb3
  have B3 := HB.out.trans (hb3.mono HB.out.size)
  clear q0 q1 q2 f0 f1 f2 y0 y1 y2 hb3
  have q0 := R3.cell_some (k := 0) rfl
  have q1 := R3.cell_some (k := 1) rfl
  have q2 := R3.cell_some (k := 2) rfl
  have f0 := R3.free 0
  have f1 := R3.free 1
  have f2 := R3.free 2
  have y0 := O3.cell_some (k := 0) rfl
  have y1 := O3.cell_some (k := 1) rfl
  have y2 := O3.cell_some (k := 2) rfl
  have HR3 : Hid (Blk w3 w.heap.size 110 [.int .i64 0, .int .i64 0, .int .i64 0]) := R3
  have HB3 : Hid (Below w.heap.size w w3) := B3
  clear R3 O3 B3 HR HB HO
  by_cases hcut : p.size = M
  · have e1 : ((p.size : Int) != (M : Int)) = false := by simp; omega
    have hC := HC.out.2 hcut
    clear hcut
    go_wp2_with fail
    have hr := ((HR3.out.set 0 (.int .i64 D)).set 1 (.int .i64 S)).set 2 (.int .i64 N)
    refine bodyPost_ret (v := .tuple #[headV D S N, .int .i64 0]) (results_row_tmp (p := 2) (u := 3) (ty := 110) (by kernel_rfl) _ _ w.heap.size 110 _ (0, 0) _ rfl hr Tryd.underlying110 rfl infoHead _ rfl) rfl ⟨fun _ => rfl, fun h => absurd hC h, ?_⟩
    exact ((HB3.out.setCell (by exact Nat.le_refl _) _).setCell (by exact Nat.le_refl _) _).setCell (by exact Nat.le_refl _) _
  · have e1 : ((p.size : Int) != (M : Int)) = true := by simp; omega
    have hC := fun c => hcut (HC.out.1 c)
    clear hcut
    go_wp2_with fail
    have hr := ((HR3.out.set 0 (.int .i64 0)).set 1 (.int .i64 0)).set 2 (.int .i64 0)
    refine bodyPost_ret (v := .tuple #[headV 0 0 0, .int .i64 10]) (results_row_tmp (p := 2) (u := 3) (ty := 110) (by kernel_rfl) _ _ w.heap.size 110 _ (0, 0) _ rfl hr Tryd.underlying110 rfl infoHead _ rfl) rfl ⟨fun h => absurd h hC, fun _ => rfl, ?_⟩
    exact ((HB3.out.setCell (by exact Nat.le_refl _) _).setCell (by exact Nat.le_refl _) _).setCell (by exact Nat.le_refl _) _
end Go.Proofs.YtokmllopbfmadaaDoor.Pk

namespace Go.Proofs.YtokmllopbfmadaaDoor.Ref
open Go.RowKit Mem FieldWalks Tab ByTab Parts
open Gf (Bytes sumTo addTo rowOf)
open Plans (But intsV infoInt rowF rowF_length)

/-- Behind a step that writes new blocks alone. -/
theorem but_low {S : Nat} {w w' w'' : World} (h : But S w w') (hb : Below w.heap.size w' w'') : But S w w'' :=
  ⟨hb.os.trans h.os, hb.tape.trans h.tape, hb.output.trans h.output, Nat.le_trans h.size hb.size, fun b h1 h2 => (hb.block b h2).trans (h.rest b h1 h2)⟩
def eqF (d p : Nat) : List Nat := rowF d (rowOf d p)
theorem eqF_length (d p : Nat) : (eqF d p).length = d := rowF_length _ _
theorem eqF_next {w : World} {B d p j : Nat} (h : Blk w B 3 (intsV (mix (eqF d p) (List.replicate d 0) j))) (hj : j < d) :
    w.cell? ⟨B, j, none⟩ = some (.int .i64 0) ∧ w.frozen? ⟨B, j, none⟩ = false ∧ Blk (w.setCell ⟨B, j, none⟩ (.int .i64 (rowOf d p j : Nat))) B 3 (intsV (mix (eqF d p) (List.replicate d 0) (j + 1))) := by
  have hle : (eqF d p).length = (List.replicate d 0).length := by simp [eqF]
  refine ⟨h.cell_some ?_, h.free j, (h.set j _).eq ?_⟩
  · have := mix_at (new := eqF d p) (old := List.replicate d 0) (k := j) hle (by simpa using hj)
    simp [intsV, this]
  · have := mix_set (new := eqF d p) (old := List.replicate d 0) (k := j) hle (by simpa using hj)
    rw [← this]
    simp [intsV, List.map_set, eqF, rowF]
theorem eqF_skip {w : World} {B d p j : Nat} (h : Blk w B 3 (intsV (mix (eqF d p) (List.replicate d 0) j))) (hj : j < d) (h0 : rowOf d p j = 0) : Blk w B 3 (intsV (mix (eqF d p) (List.replicate d 0) (j + 1))) := by
  refine h.eq ?_
  have hle : (eqF d p).length = (List.replicate d 0).length := by simp [eqF]
  have e := mix_set (new := eqF d p) (old := List.replicate d 0) (k := j) hle (by simpa using hj)
  rw [← e]
  congr 1
  apply List.ext_getElem?
  intro i
  by_cases hi : j = i
  · subst hi
    have hl : j < (mix (eqF d p) (List.replicate d 0) j).length := by rw [mix_length hle]; simpa using hj
    rw [mix_at hle (by simpa using hj), List.getElem?_set_self hl]
    simp [eqF, rowF, h0]
  · rw [List.getElem?_set_ne hi]

set_option maxRecDepth 100000 in
set_option maxHeartbeats 2000000 in
theorem equation_any (d p : Nat) (piece : ByteArray) (w : World) (hd : 1 ≤ d) (hd2 : d ≤ 10) (hp : p ≤ 100) (hn : piece.size ≤ 1000) :
    Calls Tryd.prog 114 #[.int .i64 d, .int .i64 p, .string piece] w fun e w' =>
      ∃ fv vv, e = .returned (.agg #[fv, vv]) ∧ NsP (fun b => w.heap.size ≤ b) w' fv (eqF d p) ∧ NsP (fun b => w.heap.size ≤ b) w' vv (nums piece) ∧ Below w.heap.size w w' := by
  have hmk := fun w => make_ints d (by omega) w
  go_enter Tryd.func114, Tryd.ntmps114
  go_wp2
  go_loopw [8] (fun jv wr => ∃ j : Nat, j ≤ d ∧ jv = .int .i64 j ∧ Blk wr w.heap.size 155 [.slice none 0 0, .slice none 0 0] ∧ Blk wr (w.heap.size + 1) 3 (intsV (mix (eqF d p) (List.replicate d 0) j)) ∧ Blk wr (w.heap.size + 1 + 1) 155 [.slice (some ⟨w.heap.size + 1, 0, none⟩) d d, .slice none 0 0] ∧ Below w.heap.size w wr) (fun jv _ => d - (intOf jv).toNat)
  case atStart => exact ⟨0, Nat.zero_le _, rfl, ((Blk.new w _ _).alloc _).alloc _, by rw [mix_zero]; exact (by simpa using made_ints (w.alloc (.cells #[.slice none 0 0, .slice none 0 0] 155)) d : Blk _ (w.heap.size + 1) _ _).alloc _, (by simpa using Blk.new ((w.alloc (.cells #[.slice none 0 0, .slice none 0 0] 155)).alloc (.cells (madeCells #[.int .i64 0] d) 3)) #[.slice (some ⟨w.heap.size + 1, 0, none⟩) d d, .slice none 0 0] 155), (((Below.refl _ _).alloc (Nat.le_refl _) _).alloc (by simp) _).alloc (by simp; omega) _⟩
  case round =>
    obtain ⟨j, hj, rfl, kR, kF, kO, hbel⟩ := hrel
    have gR := kR.lt
    have gO := kO.lt
    have KR : Hid (Blk wr w.heap.size 155 [.slice none 0 0, .slice none 0 0]) := kR
    have KF : Hid (Blk wr (w.heap.size + 1) 3 (intsV (mix (eqF d p) (List.replicate d 0) j))) := kF
    have KO : Hid (Blk wr (w.heap.size + 1 + 1) 155 [.slice (some ⟨w.heap.size + 1, 0, none⟩) d d, .slice none 0 0]) := kO
    have q3 := kO.cell_some (k := 0) rfl
    by_cases hlt : j < d
    · obtain ⟨r3, r4, hnew⟩ := eqF_next kF hlt
      have HNEW : Hid (Blk (wr.setCell ⟨w.heap.size + 1, j, none⟩ (.int .i64 (rowOf d p j : Nat))) (w.heap.size + 1) 3 (intsV (mix (eqF d p) (List.replicate d 0) (j + 1)))) := hnew
      have i1 : (0 : Int) ≤ (j : Int) := by omega
      have i2 : (j : Int) < (d : Int) := by omega
      clear kR kF kO hnew hmk
      by_cases hpd : d ≤ p
      · obtain ⟨i, hi⟩ : ∃ i, p = d + i := ⟨p - d, by omega⟩
        have hdec : decide ((d : Int) ≤ (p : Int)) = true := decide_eq_true (by omega)
        have HE : Hid (rowOf d p j = Gf.inv ((d + i) ^^^ j)) := by show _ = _; unfold rowOf; rw [if_neg (by omega), hi]
        have ei : (p : Int) - (d : Int) = (i : Int) := by omega
        have hi2 : i ≤ 100 := by omega
        have hwi : IntKind.i64.wrap (i : Int) = i := by rw [IntKind.wrap_i64]; omega
        clear hi
        have hne : w.heap.size + 1 ≠ w.heap.size + 1 + 1 := by omega
        have HNE : Hid (w.heap.size < w.heap.size + 1 ∧ w.heap.size + 1 < w.heap.size + 1 + 1) := ⟨by omega, by omega⟩
        have HGB : Hid (w.heap.size < wr.heap.size ∧ w.heap.size + 1 + 1 < wr.heap.size) := ⟨gR, gO⟩
        clear gR gO
        generalize w.heap.size + 1 + 1 = RB at *
        generalize w.heap.size + 1 = FB at *
        go_wp2_with fail
        go_region_held3 (fun w' => w'.cell? ⟨RB, 0, none⟩ = some (.slice (some ⟨FB, 0, none⟩) d d)) (go_keep) (first | (go_at_call 95; refine (factor_any d i j (by omega) hi2 hlt _).mono ?_; rintro e w2 ⟨rfl, rfl⟩))
        all_goals
          rw [← HE.out]
          go_wp2
          go_roundw
          case rel => exact ⟨j + 1, by omega, by go_num, (KR.out.other (by show w.heap.size ≠ FB; have := HNE.out; omega) _).drew, HNEW.out.drew, (KO.out.other (Ne.symm hne) _).drew, (hbel.setCell (by show w.heap.size ≤ FB; have := HNE.out; omega) _).drew⟩
          case measure => simp [intOf]; omega
      · have hdec : decide ((d : Int) ≤ (p : Int)) = false := by simp; omega
        by_cases hpj : p = j
        · have HE : Hid (rowOf d p j = 1) := by show _ = _; simp [rowOf, hpj, hlt]
          have heq : ((p : Int) == (j : Int)) = true := by simp [hpj]
          rw [HE.out] at HNEW
          go_wp2
          go_roundw
          case rel => exact ⟨j + 1, by omega, by go_num, KR.out.other (by show w.heap.size ≠ w.heap.size + 1; omega) _, HNEW.out, KO.out.other (by show w.heap.size + 1 + 1 ≠ w.heap.size + 1; omega) _, hbel.setCell (by show w.heap.size ≤ w.heap.size + 1; omega) _⟩
          case measure => simp [intOf]; omega
        · have HE : Hid (rowOf d p j = 0) := by show _ = _; simp [rowOf, hpj]; omega
          have heq : ((p : Int) == (j : Int)) = false := by simp; omega
          go_wp2
          go_roundw
          case rel => exact ⟨j + 1, by omega, by go_num, KR.out, eqF_skip KF.out hlt HE.out, KO.out, hbel⟩
          case measure => simp [intOf]; omega
    · obtain rfl : j = d := by omega
      have hFF : Blk wr (w.heap.size + 1) 3 (intsV (eqF j p)) := by
        have e := mix_all (new := eqF j p) (old := List.replicate j 0) (by simp [eqF])
        rw [List.length_replicate] at e
        rw [e] at kF
        exact kF
      obtain ⟨w1, rfl⟩ : ∃ w1, w1 = wr := ⟨_, rfl⟩
      have gF := hFF.lt
      have KF1 : Hid (Blk w1 (w.heap.size + 1) 3 (intsV (eqF j p))) := hFF
      have HNE : Hid (w.heap.size < w.heap.size + 1 ∧ w.heap.size + 1 < w.heap.size + 1 + 1 ∧ w.heap.size < w1.heap.size ∧ w.heap.size + 1 < w1.heap.size ∧ w.heap.size + 1 + 1 < w1.heap.size) := ⟨by omega, by omega, gR, gF, gO⟩
      have hOlt : w.heap.size + 1 + 1 < w1.heap.size := gO
      have HBEL : Hid (Below w.heap.size w w1) := hbel
      clear kR kF kO hFF KF gR gF gO q3 hmk hbel
      generalize w.heap.size + 1 + 1 = RB at *
      generalize w.heap.size + 1 = FB at *
      go_wp2
      go_loopw [9] (fun tv wr => ∃ (t : Nat) (v : Value), t ≤ piece.size ∧ tv = .int .i64 t ∧ Blk wr RB 155 [.slice (some ⟨FB, 0, none⟩) j j, v] ∧ But RB w1 wr ∧ wr.ownsRow w1.heap.size 3 1 v t (intsV ((nums piece).take t))) (fun tv _ => piece.size - (intOf tv).toNat)
      case atStart => exact ⟨0, _, Nat.zero_le _, rfl, KO.out, But.refl _ _, World.ownsRow_nil _ _ _ _⟩
      case round =>
        obtain ⟨t, v, ht, rfl, kO, hbut, hown⟩ := hrel
        obtain ⟨va0, vc0, rfl⟩ := owns_slice hown
        by_cases htlt : t < piece.size
        · have c1 := kO.cell_some (k := 1) rfl
          have f1 := kO.free 1
          have HNX : Hid (intsV ((nums piece).take t) ++ [.int .i64 ((piece[t]'htlt).toNat : Int)] = intsV ((nums piece).take (t + 1))) := by
            show _ = _
            have hl : t < (nums piece).length := by rw [nums_length]; exact htlt
            rw [List.take_add_one, List.getElem?_eq_getElem hl]
            have := nums_get piece t htlt
            rw [List.getD_eq_getElem?_getD, List.getElem?_eq_getElem hl, Option.getD_some] at this
            simp [intsV, this]
          have KO1 : Hid (Blk wr RB 155 [.slice (some ⟨FB, 0, none⟩) j j, .slice va0 t vc0]) := kO
          have hsz := hbut.size
          have HBUT : Hid (But RB w1 wr) := hbut
          have hlen : (nums piece).length = piece.size := nums_length piece
          clear kO hbut hlen
          have hwc : IntKind.i64.wrap ((piece[t]'htlt).toNat : Int) = ((piece[t]'htlt).toNat : Int) := by
            have := (piece[t]'htlt).toNat_lt
            rw [IntKind.wrap_i64]; omega
          have hRlt : RB < wr.heap.size := by omega
          have hRne : RB ≠ wr.heap.size := by omega
          go_wp2_with fail
          go_region_law (refine step_append_one rfl _ _ 45 rfl w1.heap.size 3 (.int .i64 0) 8 Tryd.underlying45 infoInt rfl (by decide) (.slice va0 t vc0) t _ (by simp [Act.eval]) (by exact (hown.alloc _).drew) ⟨wr.heap.size, 0, none⟩ 1 (.int .i64 ((piece[t]'htlt).toNat : Int)) (by simp [Act.eval]) (by exact (Blk.new wr _ _).cell_some rfl) rfl (by omega) (by simp; omega) ?_; rw [HNX.out]; intro v' w2 hown' hbel'; obtain ⟨va, vc, rfl⟩ := owns_slice hown'; have hb2 := hbel' w1.heap.size wr ((Below.refl _ _).alloc hsz _).drew (Nat.le_refl _); have c2 := (hb2.cell (p := ⟨RB, 1, none⟩) (by exact hOlt)).trans c1; have f2 := (hb2.frozen (p := ⟨RB, 1, none⟩) (by exact hOlt)).trans f1)
          all_goals
            go_wp2
            go_roundw
            case rel => exact ⟨t + 1, _, by omega, by go_num, ((KO1.out.below hb2 hOlt).set 1 _), (but_low HBUT.out hb2).setCell 1 _, ownsRow_setCell_below hown' (by exact hOlt) _⟩
            case measure => simp [intOf]; omega
        · obtain rfl : t = piece.size := by omega
          have hV : wr.ownsRow w1.heap.size 3 1 (.slice va0 piece.size vc0) (nums piece).length (intsV (nums piece)) := by
            rw [List.take_of_length_le (by rw [nums_length]; exact Nat.le_refl _)] at hown
            rw [nums_length]; exact hown
          have hR := hbut.blk KR.out (by have := HNE.out; omega)
          have hF := hbut.blk KF1.out (by have := HNE.out; omega)
          have y0 := kO.cell_some (k := 0) rfl
          have y1 := kO.cell_some (k := 1) rfl
          have z0 := hR.cell_some (k := 0) rfl
          have z1 := hR.cell_some (k := 1) rfl
          have z2 := hR.free 0
          have z3 := hR.free 1
          have nF : FB ≠ w.heap.size := by have := HNE.out; omega
          have HR : Hid (Blk wr w.heap.size 155 [.slice none 0 0, .slice none 0 0]) := hR
          have HF : Hid (Blk wr FB 3 (intsV (eqF j p))) := hF
          have HB : Hid (Below w.heap.size w wr) := hbut.below HBEL.out (by have := HNE.out; omega) (by have := HNE.out; omega)
          have hwl : w.heap.size < w1.heap.size := HNE.out.2.2.1
          have HV : Hid (wr.ownsRow w1.heap.size 3 1 (.slice va0 piece.size vc0) (nums piece).length (intsV (nums piece))) := hV
          clear kO hbut hR hF hV hown
          go_wp2
          have hr := (HR.out.set 0 (.slice (some ⟨FB, 0, none⟩) j j)).set 1 (.slice va0 piece.size vc0)
          refine bodyPost_ret (v := .agg #[.slice (some ⟨FB, 0, none⟩) j j, .slice va0 piece.size vc0]) (results_cell_row (p := 6) (ty := 155) (by kernel_rfl) _ _ w.heap.size 155 _ (0, 0) _ rfl hr Tryd.underlying155 rfl infoRowSize) rfl ⟨_, _, rfl, ?_, ?_, ?_⟩
          · exact NsP.of_blk ((HF.out.other nF _).other nF _) (by have := HNE.out; omega) _ _ (eqF_length _ _).symm
          · exact NsP.of_owns (ownsRow_setCell_below (ownsRow_setCell_below HV.out (by exact hwl) _) (by exact hwl) _) (fun b hb => by omega)
          · exact (HB.out.setCell (by exact Nat.le_refl _) _).setCell (by exact Nat.le_refl _) _
end Go.Proofs.YtokmllopbfmadaaDoor.Ref

/- Rows of a call's own, two of them that grow in turn. -/
namespace Go.Proofs.YtokmllopbfmadaaDoor.Ref
open Go.RowKit Mem FieldWalks Tab ByTab Parts
open Plans (But intsV infoInt)

theorem step_append_g {P : Program} {w : World} {ops : Array Oper} {o : Oper} {a : Act} {K : Act → World → Prop} {Q : Exit → Act → World → Prop} {E : Prop}
    (hgd : o.guard = none) (s x : Operand) (t : TypeId) (hop : o.op = Op.call { callee := Callee.builtin Builtin.append, args := #[s, x], argTypes := #[t, t] })
    (base : Nat) (e : TypeId) (z : Value) (bytes : Nat) (ht : P.underlying t = some (.slice e)) (hinfo : (P.info? e).map (fun i => (i.zero, i.size, i.bytes)) = some (some z, 1, bytes)) (hz : z.cells.size = 1) (hby : bytes ≤ 1000)
    (v : Value) (n : Nat) (xs : List Value) (hs : a.eval s = v) (hown : w.ownsRow base e 1 v n xs) (ad : Addr) (c : Nat) (u : Value) (hx : a.eval x = .slice (some ad) 1 c) (hu : w.cell? ad = some u) (h1 : u.oneCell' = true) (hn : n ≤ 100000) (hbase : base ≤ w.heap.size)
    (hK : ∀ v' w', w'.ownsRow base e 1 v' (n + 1) (xs ++ [u]) → w.grownBy w' v.ownBlock → K (a.put o.dst v') w') :
    if Region.wanted o (yielded ops a.tmps) = true then Oper.wp P o a w K Q else E := by
  have hw : Region.wanted o (yielded ops a.tmps) = true := by simp [Region.wanted, hgd]
  rw [if_pos hw]
  obtain ⟨i0, hi, hz0, hz1, hz2⟩ := info_parts hinfo
  have b2 : (n + 1) * bytes ≤ 140737488355328 := by
    have : (n + 1) * bytes ≤ 100001 * 1000 := Nat.mul_le_mul (by omega) hby
    omega
  have hu' : ∀ (j : Nat) (y : Value), [u][j]? = some y → w.cell? (ad.add j) = some y := by
    intro j y hj
    match j with
    | 0 =>
      simp at hj; subst hj
      rw [show ad.add 0 = ad from rfl]; exact hu
    | j + 1 => simp at hj
  obtain ⟨v', w', hrun, ho, hg, _⟩ := run_append_own (P := P) w base t o.type e i0 z 1 bytes ht hi hz0 hz1 hz2 hz (by decide) v n xs hown ad 1 c [u] rfl hu' (by simpa using h1) (by unfold maxLen; omega) b2 hbase
  unfold Oper.wp
  simp [execOp, hop, resolve, invoke, builtin, hs, hx, hrun, Result.andThen]
  exact hK v' w' ho hg
/-- A row of another type stays while one grows. -/
theorem owns_grown {w w' : World} {base base2 size size2 n n2 : Nat} {e e2 : TypeId} {v v2 : Value} {xs xs2 : List Value} (h : w.ownsRow base e size v n xs) (hg : w.grownBy w' v.ownBlock) (h2 : w.ownsRow base2 e2 size2 v2 n2 xs2) (ht : e2 ≠ e) : w'.ownsRow base2 e2 size2 v2 n2 xs2 := by
  obtain ⟨a1, a2⟩ := h2
  refine ⟨a1, ?_⟩
  rcases a2 with a2 | ⟨g, cap, cur, hv, hgb, hh, r⟩
  · exact Or.inl a2
  · have hb : Blk w g e2 cur.toList := by unfold Blk; rw [hh]
    have := Plans.grown_keeps h hg hb ht
    unfold Blk at this
    exact Or.inr ⟨g, cap, cur, hv, hgb, this, r⟩
theorem owns_less {w : World} {base base' size n : Nat} {e : TypeId} {v : Value} {xs : List Value} (h : w.ownsRow base e size v n xs) (hb : base' ≤ base) : w.ownsRow base' e size v n xs := by
  obtain ⟨a1, a2⟩ := h
  refine ⟨a1, ?_⟩
  rcases a2 with a2 | ⟨g, cap, cur, hv, hgb, r⟩
  · exact Or.inl a2
  · exact Or.inr ⟨g, cap, cur, hv, Nat.le_trans hb hgb, r⟩
end Go.Proofs.YtokmllopbfmadaaDoor.Ref
