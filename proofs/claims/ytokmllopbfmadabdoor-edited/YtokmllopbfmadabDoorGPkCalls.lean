import Derived.Test.YtokmllopbfmadabDoorGPkMend
import Derived.Test.YtokmllopbfmadabDoorGWGather
import Derived.Test.YtokmllopbfmadabDoorGPChange
import Derived.Test.YtokmllopbfmadabDoorGPkHead
import Derived.Test.YtokmllopbfmadabDoorGKGone
/- Pack, Read and Heal of the program. -/
namespace Go.Proofs.YtokmllopbfmadabDoor.Pk
open Go.RowKit Mem FieldWalks Tab ByTab Parts Ref Top
open Gf (Bytes Fits chosen left_)
open Plans (intsV)

set_option maxRecDepth 100000 in
set_option maxHeartbeats 1000000 in
theorem wPack_ok (hS : SumsOk) (d s x : Nat) (T : ByteArray) (hd : 1 ≤ d) (hd2 : d ≤ 10) (hs : s ≤ 6) (hx : x ≤ 2) (hn : T.size ≤ 400) (w : World) (ht : Table w) :
    Calls Tryd.prog 6 #[.int .i64 d, .int .i64 s, .int .i64 x, .string T] w fun e w' => e = .returned (.tuple #[.string (packS d s T.size (pieces d s T)), .int .i64 0]) ∧ Below w.heap.size w w' := by
  have HSP : Hid _ := wSpread_ok hS d s x T hd hd2 hs hx hn w ht
  have hLs := ceil_le T.size d hd
  have HWR : Hid (∀ W v, StrsAt W v (pieces d s T) → Calls Tryd.prog 18 #[.agg #[.int .i64 d, .int .i64 s, .int .i64 T.size], v] W fun e w' => e = .returned (.string (packS d s T.size (pieces d s T))) ∧ Below W.heap.size W w') := fun W v hv =>
    write_any d s T.size (pieces d s T) v (by rw [pieces_length]; omega) (fun p h => by rw [pieces_sizes]; omega) W hv
  have HPL : Hid ((pieces d s T).length = d + s) := pieces_length d s T
  generalize packS d s T.size (pieces d s T) = out at HWR ⊢
  generalize pieces d s T = P at HSP HWR HPL
  clear ht hLs
  go_enter Tryd.func6, Tryd.ntmps6
  go_wp2_with fail
  refine Calls.mono HSP.out ?_
  rintro e w1 ⟨b, hb, rfl, hblk, hb1⟩
  have HST : Hid (StrsAt (w1.alloc (.cells #[.int .i64 d, .int .i64 s, .int .i64 T.size] 37)) (.slice (some ⟨b, 0, none⟩) (d + s) (d + s)) P) := (StrsAt.of_blk hblk _ _ HPL.out.symm).to ((Below.refl _ _).alloc (Nat.le_refl _) _)
  clear hblk
  go_wp2_with fail
  refine Calls.mono (HWR.out _ _ HST.out) ?_
  rintro e w2 ⟨rfl, hb2⟩
  go_wp2
  go_ret2
  exact ⟨rfl, (hb1.alloc hb1.size _).trans (hb2.mono (by have := hb1.size; simp; omega))⟩
set_option maxRecDepth 100000 in
theorem wPack_no (d s x : Int) (T : ByteArray) (hlen : T.size ≤ maxLen) (hE : spreadE d s x T.size ≠ 0) (w : World) :
    Calls Tryd.prog 6 #[.int .i64 d, .int .i64 s, .int .i64 x, .string T] w fun e w' => e = .returned (.tuple #[.string ByteArray.empty, .int .i64 (spreadE d s x T.size)]) ∧ w' = w := by
  have HSP : Hid _ := wSpread_no d s x T hlen hE w
  generalize spreadE d s x T.size = k at HSP hE ⊢
  have e1 : ((k : Int) != 0) = true := by simp; omega
  have e2 : ((k : Int) == 0) = false := by simp; omega
  clear hE
  go_enter Tryd.func6, Tryd.ntmps6
  go_wp2_with fail
  refine Calls.mono HSP.out ?_
  rintro e w1 ⟨rfl, hw⟩
  obtain rfl : w = w1 := hw.symm
  go_wp2
  go_ret2
  exact ⟨rfl, rfl⟩
set_option maxRecDepth 100000 in
set_option maxHeartbeats 1000000 in
theorem wRead_no (p : ByteArray) (x : Int) (k : Nat) (hp : p.size < 4611686018427387904) (h : MendNo p x k) (w : World) :
    Calls Tryd.prog 11 #[.string p, .int .i64 x] w fun e w' => e = .returned (.tuple #[.string ByteArray.empty, .int .i64 k]) ∧ Below w.heap.size w w' := by
  have HM : Hid _ := mend_no p x k hp h w
  clear h
  unfold noMended at HM
  go_enter Tryd.func11, Tryd.ntmps11
  go_wp2_with fail
  refine Calls.mono HM.out ?_
  rintro e w1 ⟨rfl, hb1⟩
  go_wp2
  go_ret2
  exact ⟨rfl, hb1.alloc hb1.size _⟩
set_option maxRecDepth 100000 in
set_option maxHeartbeats 1000000 in
theorem wHeal_no (p : ByteArray) (x : Int) (k : Nat) (hk : 1 ≤ k) (hp : p.size < 4611686018427387904) (h : MendNo p x k) (w : World) :
    Calls Tryd.prog 12 #[.string p, .int .i64 x] w fun e w' => e = .returned (.tuple #[.string ByteArray.empty, .slice none 0 0, .int .i64 k]) ∧ Below w.heap.size w w' := by
  have HM : Hid _ := mend_no p x k hp h w
  have e1 : ((k : Int) != 0) = true := by simp; omega
  have e2 : ((k : Int) == 0) = false := by simp; omega
  clear h
  unfold noMended at HM
  go_enter Tryd.func12, Tryd.ntmps12
  go_wp2_with fail
  refine Calls.mono HM.out ?_
  rintro e w1 ⟨rfl, hb1⟩
  go_wp2
  go_ret3
  exact ⟨rfl, hb1.alloc hb1.size _⟩
set_option maxRecDepth 100000 in
set_option maxHeartbeats 1000000 in
theorem wEdit_no (p : ByteArray) (x a : Int) (t : ByteArray) (k : Nat) (hk : 1 ≤ k) (hp : p.size < 4611686018427387904) (h : MendNo p x k) (w : World) :
    Calls Tryd.prog 14 #[.string p, .int .i64 x, .int .i64 a, .string t] w fun e w' => e = .returned (.tuple #[.string ByteArray.empty, .int .i64 k]) ∧ Below w.heap.size w w' := by
  have HM : Hid _ := mend_no p x k hp h w
  have e1 : ((k : Int) != 0) = true := by simp; omega
  have e2 : ((k : Int) == 0) = false := by simp; omega
  clear h
  unfold noMended at HM
  go_enter Tryd.func14, Tryd.ntmps14
  go_wp2_with fail
  refine Calls.mono HM.out ?_
  rintro e w1 ⟨rfl, hb1⟩
  go_wp2
  go_ret2
  exact ⟨rfl, hb1.alloc hb1.size _⟩
/-- What is told of mend, for a pack that is mended. -/
def MendOk (p : ByteArray) (x : Int) (D S N : Nat) (str : ByteArray) (ss : List ByteArray) (bad : List Nat) : Prop :=
  ∀ W, Table W → Calls Tryd.prog 22 #[.string p, .int .i64 x] W fun e w' => MendAns W w' D S N str ss bad e
set_option maxRecDepth 100000 in
set_option maxHeartbeats 1000000 in
theorem wRead_ok (p : ByteArray) (x : Int) (D S N : Nat) (str : ByteArray) (ss : List ByteArray) (bad : List Nat) (h : MendOk p x D S N str ss bad) (w : World) (ht : Table w) :
    Calls Tryd.prog 11 #[.string p, .int .i64 x] w fun e w' => e = .returned (.tuple #[.string str, .int .i64 0]) ∧ Below w.heap.size w w' := by
  have HM : Hid _ := h w ht
  clear h
  go_enter Tryd.func11, Tryd.ntmps11
  go_wp2_with fail
  refine Calls.mono HM.out ?_
  rintro e w1 ⟨b, vb, hb, rfl, hblk, hown, hb1⟩
  obtain ⟨ao, c, rfl⟩ := owns_slice hown
  go_wp2
  go_ret2
  exact ⟨rfl, hb1.alloc hb1.size _⟩
set_option maxRecDepth 100000 in
set_option maxHeartbeats 1000000 in
theorem wHeal_ok (p : ByteArray) (x : Int) (D S N : Nat) (str : ByteArray) (ss : List ByteArray) (bad : List Nat) (hD : D ≤ 10) (hS : S ≤ 6) (hl : ss.length = D + S) (hz : ∀ q, (h : q < ss.length) → ss[q].size ≤ 1000) (h : MendOk p x D S N str ss bad) (w : World) (ht : Table w) :
    Calls Tryd.prog 12 #[.string p, .int .i64 x] w fun e w' => ∃ vb, e = .returned (.tuple #[.string (packS D S N ss), vb, .int .i64 0]) ∧ w'.ownsRow w.heap.size 3 1 vb bad.length (intsV bad) ∧ Below w.heap.size w w' := by
  have HM : Hid _ := h w ht
  have HWR : Hid (∀ W v, StrsAt W v ss → Calls Tryd.prog 18 #[.agg #[.int .i64 D, .int .i64 S, .int .i64 N], v] W fun e w' => e = .returned (.string (packS D S N ss)) ∧ Below W.heap.size W w') := fun W v hv =>
    write_any D S N ss v (by omega) hz W hv
  have HL : Hid (ss.length = D + S) := hl
  generalize packS D S N ss = out at HWR ⊢
  clear h hl hz
  go_enter Tryd.func12, Tryd.ntmps12
  go_wp2_with fail
  refine Calls.mono HM.out ?_
  rintro e w1 ⟨b, vb, hb, rfl, hblk, hown, hb1⟩
  obtain ⟨ao, c, rfl⟩ := owns_slice hown
  go_wp2_with fail
  generalize hw2 : w1.alloc _ = w2
  have M2 : Blk w2 w1.heap.size 64 [.int .i64 D, .int .i64 S, .int .i64 N, .string str, .slice (some ⟨b, 0, none⟩) (D + S) (D + S), .slice ao bad.length c] := by rw [← hw2]; exact Blk.new w1 _ _
  have hb12 : Below w1.heap.size w1 w2 := by rw [← hw2]; exact (Below.refl _ _).alloc (Nat.le_refl _) _
  have HB2 : Hid (Below w.heap.size w w2) := hb1.trans (hb12.mono hb1.size)
  have HO2 : Hid (w2.ownsRow w.heap.size 3 1 (.slice ao bad.length c) bad.length (intsV bad)) := ownsRow_to hown hb12
  have HS2 : Hid (StrsAt w2 (.slice (some ⟨b, 0, none⟩) (D + S) (D + S)) ss) := (StrsAt.of_blk hblk _ _ HL.out.symm).to hb12
  generalize w1.heap.size = M at M2 ⊢
  have hMlt := M2.lt
  have z0 := M2.drew.cell_some (k := 0) rfl
  have z1 := M2.drew.cell_some (k := 1) rfl
  have z2 := M2.drew.cell_some (k := 2) rfl
  have z4 := M2.drew.cell_some (k := 4) rfl
  have z5 := M2.drew.cell_some (k := 5) rfl
  clear hw2 hb12 M2 hown hblk hb1 HM
  go_region_held3 (fun wx => wx.cell? ⟨M, 0, none⟩ = some (.int .i64 (D : Int)) ∧ wx.cell? ⟨M, 1, none⟩ = some (.int .i64 (S : Int)) ∧ wx.cell? ⟨M, 2, none⟩ = some (.int .i64 (N : Int)) ∧ wx.cell? ⟨M, 4, none⟩ = some (.slice (some ⟨b, 0, none⟩) (D + S) (D + S)) ∧ wx.cell? ⟨M, 5, none⟩ = some (.slice ao bad.length c)) (go_keep) (first | (go_at_call 18; refine Calls.mono (HWR.out _ _ (by exact HS2.out)) ?_; rintro e w3 ⟨rfl, hb3⟩; have o0 := (hb3.cell (p := ⟨M, 0, none⟩) hMlt).trans z0; have o1 := (hb3.cell (p := ⟨M, 1, none⟩) hMlt).trans z1; have o2 := (hb3.cell (p := ⟨M, 2, none⟩) hMlt).trans z2; have o4 := (hb3.cell (p := ⟨M, 4, none⟩) hMlt).trans z4; have o5 := (hb3.cell (p := ⟨M, 5, none⟩) hMlt).trans z5))
  have B23 : Below w2.heap.size w2 w3 := (Below.refl w2.heap.size w2).drew.trans hb3
  go_wp2
  go_ret3
  exact ⟨_, rfl, ownsRow_to HO2.out B23, HB2.out.trans (B23.mono HB2.out.size)⟩
/-- A text is written over in pieces: what Change comes to. -/
def newPieces (d s L a : Nat) (t : ByteArray) (ss : List ByteArray) : List ByteArray := (List.range (d + s)).map fun p => mkS (Plans.rowF L (Gf.newP d L a (nums t) t.size (oldOf ss) p))
set_option maxRecDepth 100000 in
set_option maxHeartbeats 1000000 in
theorem wEdit_range (p : ByteArray) (x a : Int) (t : ByteArray) (D S N : Nat) (str : ByteArray) (ss : List ByteArray) (bad : List Nat) (hN : N ≤ 400) (ha : a ≤ 9223372036854775807) (htl : t.size ≤ maxLen) (hno : okWithin N a t.size = false) (h : MendOk p x D S N str ss bad) (w : World) (ht : Table w) :
    Calls Tryd.prog 14 #[.string p, .int .i64 x, .int .i64 a, .string t] w fun e w' => e = .returned (.tuple #[.string ByteArray.empty, .int .i64 8]) ∧ Below w.heap.size w w' := by
  have HM : Hid _ := h w ht
  have HIW : Hid (∀ W, Calls Tryd.prog 23 #[.int .i64 N, .int .i64 a, .string t] W fun e w' => e = .returned (.bool false) ∧ w' = W) := fun W => by rw [← hno]; exact isWithin_any N hN a ha t htl W
  clear h hno
  go_enter Tryd.func14, Tryd.ntmps14
  go_wp2_with fail
  refine Calls.mono HM.out ?_
  rintro e w1 ⟨b, vb, hb, rfl, hblk, hown, hb1⟩
  obtain ⟨ao, c, rfl⟩ := owns_slice hown
  go_wp2_with fail
  refine Calls.mono (HIW.out _) ?_
  rintro e w' ⟨rfl, rfl⟩
  go_wp2
  go_ret2
  exact ⟨rfl, hb1.alloc hb1.size _⟩
set_option maxRecDepth 100000 in
set_option maxHeartbeats 1000000 in
theorem wEdit_ok (p : ByteArray) (x : Int) (a : Nat) (t : ByteArray) (D S N L : Nat) (str : ByteArray) (ss : List ByteArray) (bad : List Nat) (hD1 : 1 ≤ D) (hD : D ≤ 10) (hS : S ≤ 6) (hN : N ≤ 400) (hL : L = (N + D - 1) / D) (hl : ss.length = D + S) (hz : ∀ q, (h : q < ss.length) → ss[q].size = L) (hat : a + t.size ≤ N) (h : MendOk p x D S N str ss bad) (w : World) (ht : Table w) :
    Calls Tryd.prog 14 #[.string p, .int .i64 x, .int .i64 a, .string t] w fun e w' => e = .returned (.tuple #[.string (packS D S N (newPieces D S L a t ss)), .int .i64 0]) ∧ Below w.heap.size w w' := by
  have HM : Hid _ := h w ht
  have hLs : L ≤ 400 := by have := ceil_le N D hD1; omega
  have hno : okWithin N a t.size = true := by simp [okWithin]; omega
  have HIW : Hid (∀ W, Calls Tryd.prog 23 #[.int .i64 N, .int .i64 a, .string t] W fun e w' => e = .returned (.bool true) ∧ w' = W) := fun W => by rw [← hno]; exact isWithin_any N hN a (by omega) t (by unfold maxLen; omega) W
  have hsh : ShapeOk D S L ss [] := ⟨hl, fun k hk => by simp at hk, fun q hq _ => hz q hq⟩
  have HCH : Hid (∀ W v, Table W → StrsAt W v ss → Calls Tryd.prog 24 #[.int .i64 D, .int .i64 S, v, .int .i64 a, .string t] W fun e w' => ∃ b, W.heap.size ≤ b ∧ e = .returned (.slice (some ⟨b, 0, none⟩) (D + S) (D + S)) ∧ Blk w' b 9 (strV (newPieces D S L a t ss)) ∧ Below W.heap.size W w') := fun W v hT hv =>
    pChange_any D S N a L ss t v W hT hv hD1 hD hS hN hL hsh hat
  have HWR : Hid (∀ W v, StrsAt W v (newPieces D S L a t ss) → Calls Tryd.prog 18 #[.agg #[.int .i64 D, .int .i64 S, .int .i64 N], v] W fun e w' => e = .returned (.string (packS D S N (newPieces D S L a t ss))) ∧ Below W.heap.size W w') := fun W v hv =>
    write_any D S N _ v (by simp [newPieces]; omega) (fun q h => by simp [newPieces, mkS_size, Plans.rowF]; omega) W hv
  have HNL : Hid ((newPieces D S L a t ss).length = D + S) := by show _ = _; simp [newPieces]
  have HL : Hid (ss.length = D + S) := hl
  have HT : Hid (Table w) := ht
  generalize packS D S N (newPieces D S L a t ss) = out at HWR ⊢
  generalize newPieces D S L a t ss = ns at HWR HCH HNL
  clear h hno hsh hl hz hL ht
  go_enter Tryd.func14, Tryd.ntmps14
  go_wp2_with fail
  refine Calls.mono HM.out ?_
  rintro e w1 ⟨b, vb, hb, rfl, hblk, hown, hb1⟩
  obtain ⟨ao, c, rfl⟩ := owns_slice hown
  go_wp2_with fail
  generalize hw2 : w1.alloc _ = w2
  have M2 : Blk w2 w1.heap.size 64 [.int .i64 D, .int .i64 S, .int .i64 N, .string str, .slice (some ⟨b, 0, none⟩) (D + S) (D + S), .slice ao bad.length c] := by rw [← hw2]; exact Blk.new w1 _ _
  have hb12 : Below w1.heap.size w1 w2 := by rw [← hw2]; exact (Below.refl _ _).alloc (Nat.le_refl _) _
  have HB2 : Hid (Below w.heap.size w w2) := hb1.trans (hb12.mono hb1.size)
  have HO2 : Hid (w2.ownsRow w.heap.size 3 1 (.slice ao bad.length c) bad.length (intsV bad)) := ownsRow_to hown hb12
  have HS2 : Hid (StrsAt w2 (.slice (some ⟨b, 0, none⟩) (D + S) (D + S)) ss) := (StrsAt.of_blk hblk _ _ HL.out.symm).to hb12
  generalize w1.heap.size = M at M2 ⊢
  have hMlt := M2.lt
  have z0 := M2.cell_some (k := 0) rfl
  have z1 := M2.cell_some (k := 1) rfl
  have z2 := M2.cell_some (k := 2) rfl
  have z4 := M2.cell_some (k := 4) rfl
  have HT2 : Hid (Table w2) := table_to HT.out HB2.out
  clear hw2 hb12 M2 hown hblk hb1 HM HO2
  refine Calls.mono (HIW.out _) ?_
  rintro e w' ⟨rfl, hw⟩
  obtain rfl : w2 = w' := hw.symm
  go_wp2_with fail
  refine Calls.mono (HCH.out _ _ HT2.out HS2.out) ?_
  rintro e w3 ⟨nb, hnb, rfl, hnblk, hb3⟩
  have o0 := (hb3.cell (p := ⟨M, 0, none⟩) hMlt).trans z0
  have o1 := (hb3.cell (p := ⟨M, 1, none⟩) hMlt).trans z1
  have o2 := (hb3.cell (p := ⟨M, 2, none⟩) hMlt).trans z2
  have HN3 : Hid (StrsAt w3 (.slice (some ⟨nb, 0, none⟩) (D + S) (D + S)) ns) := StrsAt.of_blk hnblk _ _ HNL.out.symm
  have B3 := HB2.out.trans (hb3.mono HB2.out.size)
  clear z0 z1 z2 z4 hnblk hb3
  go_wp2_with fail
  refine Calls.mono (HWR.out _ _ HN3.out) ?_
  rintro e w4 ⟨rfl, hb4⟩
  go_wp2
  go_ret2
  exact ⟨rfl, B3.trans (hb4.mono B3.size)⟩
end Go.Proofs.YtokmllopbfmadabDoor.Pk

/- Open of the program. -/
namespace Go.Proofs.YtokmllopbfmadabDoor.Pk
open Go.RowKit Mem FieldWalks Tab ByTab Parts Ref
open Gf (Bytes)
open Plans (intsV)

set_option maxRecDepth 100000 in
set_option maxHeartbeats 1000000 in
theorem wOpen_err (p : ByteArray) (k : Nat) (hk : 1 ≤ k) (hk2 : k ≤ 100) (hh : ∀ W, Calls Tryd.prog 19 #[.string p] W fun e w' => e = .returned (.tuple #[headV 0 0 0, .int .i64 k]) ∧ Below W.heap.size W w') (w : World) :
    Calls Tryd.prog 10 #[.string p] w fun e w' => e = .returned (.tuple #[headV 0 0 0, .slice none 0 0, .slice none 0 0, .int .i64 k]) ∧ Below w.heap.size w w' := by
  have HH : Hid (∀ W, Calls Tryd.prog 19 #[.string p] W fun e w' => e = .returned (.tuple #[.agg #[.int .i64 0, .int .i64 0, .int .i64 0], .int .i64 k]) ∧ Below W.heap.size W w') := hh
  have e1 : ((k : Int) != 0) = true := by simp; omega
  have e2 : ((k : Int) == 0) = false := by simp; omega
  clear hh
  go_enter Tryd.func10, Tryd.ntmps10
  go_wp2_with fail
  refine Calls.mono (HH.out _) ?_
  rintro e w1 ⟨rfl, hb1⟩
  have R1 : Blk w1 w.heap.size 37 [.int .i64 0, .int .i64 0, .int .i64 0] := (Blk.new w #[.int .i64 0, .int .i64 0, .int .i64 0] 37).to hb1
  have B1 : Below w.heap.size w w1 := ((Below.refl w.heap.size w).alloc (Nat.le_refl _) (.cells #[.int .i64 0, .int .i64 0, .int .i64 0] 37)).trans (hb1.mono (by simp))
  clear hb1
  have R2 := R1.alloc (.cells #[.int .i64 0, .int .i64 0, .int .i64 0] 37)
  have B2 := B1.alloc B1.size (.cells #[.int .i64 0, .int .i64 0, .int .i64 0] 37)
  have q0 := R2.cell_some (k := 0) rfl
  have q1 := R2.cell_some (k := 1) rfl
  have q2 := R2.cell_some (k := 2) rfl
  have f0 := R2.free 0
  have f1 := R2.free 1
  have f2 := R2.free 2
  have HR : Hid (Blk (w1.alloc (.cells #[.int .i64 0, .int .i64 0, .int .i64 0] 37)) w.heap.size 37 [.int .i64 0, .int .i64 0, .int .i64 0]) := R2
  have HB : Hid (Below w.heap.size w (w1.alloc (.cells #[.int .i64 0, .int .i64 0, .int .i64 0] 37))) := B2
  clear R1 B1 R2 B2
  go_wp2
  have hr := (((HR.out.set 0 (.int .i64 0)).set 1 (.int .i64 0)).set 2 (.int .i64 0))
  refine bodyPost_ret (v := .tuple #[headV 0 0 0, .slice none 0 0, .slice none 0 0, .int .i64 k]) (results_row_tmp3 (p := 2) (u := 3) (u2 := 4) (u3 := 5) (ty := 37) (by kernel_rfl) _ _ w.heap.size 37 _ (0, 0) _ rfl hr Tryd.underlying37 rfl infoHead _ _ _ rfl rfl rfl) rfl ⟨rfl, ?_⟩
  exact (((HB.out.setCell (by exact Nat.le_refl _) _).setCell (by exact Nat.le_refl _) _).setCell (by exact Nat.le_refl _) _)
theorem wOpen_no (p : ByteArray) (k : Nat) (hp : p.size < 4611686018427387904) (h : (k = 9 ∧ ¬ headOk p) ∨ (k = 10 ∧ headOk p ∧ ¬ cutOk p)) (w : World) :
    Calls Tryd.prog 10 #[.string p] w fun e w' => e = .returned (.tuple #[headV 0 0 0, .slice none 0 0, .slice none 0 0, .int .i64 k]) ∧ Below w.heap.size w w' := by
  rcases h with ⟨rfl, h⟩ | ⟨rfl, h, hc⟩
  · exact wOpen_err p 9 (by omega) (by omega) (fun W => headOf_no p h hp W) w
  · exact wOpen_err p 10 (by omega) (by omega) (fun W => (headOf_yes p h hp W).mono fun e w' hh => ⟨hh.2.1 hc, hh.2.2⟩) w
set_option maxRecDepth 100000 in
set_option maxHeartbeats 2000000 in
theorem wOpen_ok (p : ByteArray) (hp : p.size < 4611686018427387904) (h : headOk p) (hc : cutOk p) (w : World) :
    Calls Tryd.prog 10 #[.string p] w fun e w' => ∃ b vb, w.heap.size ≤ b ∧ e = .returned (.tuple #[headV (pD p) (pS p) (pN p), .slice (some ⟨b, 0, none⟩) (openPieces p).length (openPieces p).length, vb, .int .i64 0]) ∧ Blk w' b 9 (strV (openPieces p)) ∧ w'.ownsRow w.heap.size 3 1 vb (openBad p).length (intsV (openBad p)) ∧ Below w.heap.size w w' := by
  have HH : Hid (∀ W, Calls Tryd.prog 19 #[.string p] W fun e w' => e = .returned (.tuple #[.agg #[.int .i64 (pD p), .int .i64 (pS p), .int .i64 (pN p)], .int .i64 0]) ∧ Below W.heap.size W w') := fun W => (headOf_yes p h hp W).mono fun e w' hh => ⟨hh.1 hc, hh.2.2⟩
  have hD := h.2.2.2.1
  have hbl : (openBad p).length ≤ pD p + pS p := by
    unfold openBad badTo
    have := List.length_filter_le (badAt p) (List.range (pD p + pS p))
    rwa [List.length_range] at this
  have HBA : Hid (∀ W, Calls Tryd.prog 20 #[.agg #[.int .i64 (pD p), .int .i64 (pS p), .int .i64 (pN p)], .string p, .int .i64 ((pD p : Int) + (pS p : Int))] W fun e w' => ∃ v, e = .returned v ∧ w'.ownsRow W.heap.size 3 1 v (openBad p).length (intsV (openBad p)) ∧ Below W.heap.size W w') := fun W => by
    have := bad_any p hp h hc (pD p + pS p) (by omega) W
    rw [List.take_of_length_le (by omega), Int.natCast_add] at this
    exact this
  have HPI : Hid (∀ W, Calls Tryd.prog 21 #[.agg #[.int .i64 (pD p), .int .i64 (pS p), .int .i64 (pN p)], .string p] W fun e w' => ∃ b, W.heap.size ≤ b ∧ e = .returned (.slice (some ⟨b, 0, none⟩) (openPieces p).length (openPieces p).length) ∧ Blk w' b 9 (strV (openPieces p)) ∧ Below W.heap.size W w') := fun W => pieces_any p hp h hc W
  generalize openPieces p = P at HPI ⊢
  generalize openBad p = bad at HBA ⊢
  generalize pD p = D at HH HBA HPI hD ⊢
  generalize pS p = S at HH HBA HPI hD ⊢
  generalize pN p = N at HH HBA HPI ⊢
  clear h hc hbl
  go_enter Tryd.func10, Tryd.ntmps10
  go_wp2_with fail
  refine Calls.mono (HH.out _) ?_
  rintro e w1 ⟨rfl, hb1⟩
  have R1 : Blk w1 w.heap.size 37 [.int .i64 0, .int .i64 0, .int .i64 0] := (Blk.new w #[.int .i64 0, .int .i64 0, .int .i64 0] 37).to hb1
  have B1 : Below w.heap.size w w1 := ((Below.refl w.heap.size w).alloc (Nat.le_refl _) (.cells #[.int .i64 0, .int .i64 0, .int .i64 0] 37)).trans (hb1.mono (by simp))
  clear hb1
  have R2 := R1.alloc (.cells #[.int .i64 D, .int .i64 S, .int .i64 N] 37)
  have B2 := B1.alloc B1.size (.cells #[.int .i64 D, .int .i64 S, .int .i64 N] 37)
  have O2 := Blk.new w1 #[.int .i64 D, .int .i64 S, .int .i64 N] 37
  have hRO : w.heap.size ≠ w1.heap.size := by have := R1.lt; omega
  have HW2 : Hid (∃ W2, W2 = w1.alloc (.cells #[.int .i64 D, .int .i64 S, .int .i64 N] 37)) := ⟨_, rfl⟩
  clear R1 B1
  go_wp2_with fail
  generalize w1.alloc (.cells #[.int .i64 D, .int .i64 S, .int .i64 N] 37) = w2 at R2 B2 O2 ⊢
  generalize w1.heap.size = O at O2 hRO ⊢
  clear HW2
  refine Calls.mono (HBA.out _) ?_
  rintro e w3 ⟨v, rfl, ho3, hb3⟩
  obtain ⟨ao, c, rfl⟩ := owns_slice ho3
  have R3 := R2.to hb3
  have O3 := O2.to hb3
  have B3 := B2.trans (hb3.mono B2.size)
  have HOB : Hid (w3.ownsRow w.heap.size 3 1 (.slice ao bad.length c) bad.length (intsV bad)) := owns_less ho3 B2.size
  obtain ⟨R, hR⟩ : ∃ R, R = w.heap.size := ⟨_, rfl⟩
  have HRE : Hid (R = w.heap.size) := hR
  rw [← hR] at R3 B3 hRO ⊢
  have HR3 : Hid (Blk w3 R 37 [.int .i64 0, .int .i64 0, .int .i64 0]) := R3
  have HO3 : Hid (Blk w3 O 37 [.int .i64 D, .int .i64 S, .int .i64 N]) := O3
  have HB3 : Hid (Below R w w3) := B3
  have hRlt : R < w3.heap.size := R3.lt
  have hOlt : O < w3.heap.size := O3.lt
  have hOR : O ≠ R := fun e => hRO e.symm
  have z0 := O3.drew.cell_some (k := 0) rfl
  have z1 := O3.drew.cell_some (k := 1) rfl
  have z2 := O3.drew.cell_some (k := 2) rfl
  clear R2 B2 O2 R3 O3 B3 ho3 hb3 hR HBA HH
  go_wp2_with fail
  go_region_held3 (fun wx => wx.cell? ⟨O, 0, none⟩ = some (.int .i64 (D : Int)) ∧ wx.cell? ⟨O, 1, none⟩ = some (.int .i64 (S : Int)) ∧ wx.cell? ⟨O, 2, none⟩ = some (.int .i64 (N : Int))) (go_keep) (first | (go_at_call 21; refine Calls.mono (HPI.out _) ?_; rintro e w4 ⟨pb, hpb, rfl, hpblk, hb4⟩; have o0 := (hb4.cell (p := ⟨O, 0, none⟩) hOlt).trans z0; have o1 := (hb4.cell (p := ⟨O, 1, none⟩) hOlt).trans z1; have o2 := (hb4.cell (p := ⟨O, 2, none⟩) hOlt).trans z2; have R4 := HR3.out.drew.to hb4; have q0 := R4.cell_some (k := 0) rfl; have q1 := R4.cell_some (k := 1) rfl; have q2 := R4.cell_some (k := 2) rfl; have f0 := R4.free 0; have f1 := R4.free 1; have f2 := R4.free 2))
  have B34 : Below w3.heap.size w3 w4 := (Below.refl w3.heap.size w3).drew.trans hb4
  have HB4 : Hid (Below R w w4) := HB3.out.trans (B34.mono (Nat.le_of_lt hRlt))
  have HO4 : Hid (w4.ownsRow w.heap.size 3 1 (.slice ao bad.length c) bad.length (intsV bad)) := ownsRow_to HOB.out B34
  have HP4 : Hid (Blk w4 pb 9 (strV P)) := hpblk
  have HR4 : Hid (Blk w4 R 37 [.int .i64 0, .int .i64 0, .int .i64 0]) := R4
  have hpb2 : R ≤ pb := Nat.le_trans (Nat.le_of_lt hRlt) hpb
  clear B34 hb4 hpblk R4
  go_wp2_with fail
  have a0 := HR4.out
  have a1 := a0.set 0 (.int .i64 D)
  have a2 := a1.set 1 (.int .i64 S)
  have a3 := a2.set 2 (.int .i64 N)
  have hne : pb ≠ R := HP4.out.type_ne HR4.out (by decide)
  refine bodyPost_ret (v := .tuple #[headV D S N, .slice (some ⟨pb, 0, none⟩) P.length P.length, .slice ao bad.length c, .int .i64 0]) (results_row_tmp3 (p := 2) (u := 3) (u2 := 4) (u3 := 5) (ty := 37) (by kernel_rfl) _ _ R 37 _ (0, 0) _ rfl a3 Tryd.underlying37 rfl infoHead _ _ _ rfl rfl rfl) rfl ?_
  exact ⟨pb, _, by rw [← HRE.out]; exact hpb2, rfl, (((HP4.out.other (a := ⟨R, 0, none⟩) hne (.int .i64 D)).other (a := ⟨R, 1, none⟩) hne (.int .i64 S)).other (a := ⟨R, 2, none⟩) hne (.int .i64 N)), (owns_set (owns_set (owns_set HO4.out a0 (by decide) 0 (.int .i64 D)) a1 (by decide) 1 (.int .i64 S)) a2 (by decide) 2 (.int .i64 N)), by rw [← HRE.out]; exact (((HB4.out.setCell (by exact Nat.le_refl _) _).setCell (by exact Nat.le_refl _) _).setCell (by exact Nat.le_refl _) _)⟩
end Go.Proofs.YtokmllopbfmadabDoor.Pk

/- sorted: numbers, rising. -/
namespace Go.Proofs.YtokmllopbfmadabDoor.KeepW
open Go.RowKit Mem FieldWalks Tab ByTab Parts Ref
open Plans (wpList_append_row made_cells owns_form infoInt grown_keeps intsV)

/-- How often n stands among the first i. -/
def sortIn (raw : List Int) (n : Nat) : Nat → List Nat
  | 0 => []
  | i + 1 => if raw.getD i 0 = (n : Int) then sortIn raw n i ++ [n] else sortIn raw n i
def sortTo (raw : List Int) : Nat → List Nat
  | 0 => []
  | n + 1 => sortTo raw n ++ sortIn raw n raw.length
theorem sortIn_le (raw : List Int) (n i : Nat) : (sortIn raw n i).length ≤ i := by
  induction i with
  | zero => simp [sortIn]
  | succ i ih =>
    unfold sortIn
    split
    · rw [List.length_append, List.length_singleton]; omega
    · omega
theorem sortTo_le (raw : List Int) (n : Nat) : (sortTo raw n).length ≤ n * raw.length := by
  induction n with
  | zero => simp [sortTo]
  | succ n ih =>
    unfold sortTo
    have := sortIn_le raw n raw.length
    rw [List.length_append, Nat.succ_mul]; omega
theorem sortIn_not (raw : List Int) (n i : Nat) (h : ∀ j, j < i → raw.getD j 0 ≠ (n : Int)) : sortIn raw n i = [] := by
  induction i with
  | zero => rfl
  | succ i ih => rw [sortIn, if_neg (h i (by omega))]; exact ih fun j hj => h j (by omega)
theorem sortIn_once (l : List Nat) (hnd : l.Nodup) (n : Nat) : ∀ i, i ≤ l.length → sortIn (l.map Int.ofNat) n i = if n ∈ l.take i then [n] else [] := by
  intro i
  induction i with
  | zero => intro _; simp [sortIn]
  | succ i ih =>
    intro hi
    have hi' : i < l.length := by omega
    have e : (l.map Int.ofNat).getD i 0 = ((l[i] : Nat) : Int) := by simp [hi']
    rw [sortIn, ih (by omega), e, List.take_add_one, List.getElem?_eq_getElem hi', Option.toList_some]
    by_cases h : l[i] = n
    · have hn : n ∉ l.take i := by
        intro hm
        obtain ⟨q, hq, e2⟩ := List.mem_iff_getElem.1 hm
        have hq' : q < i := by simp at hq; omega
        rw [List.getElem_take] at e2
        rw [List.Nodup, List.pairwise_iff_getElem] at hnd
        exact hnd q i (by omega) hi' hq' (e2.trans h.symm)
      rw [if_pos (by rw [h]), if_neg hn, if_pos (by rw [h]; simp)]; rfl
    · have h2 : ¬ ((l[i] : Nat) : Int) = (n : Int) := by omega
      have h3 : ¬ n = l[i] := fun h' => h h'.symm
      have hiff : (n ∈ l.take i ++ [l[i]]) = (n ∈ l.take i) := propext ⟨fun hm => (List.mem_append.1 hm).elim id fun hm => absurd (List.mem_singleton.1 hm) h3, fun hm => List.mem_append_left _ hm⟩
      rw [if_neg h2]
      simp only [hiff]
theorem sortTo_filter (l : List Nat) (hnd : l.Nodup) (n : Nat) : sortTo (l.map Int.ofNat) n = (List.range n).filter (fun k => decide (k ∈ l)) := by
  induction n with
  | zero => rfl
  | succ n ih =>
    rw [sortTo, ih, List.length_map, sortIn_once l hnd n l.length (Nat.le_refl _), List.take_length, List.range_succ, List.filter_append]
    by_cases h : n ∈ l
    · simp [h]
    · simp [h]
set_option maxRecDepth 100000 in
set_option maxHeartbeats 1000000 in
theorem ksorted_any (raw : List Int) (rv : Value) (w : World) (hr : IsC w rv raw) (hrl : raw.length ≤ 16) :
    Calls Tryd.prog 9 #[rv] w fun e w' => ∃ v, e = .returned v ∧ w'.ownsRow w.heap.size 3 1 v (sortTo raw 16).length (intsV (sortTo raw 16)) ∧ Below w.heap.size w w' := by
  obtain ⟨ao, ex, rfl, hc⟩ := hr
  have HC : Hid (raw = [] ∨ ∃ b off, ao = some ⟨b, off, none⟩ ∧ b < w.heap.size ∧ ∀ k, (h : k < raw.length) → w.cell? ⟨b, off + k, none⟩ = some (.int .i64 raw[k])) := hc
  clear hc
  go_enter Tryd.func9, Tryd.ntmps9
  go_wp2
  go_loopw [3, 4] (fun t nv wr => ∃ n : Nat, n ≤ 16 ∧ nv = .int .i64 n ∧ wr.ownsRow w.heap.size 3 1 t (sortTo raw n).length (intsV (sortTo raw n)) ∧ Below w.heap.size w wr) (fun _ nv _ => 16 - (intOf nv).toNat)
  case atStart => exact ⟨0, Nat.zero_le _, rfl, World.ownsRow_nil _ _ _ _, Below.refl _ _⟩
  case round =>
    obtain ⟨n, hn, rfl, hown, hbel⟩ := hrel
    by_cases hlt : n < 16
    · have e1 : decide ((n : Int) < (16 : Int)) = true := decide_eq_true (by omega)
      obtain ⟨ss, hss⟩ : ∃ ss, ss = sortTo raw n := ⟨_, rfl⟩
      have hsl : ss.length ≤ 256 := by rw [hss]; have := sortTo_le raw n; have : n * raw.length ≤ 16 * 16 := Nat.mul_le_mul (by omega) hrl; omega
      have HSS : Hid (ss = sortTo raw n) := hss
      rw [← hss] at hown
      obtain ⟨ta0, tc0, rfl⟩ := owns_form hown
      have HOW0 : Hid (wr.ownsRow w.heap.size 3 1 (.slice ta0 ss.length tc0) (ss ++ sortIn raw n 0).length (intsV (ss ++ sortIn raw n 0))) := by
        show wr.ownsRow _ _ _ _ _ _
        simpa [sortIn] using hown
      have HBW : Hid (Below w.heap.size w wr) := hbel
      clear hss hown hbel
      go_wp2
      go_loopw [3, 5] (fun t iv wi => ∃ i : Nat, i ≤ raw.length ∧ iv = .int .i64 i ∧ wi.ownsRow w.heap.size 3 1 t (ss ++ sortIn raw n i).length (intsV (ss ++ sortIn raw n i)) ∧ Below w.heap.size w wi) (fun _ iv _ => raw.length - (intOf iv).toNat)
      case atStart => exact ⟨0, Nat.zero_le _, rfl, HOW0.out, HBW.out⟩
      case round =>
        obtain ⟨i, hi, rfl, hown, hbel⟩ := hrel
        have hsz := hbel.size
        obtain ⟨l, hl⟩ : ∃ l, l = ss ++ sortIn raw n i := ⟨_, rfl⟩
        have hlm : l.length ≤ 300 := by rw [hl, List.length_append]; have := sortIn_le raw n i; omega
        have HL : Hid (l = ss ++ sortIn raw n i) := hl
        rw [← hl] at hown
        obtain ⟨ta, tc, rfl⟩ := owns_form hown
        clear hl
        by_cases hir : i < raw.length
        · have e2 : decide ((i : Int) < (raw.length : Int)) = true := decide_eq_true (by omega)
          obtain ⟨b, off, rfl, hblt, hc⟩ : ∃ b off, ao = some ⟨b, off, none⟩ ∧ b < w.heap.size ∧ ∀ k, (h : k < raw.length) → w.cell? ⟨b, off + k, none⟩ = some (.int .i64 raw[k]) := by
            rcases HC.out with h | h
            · rw [h] at hir; simp at hir
            · exact h
          have c1 := hc i hir
          rw [← hbel.cell (p := ⟨b, off + i, none⟩) hblt] at c1
          obtain ⟨c, hcc⟩ : ∃ c, c = raw[i] := ⟨_, rfl⟩
          rw [← hcc] at c1
          have hg : raw.getD i 0 = c := by rw [hcc]; simp [hir]
          by_cases hcn : c = (n : Int)
          · have e3 : (c == (n : Int)) = true := by simp [hcn]
            have HN2 : Hid (ss ++ sortIn raw n (i + 1) = l ++ [n]) := by show _ = _; rw [sortIn, hg, if_pos hcn, HL.out, List.append_assoc]
            have HNC : Hid (intsV l ++ [.int .i64 (n : Int)] = intsV (l ++ [n])) := by show _ = _; simp [intsV]
            clear hc hcc hg hcn
            go_wp2_with (at_builtin; refine wpList_append_row _ rfl _ _ 32 rfl w.heap.size 3 (.int .i64 0) 1 8 Tryd.underlying32 infoInt rfl (by decide) (by decide) _ _ _ rfl (by exact hown.alloc _) ⟨_, 0, none⟩ 1 [.int .i64 (n : Int)] rfl rfl (made_cells _ 3 _) (by simp [Value.oneCell']) (by omega) (by simp; omega) ?_; rw [HNC.out]; intro v' w3 hown' hg hbel')
            have HB3 : Hid (Below w.heap.size w w3) := hbel' _ _ (hbel.alloc hsz _) (Nat.le_refl _)
            have HO3 : Hid (w3.ownsRow w.heap.size 3 1 v' (ss ++ sortIn raw n (i + 1)).length (intsV (ss ++ sortIn raw n (i + 1)))) := by
              show w3.ownsRow _ _ _ _ _ _
              rw [HN2.out]; simpa using hown'
            clear hg hbel' hown'
            go_roundw
            case rel => exact ⟨i + 1, by omega, by go_num, HO3.out, HB3.out⟩
            case measure => simp [intOf]; omega
          · have e3 : (c == (n : Int)) = false := by simp [hcn]
            have HN2 : Hid (ss ++ sortIn raw n (i + 1) = l) := by show _ = _; rw [sortIn, hg, if_neg hcn, HL.out]
            clear hc hcc hg hcn
            go_wp2
            go_roundw
            case rel => exact ⟨i + 1, by omega, by go_num, by rw [HN2.out]; exact hown, hbel⟩
            case measure => simp [intOf]; omega
        · obtain rfl : i = raw.length := by omega
          have e2 : decide ((raw.length : Int) < (raw.length : Int)) = false := decide_eq_false (by omega)
          have HN2 : Hid (sortTo raw (n + 1) = l) := by show _ = _; rw [sortTo, HL.out, HSS.out]
          go_wp2
          go_roundw
          case rel => exact ⟨n + 1, by omega, by go_num, by rw [HN2.out]; exact hown, hbel⟩
          case measure => simp [intOf]; omega
    · obtain rfl : n = 16 := by omega
      go_wp2
      go_ret
      exact ⟨_, rfl, hown, hbel⟩
end Go.Proofs.YtokmllopbfmadabDoor.KeepW
