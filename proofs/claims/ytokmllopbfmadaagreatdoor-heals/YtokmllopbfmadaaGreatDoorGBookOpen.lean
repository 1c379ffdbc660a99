import Derived.Laws.StructEq
import Derived.Test.YtokmllopbfmadaaGreatDoorGBookN4
import Derived.Test.YtokmllopbfmadaaGreatDoorGPkMend
import Derived.Test.YtokmllopbfmadaaGreatDoorGRefOpen3
import Derived.Test.YtokmllopbfmadaaGreatDoorGWGather
import Derived.Test.YtokmllopbfmadaaGreatDoorGPChange
import Derived.Test.YtokmllopbfmadaaGreatDoorGSpread
/- Open of the program and of the document, held against each other in the book. -/
namespace Go.Proofs.YtokmllopbfmadaaGreatDoor.BookN
open Go.RowKit Mem FieldWalks Tab ByTab Parts Ref Plans Top
open Pk (headV)

/-- The lists that Open answers: pieces in a block of their own, or none. -/
def PiecesAt (w : World) (B : Nat) (v : Value) (P : List ByteArray) : Prop :=
  (P = [] ∧ v = .slice none 0 0) ∨ ∃ b, B ≤ b ∧ v = .slice (some ⟨b, 0, none⟩) P.length P.length ∧ Blk w b 9 (strV P)
/-- What the program's Open answers and what the document's does. -/
def OpenBoth (p : ByteArray) : Prop := ∃ (D S N er : Nat) (P : List ByteArray) (bad : List Nat), P.length ≤ 16 ∧ bad.length ≤ 16 ∧ er ≤ 10 ∧
    (∀ w, Calls Tryz.prog 28 #[.string p] w fun e w' => ∃ lv bv, e = .returned (.tuple #[headV D S N, lv, bv, .int .i64 er]) ∧ PiecesAt w' w.heap.size lv P ∧ w'.ownsRow w.heap.size 3 1 bv bad.length (intsV bad) ∧ Below w.heap.size w w') ∧
    (∀ w, Calls Tryz.prog 29 #[.string p] w fun e w' => ∃ v1 v2, e = .returned (.tuple #[.agg #[.int .i64 D, .int .i64 S, .int .i64 N, v1, v2], .int .i64 er]) ∧ (∃ a n c, v1 = .slice a n c) ∧ StrsAt w' v1 P ∧ w'.ownsRow w.heap.size 3 1 v2 bad.length (intsV bad) ∧ Below w.heap.size w w')
theorem open_no (p : ByteArray) (k : Nat) (hk : k ≤ 10) (h1 : ∀ w, Calls Tryz.prog 28 #[.string p] w fun e w' => e = .returned (.tuple #[headV 0 0 0, .slice none 0 0, .slice none 0 0, .int .i64 k]) ∧ Below w.heap.size w w')
    (h2 : ∀ w, Calls Tryz.prog 29 #[.string p] w fun e w' => e = .returned (.tuple #[noOpened, .int .i64 k]) ∧ Below w.heap.size w w') : OpenBoth p :=
  ⟨0, 0, 0, k, [], [], by simp, by simp, hk, fun w => (h1 w).mono fun e w' hh => ⟨_, _, hh.1, .inl ⟨rfl, rfl⟩, World.ownsRow_nil _ _ _ _, hh.2⟩,
    fun w => (h2 w).mono fun e w' hh => ⟨_, _, hh.1, ⟨_, _, _, rfl⟩, ⟨none, 0, rfl, .inl rfl⟩, World.ownsRow_nil _ _ _ _, hh.2⟩⟩
theorem open_both (p : ByteArray) (hp : p.size < 4611686018427387904) : OpenBoth p := by
  by_cases h : headOk p
  · by_cases hc : cutOk p
    · have hD := h.2.2.2.1
      have hbl : (openBad p).length ≤ pD p + pS p := by
        unfold openBad badTo
        have := List.length_filter_le (badAt p) (List.range (pD p + pS p))
        rwa [List.length_range] at this
      refine ⟨pD p, pS p, pN p, 0, openPieces p, openBad p, by simp [openPieces, piecesTo]; omega, by omega, by omega, fun w => (Pk.wOpen_ok p hp h hc w).mono fun e w' hh => ?_, fun w => (rOpen_ok p hp h hc w).mono fun e w' hh => ?_⟩
      · obtain ⟨b, vb, hb, rfl, h1, h2, h3⟩ := hh
        exact ⟨_, _, rfl, .inr ⟨b, hb, rfl, h1⟩, h2, h3⟩
      · obtain ⟨v1, v2, rfl, h1, h2, h3⟩ := hh
        obtain ⟨a, c, rfl⟩ := owns_slice h1
        exact ⟨_, _, rfl, ⟨_, _, _, rfl⟩, StrsAt.of_owns h1, h2, h3⟩
    · exact open_no p 10 (by omega) (fun w => Pk.wOpen_no p 10 hp (.inr ⟨rfl, h, hc⟩) w) (fun w => rOpen_cut p hp h hc w)
  · exact open_no p 9 (by omega) (fun w => Pk.wOpen_no p 9 hp (.inl ⟨rfl, h⟩) w) (fun w => rOpen_head p hp h w)
theorem keeps_blk {w w' : World} {g : Nat} {t : TypeId} {us : List Value} (h : Blk w g t us) (e : w'.heap[g]? = w.heap[g]?) : Blk w' g t us := by unfold Blk; rw [e]; exact h
set_option maxRecDepth 100000 in
set_option maxHeartbeats 2000000 in
theorem opened_any (B b c : Nat) (p : ByteArray) (hp : p.size < 4611686018427387904) (w : World) (hbook : BookAt w B b c w.heap.size w.heap.size) (hc : c ≤ 7) :
    Calls Tryz.prog 17 #[.pointer (some ⟨b, 0, none⟩), .string p] w fun e w' => e = .returned (.bool true) ∧ BookAt w' B b (c + 2) w'.heap.size w'.heap.size ∧ Below B w w' := by
  obtain ⟨D, S, N, er, P, bad, hP, hbad, her, h1, h2⟩ := open_both p hp
  have H1 : Hid _ := h1
  have H2 : Hid _ := h2
  have HB : Hid (BookAt w B b c w.heap.size w.heap.size) := hbook
  have hBb := hbook.1
  have hblt : b < w.heap.size := by obtain ⟨_, kv, es, _, h, _⟩ := hbook; exact h.lt
  unfold headV at H1
  clear hbook h1 h2
  go_enter Tryz.func17, Tryz.ntmps17
  go_wp2_with fail
  refine Calls.mono (H1.out _) ?_
  rintro e w1 ⟨lv, bv, rfl, hlv, hbv, hb1⟩
  obtain ⟨bo, bc, rfl⟩ := owns_slice hbv
  obtain ⟨lo, rfl⟩ : ∃ lo, lv = .slice lo P.length P.length := by
    rcases hlv with ⟨h, rfl⟩ | ⟨b, _, rfl, _⟩
    · exact ⟨none, by rw [h]; rfl⟩
    · exact ⟨_, rfl⟩
  go_wp2_with fail
  generalize hw2 : w1.alloc _ = w2
  have K2 : Blk w2 w1.heap.size 47 [.int .i64 D, .int .i64 S, .int .i64 N] := by rw [← hw2]; exact Blk.new w1 _ _
  have b12 : Below w1.heap.size w1 w2 := by rw [← hw2]; exact (Below.refl _ _).alloc (Nat.le_refl _) _
  have B2 : Below w.heap.size w w2 := hb1.trans (b12.mono hb1.size)
  have HLV : Hid (PiecesAt w2 w.heap.size (.slice lo P.length P.length) P) := by
    rcases hlv with h | ⟨b, h1, h2, h3⟩
    · exact .inl h
    · exact .inr ⟨b, h1, h2, h3.to b12⟩
  have HBV : Hid (w2.ownsRow w.heap.size 3 1 (.slice bo bad.length bc) bad.length (intsV bad)) := ownsRow_to hbv b12
  generalize w1.heap.size = HH at K2 ⊢
  have HK2 : Hid (Blk w2 HH 47 [.int .i64 D, .int .i64 S, .int .i64 N]) := K2
  have HB2 : Hid (Below w.heap.size w w2) := B2
  clear hw2 hlv hbv hb1 b12 K2 B2
  refine Calls.mono (H2.out _) ?_
  rintro e w3 ⟨v1, v2, rfl, ⟨o1, n1, c1, rfl⟩, hst3, hbv3, hb3⟩
  obtain ⟨o2, c2, rfl⟩ := owns_slice hbv3
  obtain ⟨w4, hw4⟩ : ∃ w4, w4 = w3.alloc (.cells #[.int .i64 D, .int .i64 S, .int .i64 N, .slice o1 n1 c1, .slice o2 bad.length c2] 54) := ⟨_, rfl⟩
  have O4 : Blk w4 w3.heap.size 54 [.int .i64 D, .int .i64 S, .int .i64 N, .slice o1 n1 c1, .slice o2 bad.length c2] := by rw [hw4]; exact Blk.new w3 _ _
  have b34 : Below w3.heap.size w3 w4 := by rw [hw4]; exact (Below.refl _ _).alloc (Nat.le_refl _) _
  have b24 : Below w2.heap.size w2 w4 := hb3.trans (b34.mono hb3.size)
  have HW4 : Hid (w3.alloc (.cells #[.int .i64 D, .int .i64 S, .int .i64 N, .slice o1 n1 c1, .slice o2 bad.length c2] 54) = w4) := hw4.symm
  have HK4 : Hid (Blk w4 HH 47 [.int .i64 D, .int .i64 S, .int .i64 N]) := HK2.out.to b24
  have HB4 : Hid (Below w.heap.size w w4) := HB2.out.trans (b24.mono HB2.out.size)
  have HLV4 : Hid (PiecesAt w4 w.heap.size (.slice lo P.length P.length) P) := by
    rcases HLV.out with h | ⟨b, h1, h2, h3⟩
    · exact .inl h
    · exact .inr ⟨b, h1, h2, h3.to b24⟩
  have HBV4 : Hid (w4.ownsRow w.heap.size 3 1 (.slice bo bad.length bc) bad.length (intsV bad)) := ownsRow_to HBV.out b24
  have HST4 : Hid (StrsAt w4 (.slice o1 n1 c1) P) := hst3.to b34
  have HRV4 : Hid (w4.ownsRow w2.heap.size 3 1 (.slice o2 bad.length c2) bad.length (intsV bad)) := ownsRow_to hbv3 b34
  have HSL4 : Hid (StrsAt w4 (.slice lo P.length P.length) P) := by
    rcases HLV4.out with ⟨h1, h2⟩ | ⟨b, _, h2, h3⟩
    · injection h2 with h2
      rw [h2, h1]; exact ⟨none, 0, rfl, .inl rfl⟩
    · rw [h2]; exact StrsAt.of_blk h3 _ _ rfl
  have y3 := O4.cell_some (k := 3) rfl
  have y4 := O4.cell_some (k := 4) rfl
  have HO4 : Hid (Blk w4 w3.heap.size 54 [.int .i64 D, .int .i64 S, .int .i64 N, .slice o1 n1 c1, .slice o2 bad.length c2]) := O4
  clear hw4 O4 b34 b24 hst3 hbv3 hb3 HK2 HB2 HLV HBV
  go_wp2_with fail
  rw [HW4.out]
  obtain ⟨O, hOe⟩ : ∃ O, O = w3.heap.size := ⟨_, rfl⟩
  rw [← hOe] at y3 y4 HO4 ⊢
  clear HW4 hOe
  refine Calls.mono (Book.sameT_yes P _ _ _ HSL4.out HST4.out (by omega)) ?_
  rintro e w5 ⟨rfl, n5, rfl⟩
  have z4 : (w4.drewN n5).cell? ⟨O, 4, none⟩ = some (.slice o2 bad.length c2) := y4
  have b45 : Below w4.heap.size w4 (w4.drewN n5) := below_drewN (Below.refl _ _) n5
  generalize hw5 : w4.drewN n5 = w5 at z4 b45 ⊢
  have HI5 : Hid (IntsAt w5 (.slice bo bad.length bc) bad) := IntsAt.of_owns (ownsRow_to HBV4.out b45)
  have HJ5 : Hid (IntsAt w5 (.slice o2 bad.length c2) bad) := IntsAt.of_owns (ownsRow_to HRV4.out b45)
  clear y3 y4 hw5
  go_wp2_with fail
  refine Calls.mono (sameI_yes bad _ _ _ HI5.out HJ5.out (by omega)) ?_
  rintro e w6 ⟨rfl, n6, rfl⟩
  have b46 : Below w4.heap.size w4 (w5.drewN n6) := b45.trans (below_drewN (Below.refl _ _) n6)
  generalize hw6 : w5.drewN n6 = w6 at b46 ⊢
  have B6 : Below w.heap.size w w6 := HB4.out.trans (b46.mono HB4.out.size)
  have HK6 : Hid (Blk w6 HH 47 [.int .i64 D, .int .i64 S, .int .i64 N]) := HK4.out.to b46
  have HO6 : Hid (Blk w6 O 54 [.int .i64 D, .int .i64 S, .int .i64 N, .slice o1 n1 c1, .slice o2 bad.length c2]) := HO4.out.to b46
  have HV6 : Hid (w6.ownsRow w.heap.size 3 1 (.slice bo bad.length bc) bad.length (intsV bad)) := ownsRow_to HBV4.out b46
  have hBw : B ≤ w.heap.size := by omega
  have HTX : Hid (Calls Tryz.prog 31 #[.pointer (some ⟨b, 0, none⟩), .slice lo P.length P.length] w6 fun e w' => e = .returned (.tuple #[]) ∧ BookAt w' B b (c + 1) w'.heap.size w.heap.size ∧ Below B w6 w' ∧ ∀ g t us, t ≠ 9 → t ≠ 25 → t ≠ 61 → Blk w6 g t us → w'.heap[g]? = w6.heap[g]?) := by
    rcases HLV4.out with ⟨h1, h2⟩ | ⟨lb, h1, h2, h3⟩
    · injection h2 with h2
      subst h2
      exact texts_any B b c w.heap.size w.heap.size P.length none [] w6 (HB.out.to B6) (by omega) (by omega) hBw hBw (by simp [h1]) (.inl ⟨by simp [h1], rfl⟩)
    · injection h2 with h2
      subst h2
      exact texts_any B b c lb w.heap.size P.length (some ⟨lb, 0, none⟩) (strV P) w6 ((HB.out.to B6).mono h1 (Nat.le_refl _)) (by omega) (by omega) (by omega) hBw (by simp [strV]) (.inr ⟨rfl, h3.to b46⟩)
  have HB6 : Hid (Below w.heap.size w w6) := B6
  clear z4 b45 b46 hw6 HLV4 HBV4 HST4 HRV4 HSL4 HK4 HO4 HI5 HJ5 B6 HB4
  go_wp2_with fail
  refine Calls.mono HTX.out ?_
  rintro e w7 ⟨rfl, hbk7, hb7, hs7⟩
  have HK7 : Hid (Blk w7 HH 47 [.int .i64 D, .int .i64 S, .int .i64 N]) := keeps_blk HK6.out (hs7 _ _ _ (by decide) (by decide) (by decide) HK6.out)
  have HO7 : Hid (Blk w7 O 54 [.int .i64 D, .int .i64 S, .int .i64 N, .slice o1 n1 c1, .slice o2 bad.length c2]) := keeps_blk HO6.out (hs7 _ _ _ (by decide) (by decide) (by decide) HO6.out)
  have hv7 : w7.ownsRow w.heap.size 3 1 (.slice bo bad.length bc) bad.length (intsV bad) := Book.ownsRow_kept HV6.out fun g cur hg => hs7 g 3 cur.toList (by decide) (by decide) (by decide) (by unfold Blk; rw [hg])
  have HB7 : Hid (Below B w w7) := (HB6.out.mono hBw).trans hb7
  have hs7' : w.heap.size ≤ w7.heap.size := Nat.le_trans HB6.out.size hb7.size
  have HNU : Hid _ := numbers_any B b (c + 1) w7.heap.size w.heap.size bad.length (.slice bo bad.length bc) (intsV bad) w7 hbk7 (by omega) (by omega) (by omega) hBw hv7
  clear hbk7 hb7 hs7 hv7 HTX HK6 HO6 HV6 HB6
  go_wp2_with fail
  refine Calls.mono HNU.out ?_
  rintro e w8 ⟨rfl, hbk8, hb8, hr8, hs8⟩
  have hK8 := keeps_blk HK7.out (hs8 _ _ _ (by decide) (by decide) (by decide) HK7.out)
  have hO8 := keeps_blk HO7.out (hs8 _ _ _ (by decide) (by decide) (by decide) HO7.out)
  have HBK8 : Hid (BookAt w8 B b (c + 1 + 1) w8.heap.size w8.heap.size) := hbk8.mono hb8.size (Nat.le_refl _)
  have HB8 : Hid (Below B w w8) := HB7.out.trans hb8
  have k0 := hK8.cell_some (k := 0) rfl
  have k1 := hK8.cell_some (k := 1) rfl
  have k2 := hK8.cell_some (k := 2) rfl
  have x0 := hO8.cell_some (k := 0) rfl
  have x1 := hO8.cell_some (k := 1) rfl
  have x2 := hO8.cell_some (k := 2) rfl
  clear hbk8 hb8 hr8 hs8 hK8 hO8 HNU HK7 HO7 HB7
  go_wp2_with fail
  refine (num_any _ _).mono ?_
  rintro e w' ⟨rfl, hw⟩
  obtain rfl : w8 = w' := hw.symm
  go_wp2
  go_ret
  exact ⟨rfl, HBK8.out, HB8.out⟩
end Go.Proofs.YtokmllopbfmadaaGreatDoor.BookN

/- Pack, Read and Heal of the program. -/
namespace Go.Proofs.YtokmllopbfmadaaGreatDoor.Pk
open Go.RowKit Mem FieldWalks Tab ByTab Parts Ref Top
open Gf (Bytes Fits chosen left_)
open Plans (intsV)

set_option maxRecDepth 100000 in
set_option maxHeartbeats 1000000 in
theorem wPack_ok (hS : SumsOk) (d s x : Nat) (T : ByteArray) (hd : 1 ≤ d) (hd2 : d ≤ 10) (hs : s ≤ 6) (hx : x ≤ 2) (hn : T.size ≤ 400) (w : World) (ht : Table w) :
    Calls Tryz.prog 15 #[.int .i64 d, .int .i64 s, .int .i64 x, .string T] w fun e w' => e = .returned (.tuple #[.string (packS d s T.size (pieces d s T)), .int .i64 0]) ∧ Below w.heap.size w w' := by
  have HSP : Hid _ := wSpread_ok hS d s x T hd hd2 hs hx hn w ht
  have hLs := ceil_le T.size d hd
  have HWR : Hid (∀ W v, StrsAt W v (pieces d s T) → Calls Tryz.prog 20 #[.agg #[.int .i64 d, .int .i64 s, .int .i64 T.size], v] W fun e w' => e = .returned (.string (packS d s T.size (pieces d s T))) ∧ Below W.heap.size W w') := fun W v hv =>
    write_any d s T.size (pieces d s T) v (by rw [pieces_length]; omega) (fun p h => by rw [pieces_sizes]; omega) W hv
  have HPL : Hid ((pieces d s T).length = d + s) := pieces_length d s T
  generalize packS d s T.size (pieces d s T) = out at HWR ⊢
  generalize pieces d s T = P at HSP HWR HPL
  clear ht hLs
  go_enter Tryz.func15, Tryz.ntmps15
  go_wp2_with fail
  refine Calls.mono HSP.out ?_
  rintro e w1 ⟨b, hb, rfl, hblk, hb1⟩
  have HST : Hid (StrsAt (w1.alloc (.cells #[.int .i64 d, .int .i64 s, .int .i64 T.size] 47)) (.slice (some ⟨b, 0, none⟩) (d + s) (d + s)) P) := (StrsAt.of_blk hblk _ _ HPL.out.symm).to ((Below.refl _ _).alloc (Nat.le_refl _) _)
  clear hblk
  go_wp2_with fail
  refine Calls.mono (HWR.out _ _ HST.out) ?_
  rintro e w2 ⟨rfl, hb2⟩
  go_wp2
  go_ret2
  exact ⟨rfl, (hb1.alloc hb1.size _).trans (hb2.mono (by have := hb1.size; simp; omega))⟩
set_option maxRecDepth 100000 in
theorem wPack_no (d s x : Int) (T : ByteArray) (hlen : T.size ≤ maxLen) (hE : spreadE d s x T.size ≠ 0) (w : World) :
    Calls Tryz.prog 15 #[.int .i64 d, .int .i64 s, .int .i64 x, .string T] w fun e w' => e = .returned (.tuple #[.string ByteArray.empty, .int .i64 (spreadE d s x T.size)]) ∧ w' = w := by
  have HSP : Hid _ := wSpread_no d s x T hlen hE w
  generalize spreadE d s x T.size = k at HSP hE ⊢
  have e1 : ((k : Int) != 0) = true := by simp; omega
  have e2 : ((k : Int) == 0) = false := by simp; omega
  clear hE
  go_enter Tryz.func15, Tryz.ntmps15
  go_wp2_with fail
  refine Calls.mono HSP.out ?_
  rintro e w1 ⟨rfl, hw⟩
  obtain rfl : w = w1 := hw.symm
  go_wp2
  go_ret2
  exact ⟨rfl, rfl⟩
set_option maxRecDepth 100000 in
set_option maxHeartbeats 1000000 in
theorem wRead_no (p : ByteArray) (x : Int) (k : Nat) (hp : p.size < 4611686018427387904) (h : MendNo p x k) (w : World) :
    Calls Tryz.prog 5 #[.string p, .int .i64 x] w fun e w' => e = .returned (.tuple #[.string ByteArray.empty, .int .i64 k]) ∧ Below w.heap.size w w' := by
  have HM : Hid _ := mend_no p x k hp h w
  clear h
  unfold noMended at HM
  go_enter Tryz.func5, Tryz.ntmps5
  go_wp2_with fail
  refine Calls.mono HM.out ?_
  rintro e w1 ⟨rfl, hb1⟩
  go_wp2
  go_ret2
  exact ⟨rfl, hb1.alloc hb1.size _⟩
set_option maxRecDepth 100000 in
set_option maxHeartbeats 1000000 in
theorem wHeal_no (p : ByteArray) (x : Int) (k : Nat) (hk : 1 ≤ k) (hp : p.size < 4611686018427387904) (h : MendNo p x k) (w : World) :
    Calls Tryz.prog 7 #[.string p, .int .i64 x] w fun e w' => e = .returned (.tuple #[.string ByteArray.empty, .slice none 0 0, .int .i64 k]) ∧ Below w.heap.size w w' := by
  have HM : Hid _ := mend_no p x k hp h w
  have e1 : ((k : Int) != 0) = true := by simp; omega
  have e2 : ((k : Int) == 0) = false := by simp; omega
  clear h
  unfold noMended at HM
  go_enter Tryz.func7, Tryz.ntmps7
  go_wp2_with fail
  refine Calls.mono HM.out ?_
  rintro e w1 ⟨rfl, hb1⟩
  go_wp2
  go_ret3
  exact ⟨rfl, hb1.alloc hb1.size _⟩
set_option maxRecDepth 100000 in
set_option maxHeartbeats 1000000 in
theorem wEdit_no (p : ByteArray) (x a : Int) (t : ByteArray) (k : Nat) (hk : 1 ≤ k) (hp : p.size < 4611686018427387904) (h : MendNo p x k) (w : World) :
    Calls Tryz.prog 11 #[.string p, .int .i64 x, .int .i64 a, .string t] w fun e w' => e = .returned (.tuple #[.string ByteArray.empty, .int .i64 k]) ∧ Below w.heap.size w w' := by
  have HM : Hid _ := mend_no p x k hp h w
  have e1 : ((k : Int) != 0) = true := by simp; omega
  have e2 : ((k : Int) == 0) = false := by simp; omega
  clear h
  unfold noMended at HM
  go_enter Tryz.func11, Tryz.ntmps11
  go_wp2_with fail
  refine Calls.mono HM.out ?_
  rintro e w1 ⟨rfl, hb1⟩
  go_wp2
  go_ret2
  exact ⟨rfl, hb1.alloc hb1.size _⟩
/-- What is told of mend, for a pack that is mended. -/
def MendOk (p : ByteArray) (x : Int) (D S N : Nat) (str : ByteArray) (ss : List ByteArray) (bad : List Nat) : Prop :=
  ∀ W, Table W → Calls Tryz.prog 18 #[.string p, .int .i64 x] W fun e w' => MendAns W w' D S N str ss bad e
set_option maxRecDepth 100000 in
set_option maxHeartbeats 1000000 in
theorem wRead_ok (p : ByteArray) (x : Int) (D S N : Nat) (str : ByteArray) (ss : List ByteArray) (bad : List Nat) (h : MendOk p x D S N str ss bad) (w : World) (ht : Table w) :
    Calls Tryz.prog 5 #[.string p, .int .i64 x] w fun e w' => e = .returned (.tuple #[.string str, .int .i64 0]) ∧ Below w.heap.size w w' := by
  have HM : Hid _ := h w ht
  clear h
  go_enter Tryz.func5, Tryz.ntmps5
  go_wp2_with fail
  refine Calls.mono HM.out ?_
  rintro e w1 ⟨b, vb, hb, rfl, hblk, hown, hb1⟩
  obtain ⟨ao, c, rfl⟩ := owns_slice hown
  go_wp2
  go_ret2
  exact ⟨rfl, hb1.alloc hb1.size _⟩
set_option maxRecDepth 100000 in
set_option maxHeartbeats 1000000 in
theorem wHeal_ok (p : ByteArray) (x : Int) (D S N : Nat) (str : ByteArray) (ss : List ByteArray) (bad : List Nat) (hD : D ≤ 10) (hS : S ≤ 6) (hl : ss.length = D + S) (hz : ∀ q, (h : q < ss.length) → ss[q].size ≤ 1000) (h : MendOk p x D S N str ss bad) (w : World) (ht : Table w) :
    Calls Tryz.prog 7 #[.string p, .int .i64 x] w fun e w' => ∃ vb, e = .returned (.tuple #[.string (packS D S N ss), vb, .int .i64 0]) ∧ w'.ownsRow w.heap.size 3 1 vb bad.length (intsV bad) ∧ Below w.heap.size w w' := by
  have HM : Hid _ := h w ht
  have HWR : Hid (∀ W v, StrsAt W v ss → Calls Tryz.prog 20 #[.agg #[.int .i64 D, .int .i64 S, .int .i64 N], v] W fun e w' => e = .returned (.string (packS D S N ss)) ∧ Below W.heap.size W w') := fun W v hv =>
    write_any D S N ss v (by omega) hz W hv
  have HL : Hid (ss.length = D + S) := hl
  generalize packS D S N ss = out at HWR ⊢
  clear h hl hz
  go_enter Tryz.func7, Tryz.ntmps7
  go_wp2_with fail
  refine Calls.mono HM.out ?_
  rintro e w1 ⟨b, vb, hb, rfl, hblk, hown, hb1⟩
  obtain ⟨ao, c, rfl⟩ := owns_slice hown
  go_wp2_with fail
  generalize hw2 : w1.alloc _ = w2
  have M2 : Blk w2 w1.heap.size 50 [.int .i64 D, .int .i64 S, .int .i64 N, .string str, .slice (some ⟨b, 0, none⟩) (D + S) (D + S), .slice ao bad.length c] := by rw [← hw2]; exact Blk.new w1 _ _
  have hb12 : Below w1.heap.size w1 w2 := by rw [← hw2]; exact (Below.refl _ _).alloc (Nat.le_refl _) _
  have HB2 : Hid (Below w.heap.size w w2) := hb1.trans (hb12.mono hb1.size)
  have HO2 : Hid (w2.ownsRow w.heap.size 3 1 (.slice ao bad.length c) bad.length (intsV bad)) := ownsRow_to hown hb12
  have HS2 : Hid (StrsAt w2 (.slice (some ⟨b, 0, none⟩) (D + S) (D + S)) ss) := (StrsAt.of_blk hblk _ _ HL.out.symm).to hb12
  generalize w1.heap.size = M at M2 ⊢
  have hMlt := M2.lt
  have z0 := M2.drew.cell_some (k := 0) rfl
  have z1 := M2.drew.cell_some (k := 1) rfl
  have z2 := M2.drew.cell_some (k := 2) rfl
  have z4 := M2.drew.cell_some (k := 4) rfl
  have z5 := M2.drew.cell_some (k := 5) rfl
  clear hw2 hb12 M2 hown hblk hb1 HM
  go_region_held3 (fun wx => wx.cell? ⟨M, 0, none⟩ = some (.int .i64 (D : Int)) ∧ wx.cell? ⟨M, 1, none⟩ = some (.int .i64 (S : Int)) ∧ wx.cell? ⟨M, 2, none⟩ = some (.int .i64 (N : Int)) ∧ wx.cell? ⟨M, 4, none⟩ = some (.slice (some ⟨b, 0, none⟩) (D + S) (D + S)) ∧ wx.cell? ⟨M, 5, none⟩ = some (.slice ao bad.length c)) (go_keep) (first | (go_at_call 20; refine Calls.mono (HWR.out _ _ (by exact HS2.out)) ?_; rintro e w3 ⟨rfl, hb3⟩; have o0 := (hb3.cell (p := ⟨M, 0, none⟩) hMlt).trans z0; have o1 := (hb3.cell (p := ⟨M, 1, none⟩) hMlt).trans z1; have o2 := (hb3.cell (p := ⟨M, 2, none⟩) hMlt).trans z2; have o4 := (hb3.cell (p := ⟨M, 4, none⟩) hMlt).trans z4; have o5 := (hb3.cell (p := ⟨M, 5, none⟩) hMlt).trans z5))
  have B23 : Below w2.heap.size w2 w3 := (Below.refl w2.heap.size w2).drew.trans hb3
  go_wp2
  go_ret3
  exact ⟨_, rfl, ownsRow_to HO2.out B23, HB2.out.trans (B23.mono HB2.out.size)⟩
/-- A text is written over in pieces: what Change comes to. -/
def newPieces (d s L a : Nat) (t : ByteArray) (ss : List ByteArray) : List ByteArray := (List.range (d + s)).map fun p => mkS (Plans.rowF L (Gf.newP d L a (nums t) t.size (oldOf ss) p))
set_option maxRecDepth 100000 in
set_option maxHeartbeats 1000000 in
theorem wEdit_range (p : ByteArray) (x a : Int) (t : ByteArray) (D S N : Nat) (str : ByteArray) (ss : List ByteArray) (bad : List Nat) (hN : N ≤ 400) (ha : a ≤ 9223372036854775807) (htl : t.size ≤ maxLen) (hno : okWithin N a t.size = false) (h : MendOk p x D S N str ss bad) (w : World) (ht : Table w) :
    Calls Tryz.prog 11 #[.string p, .int .i64 x, .int .i64 a, .string t] w fun e w' => e = .returned (.tuple #[.string ByteArray.empty, .int .i64 8]) ∧ Below w.heap.size w w' := by
  have HM : Hid _ := h w ht
  have HIW : Hid (∀ W, Calls Tryz.prog 22 #[.int .i64 N, .int .i64 a, .string t] W fun e w' => e = .returned (.bool false) ∧ w' = W) := fun W => by rw [← hno]; exact isWithin_any N hN a ha t htl W
  clear h hno
  go_enter Tryz.func11, Tryz.ntmps11
  go_wp2_with fail
  refine Calls.mono HM.out ?_
  rintro e w1 ⟨b, vb, hb, rfl, hblk, hown, hb1⟩
  obtain ⟨ao, c, rfl⟩ := owns_slice hown
  go_wp2_with fail
  refine Calls.mono (HIW.out _) ?_
  rintro e w' ⟨rfl, rfl⟩
  go_wp2
  go_ret2
  exact ⟨rfl, hb1.alloc hb1.size _⟩
set_option maxRecDepth 100000 in
set_option maxHeartbeats 1000000 in
theorem wEdit_ok (p : ByteArray) (x : Int) (a : Nat) (t : ByteArray) (D S N L : Nat) (str : ByteArray) (ss : List ByteArray) (bad : List Nat) (hD1 : 1 ≤ D) (hD : D ≤ 10) (hS : S ≤ 6) (hN : N ≤ 400) (hL : L = (N + D - 1) / D) (hl : ss.length = D + S) (hz : ∀ q, (h : q < ss.length) → ss[q].size = L) (hat : a + t.size ≤ N) (h : MendOk p x D S N str ss bad) (w : World) (ht : Table w) :
    Calls Tryz.prog 11 #[.string p, .int .i64 x, .int .i64 a, .string t] w fun e w' => e = .returned (.tuple #[.string (packS D S N (newPieces D S L a t ss)), .int .i64 0]) ∧ Below w.heap.size w w' := by
  have HM : Hid _ := h w ht
  have hLs : L ≤ 400 := by have := ceil_le N D hD1; omega
  have hno : okWithin N a t.size = true := by simp [okWithin]; omega
  have HIW : Hid (∀ W, Calls Tryz.prog 22 #[.int .i64 N, .int .i64 a, .string t] W fun e w' => e = .returned (.bool true) ∧ w' = W) := fun W => by rw [← hno]; exact isWithin_any N hN a (by omega) t (by unfold maxLen; omega) W
  have hsh : ShapeOk D S L ss [] := ⟨hl, fun k hk => by simp at hk, fun q hq _ => hz q hq⟩
  have HCH : Hid (∀ W v, Table W → StrsAt W v ss → Calls Tryz.prog 23 #[.int .i64 D, .int .i64 S, v, .int .i64 a, .string t] W fun e w' => ∃ b, W.heap.size ≤ b ∧ e = .returned (.slice (some ⟨b, 0, none⟩) (D + S) (D + S)) ∧ Blk w' b 9 (strV (newPieces D S L a t ss)) ∧ Below W.heap.size W w') := fun W v hT hv =>
    pChange_any D S N a L ss t v W hT hv hD1 hD hS hN hL hsh hat
  have HWR : Hid (∀ W v, StrsAt W v (newPieces D S L a t ss) → Calls Tryz.prog 20 #[.agg #[.int .i64 D, .int .i64 S, .int .i64 N], v] W fun e w' => e = .returned (.string (packS D S N (newPieces D S L a t ss))) ∧ Below W.heap.size W w') := fun W v hv =>
    write_any D S N _ v (by simp [newPieces]; omega) (fun q h => by simp [newPieces, mkS_size, Plans.rowF]; omega) W hv
  have HNL : Hid ((newPieces D S L a t ss).length = D + S) := by show _ = _; simp [newPieces]
  have HL : Hid (ss.length = D + S) := hl
  have HT : Hid (Table w) := ht
  generalize packS D S N (newPieces D S L a t ss) = out at HWR ⊢
  generalize newPieces D S L a t ss = ns at HWR HCH HNL
  clear h hno hsh hl hz hL ht
  go_enter Tryz.func11, Tryz.ntmps11
  go_wp2_with fail
  refine Calls.mono HM.out ?_
  rintro e w1 ⟨b, vb, hb, rfl, hblk, hown, hb1⟩
  obtain ⟨ao, c, rfl⟩ := owns_slice hown
  go_wp2_with fail
  generalize hw2 : w1.alloc _ = w2
  have M2 : Blk w2 w1.heap.size 50 [.int .i64 D, .int .i64 S, .int .i64 N, .string str, .slice (some ⟨b, 0, none⟩) (D + S) (D + S), .slice ao bad.length c] := by rw [← hw2]; exact Blk.new w1 _ _
  have hb12 : Below w1.heap.size w1 w2 := by rw [← hw2]; exact (Below.refl _ _).alloc (Nat.le_refl _) _
  have HB2 : Hid (Below w.heap.size w w2) := hb1.trans (hb12.mono hb1.size)
  have HO2 : Hid (w2.ownsRow w.heap.size 3 1 (.slice ao bad.length c) bad.length (intsV bad)) := ownsRow_to hown hb12
  have HS2 : Hid (StrsAt w2 (.slice (some ⟨b, 0, none⟩) (D + S) (D + S)) ss) := (StrsAt.of_blk hblk _ _ HL.out.symm).to hb12
  generalize w1.heap.size = M at M2 ⊢
  have hMlt := M2.lt
  have z0 := M2.cell_some (k := 0) rfl
  have z1 := M2.cell_some (k := 1) rfl
  have z2 := M2.cell_some (k := 2) rfl
  have z4 := M2.cell_some (k := 4) rfl
  have HT2 : Hid (Table w2) := table_to HT.out HB2.out
  clear hw2 hb12 M2 hown hblk hb1 HM HO2
  refine Calls.mono (HIW.out _) ?_
  rintro e w' ⟨rfl, hw⟩
  obtain rfl : w2 = w' := hw.symm
  go_wp2_with fail
  refine Calls.mono (HCH.out _ _ HT2.out HS2.out) ?_
  rintro e w3 ⟨nb, hnb, rfl, hnblk, hb3⟩
  have o0 := (hb3.cell (p := ⟨M, 0, none⟩) hMlt).trans z0
  have o1 := (hb3.cell (p := ⟨M, 1, none⟩) hMlt).trans z1
  have o2 := (hb3.cell (p := ⟨M, 2, none⟩) hMlt).trans z2
  have HN3 : Hid (StrsAt w3 (.slice (some ⟨nb, 0, none⟩) (D + S) (D + S)) ns) := StrsAt.of_blk hnblk _ _ HNL.out.symm
  have B3 := HB2.out.trans (hb3.mono HB2.out.size)
  clear z0 z1 z2 z4 hnblk hb3
  go_wp2_with fail
  refine Calls.mono (HWR.out _ _ HN3.out) ?_
  rintro e w4 ⟨rfl, hb4⟩
  go_wp2
  go_ret2
  exact ⟨rfl, B3.trans (hb4.mono B3.size)⟩
end Go.Proofs.YtokmllopbfmadaaGreatDoor.Pk

/- Pack of the program and of the document, held against each other; Packs. -/
namespace Go.Proofs.YtokmllopbfmadaaGreatDoor.BookN
open Go.RowKit Mem FieldWalks Tab ByTab Parts Ref Plans Top

theorem spread_yes (d s x : Int) (n : Nat) (h : spreadE d s x n = 0) : okCounts d s = true ∧ okWay x = true ∧ n ≤ 400 := by
  unfold spreadE at h
  cases h1 : okCounts d s
  · rw [h1] at h; simp at h
  · cases h2 : okWay x
    · rw [h1, h2] at h; simp at h
    · rw [h1, h2] at h
      refine ⟨rfl, rfl, ?_⟩
      by_cases h3 : 400 < n
      · simp [h3] at h
      · omega
/-- The program's Pack and the document's, at whatever is handed in. -/
theorem pack_both (hS : SumsOk) (d s x : Int) (T : ByteArray) (hlen : T.size ≤ maxLen) : ∃ (out : ByteArray) (er : Int), out.size < 4611686018427387904 ∧
    (∀ w, Table w → Calls Tryz.prog 15 #[.int .i64 d, .int .i64 s, .int .i64 x, .string T] w fun e w' => e = .returned (.tuple #[.string out, .int .i64 er]) ∧ Below w.heap.size w w') ∧
    (∀ w, Calls Tryz.prog 16 #[.int .i64 d, .int .i64 s, .int .i64 x, .string T] w fun e w' => e = .returned (.tuple #[.string out, .int .i64 er]) ∧ Below w.heap.size w w') := by
  by_cases hE : spreadE d s x T.size = 0
  · obtain ⟨h1, h2, h3⟩ := spread_yes d s x T.size hE
    have h1' := of_decide_eq_true h1
    have h2' := of_decide_eq_true h2
    obtain ⟨d, rfl⟩ := Int.eq_ofNat_of_zero_le (show 0 ≤ d by omega)
    obtain ⟨s, rfl⟩ := Int.eq_ofNat_of_zero_le (show 0 ≤ s by omega)
    obtain ⟨x, rfl⟩ := Int.eq_ofNat_of_zero_le (show 0 ≤ x by omega)
    refine ⟨packS d s T.size (pieces d s T), 0, ?_, fun w ht => Pk.wPack_ok hS d s x T (by omega) (by omega) (by omega) (by omega) h3 w ht, fun w => rPack_ok d s x T (by omega) (by omega) (by omega) (by omega) h3 w⟩
    have hz := packTo_size (headS d s T.size) (pieces d s T) ((T.size + d - 1) / d) (fun p h => pieces_sizes d s T p h) (pieces d s T).length (Nat.le_refl _)
    unfold packS
    rw [hz, pieces_length, headS_size]
    have hL := ceil_le T.size d (by omega)
    have : (d + s) * ((T.size + d - 1) / d + 5) ≤ 16 * 405 := Nat.mul_le_mul (by omega) (by omega)
    omega
  · exact ⟨ByteArray.empty, spreadE d s x T.size, by decide, fun w _ => (Pk.wPack_no d s x T hlen hE w).mono fun e w' hh => ⟨hh.1, by rw [hh.2]; exact Below.refl _ _⟩, fun w => (rPack_no d s x T hlen hE w).mono fun e w' hh => ⟨hh.1, by rw [hh.2]; exact Below.refl _ _⟩⟩
theorem pack_ex_size : (packS 1 1 (⟨#[]⟩ : ByteArray).size (pieces 1 1 ⟨#[]⟩)).size = 20 := by
  have hz := packTo_size (headS 1 1 (⟨#[]⟩ : ByteArray).size) (pieces 1 1 ⟨#[]⟩) 0 (fun p h => pieces_sizes 1 1 ⟨#[]⟩ p h) (pieces 1 1 ⟨#[]⟩).length (Nat.le_refl _)
  unfold packS
  rw [hz, pieces_length, headS_size]
set_option maxRecDepth 100000 in
set_option maxHeartbeats 1000000 in
theorem pack_any (hS : SumsOk) (B b c : Nat) (w : World) (ht : Table w) (hbook : BookAt w B b c w.heap.size w.heap.size) (hc : c ≤ 7) :
    Calls Tryz.prog 4 #[.pointer (some ⟨b, 0, none⟩)] w fun e w' => e = .returned (.bool true) ∧ BookAt w' B b (c + 2) w'.heap.size w'.heap.size ∧ Below B w w' := by
  have HP1 : Hid _ := Pk.wPack_ok hS 1 1 0 ⟨#[]⟩ (by omega) (by omega) (by omega) (by omega) (by decide) w ht
  have HP2 : Hid _ := fun W => rPack_ok 1 1 0 ⟨#[]⟩ (by omega) (by omega) (by omega) (by omega) (by decide) W
  have hz := pack_ex_size
  generalize packS 1 1 (⟨#[]⟩ : ByteArray).size (pieces 1 1 ⟨#[]⟩) = t at HP1 HP2 hz
  have HB : Hid (BookAt w B b c w.heap.size w.heap.size) := hbook
  have hBb := hbook.1
  have hblt : b < w.heap.size := by obtain ⟨_, kv, es, _, h, _⟩ := hbook; exact h.lt
  have e1 : (t.toList == t.toList) = true := by simp
  clear hbook ht
  go_enter Tryz.func4, Tryz.ntmps4
  go_wp2_with fail
  refine Calls.mono HP1.out ?_
  rintro e w1 ⟨rfl, hb1⟩
  go_wp2_with fail
  refine Calls.mono (HP2.out _) ?_
  rintro e w2 ⟨rfl, hb2⟩
  have hb02 := hb1.trans (hb2.mono hb1.size)
  have HOP : Hid _ := opened_any B b c t (by omega) w2 ((HB.out.to hb02).mono hb02.size hb02.size) hc
  have hB : B ≤ w.heap.size := by omega
  clear hb1 hb2
  go_wp2_with fail
  refine Calls.mono HOP.out ?_
  rintro e w3 ⟨rfl, hbk3, hb3⟩
  have HBK : Hid (BookAt w3 B b (c + 2) w3.heap.size w3.heap.size) := hbk3
  have HB3 : Hid (Below B w w3) := (hb02.mono hB).trans hb3
  clear hbk3 hb3 hb02
  go_wp2_with fail
  refine (num_any _ _).mono ?_
  rintro e w' ⟨rfl, hw⟩
  obtain rfl : w3 = w' := hw.symm
  go_wp2
  go_ret
  exact ⟨rfl, HBK.out, HB3.out⟩
end Go.Proofs.YtokmllopbfmadaaGreatDoor.BookN
