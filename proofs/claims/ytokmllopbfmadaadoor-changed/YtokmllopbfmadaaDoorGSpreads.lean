import Derived.Test.YtokmllopbfmadaaDoorGConcat
import Derived.Test.YtokmllopbfmadaaDoorGNum
import Derived.Test.YtokmllopbfmadaaDoorGBookTexts
import Derived.Laws.CopyOwn
import Derived.WalkSpells
import Derived.Test.YtokmllopbfmadaaDoorGMem
namespace Go.Proofs.YtokmllopbfmadaaDoor.Top
open Go.RowKit Mem FieldWalks Tab ByTab Parts Book

set_option maxRecDepth 100000 in
set_option maxHeartbeats 1000000 in
theorem bspread_ok (hS : SumsOk) (B b c : Nat) (d s x : Nat) (str : ByteArray) (hd : 1 ≤ d) (hd2 : d ≤ 10) (hs : s ≤ 6) (hx : x ≤ 2) (hn : str.size ≤ 400) (w : World) (ht : Table w) (hbook : BookAt w B b c w.heap.size) (hc : c ≤ 8) :
    Calls Tryd.prog 25 #[.pointer (some ⟨b, 0, none⟩), .int .i64 d, .int .i64 s, .int .i64 x, .string str] w fun e w' => e = .returned (.bool true) ∧ BookAt w' B b (c + 1) w'.heap.size ∧ Below B w w' := by
  have HB : Hid (BookAt w B b c w.heap.size) := hbook
  have hBb := hbook.1
  have hblt : b < w.heap.size := by obtain ⟨_, kv, es, _, h, _⟩ := hbook; exact h.lt
  clear hbook
  go_enter Tryd.func25, Tryd.ntmps25
  go_wp2_with fail
  refine (wSpread_ok hS d s x str hd hd2 hs hx hn _ ht).mono ?_
  rintro e w1 ⟨lb, hlb, rfl, hblk, hb1⟩
  go_wp2_with fail
  refine (Ref.rSpread_ok d s x str _ hd hd2 hs hx hn rfl _).mono ?_
  rintro e w2 ⟨v, rfl, hst, hb2⟩
  have hblk2 := hblk.to hb2
  have hst1 := StrsAt.of_blk hblk2 (d + s) (d + s) (by rw [pieces_length])
  have hst2 : StrsAt w2 v (pieces d s str) := hst
  clear hblk hst
  go_wp2_with fail
  refine (sameT_yes (pieces d s str) _ _ _ hst1 hst2 (by rw [pieces_length]; omega)).mono ?_
  rintro e w3 ⟨rfl, nq, rfl⟩
  have hb02 := hb1.trans (hb2.mono hb1.size)
  have hb3 : Below w.heap.size w (w2.drewN nq) := below_drewN hb02 nq
  have hbk3 := (HB.out.to hb3).mono (M := lb) hlb
  clear hst1 hst2
  have htx := texts_any B b c lb (d + s) (some ⟨lb, 0, none⟩) (strV (pieces d s str)) (w2.drewN nq) hbk3 hc (by omega) (by omega) (by simp [strV, pieces_length]) (.inr ⟨rfl, hblk2⟩)
  clear hbk3 hblk2
  go_wp2_with fail
  refine Calls.mono htx ?_
  rintro e w4 ⟨rfl, hbk4, hb4⟩
  have hB : B ≤ w.heap.size := by omega
  have hb04 := (hb3.mono hB).trans hb4
  clear htx
  go_wp2_with fail
  refine (num_any _ _).mono ?_
  rintro e w' ⟨rfl, rfl⟩
  go_wp2
  go_ret
  exact ⟨rfl, hbk4, hb04⟩

set_option maxRecDepth 100000 in
set_option maxHeartbeats 1000000 in
theorem bspread_no (B b c : Nat) (d s x : Int) (str : ByteArray) (hlen : str.size ≤ maxLen) (hE : spreadE d s x str.size ≠ 0) (w : World) (hbook : BookAt w B b c w.heap.size) (hc : c ≤ 8) :
    Calls Tryd.prog 25 #[.pointer (some ⟨b, 0, none⟩), .int .i64 d, .int .i64 s, .int .i64 x, .string str] w fun e w' => e = .returned (.bool true) ∧ BookAt w' B b (c + 1) w'.heap.size ∧ Below B w w' := by
  have hblt : b < w.heap.size := by obtain ⟨_, kv, es, _, h, _⟩ := hbook; exact h.lt
  have hBb := hbook.1
  have HB : Hid (BookAt w B b c w.heap.size) := hbook
  have HL : Hid (str.size ≤ maxLen) := hlen
  have HE : Hid (spreadE d s x str.size ≠ 0) := hE
  obtain ⟨er, her⟩ : ∃ er, er = spreadE d s x str.size := ⟨_, rfl⟩
  have w1 := wSpread_no d s x str hlen hE
  have w2 := rSpread_no d s x str hlen hE
  rw [← her] at w1 w2
  have W1 : Hid _ := w1
  have W2 : Hid _ := w2
  clear hbook hlen hE her w1 w2
  go_enter Tryd.func25, Tryd.ntmps25
  go_wp2_with fail
  refine Calls.mono (W1.out _) ?_
  rintro e w' ⟨rfl, rfl⟩
  go_wp2_with fail
  refine Calls.mono (W2.out _) ?_
  rintro e w' ⟨rfl, rfl⟩
  have hs0 : StrsAt w' (.slice none 0 0) [] := ⟨none, 0, rfl, .inl rfl⟩
  go_wp2_with fail
  refine (sameT_yes [] _ _ _ hs0 hs0 (by simp)).mono ?_
  rintro e w3 ⟨rfl, nq, rfl⟩
  have hb3 : Below w'.heap.size w' (w'.drewN nq) := below_drew nq
  have hbk3 := HB.out.to hb3
  clear hs0
  have htx := texts_any B b c w'.heap.size 0 none [] (w'.drewN nq) hbk3 hc (by omega) (by omega) rfl (.inl ⟨rfl, rfl⟩)
  clear hbk3
  go_wp2_with fail
  refine Calls.mono htx ?_
  rintro e w4 ⟨rfl, hbk4, hb4⟩
  have hb04 := (hb3.mono (by omega)).trans hb4
  clear htx
  go_wp2_with fail
  refine (num_any _ _).mono ?_
  rintro e w' ⟨rfl, rfl⟩
  go_wp2
  go_ret
  exact ⟨rfl, hbk4, hb04⟩
theorem bspread_any (hS : SumsOk) (B b c : Nat) (d s x : Int) (str : ByteArray) (hlen : str.size ≤ maxLen) (w : World) (ht : Table w) (hbook : BookAt w B b c w.heap.size) (hc : c ≤ 8) :
    Calls Tryd.prog 25 #[.pointer (some ⟨b, 0, none⟩), .int .i64 d, .int .i64 s, .int .i64 x, .string str] w fun e w' => e = .returned (.bool true) ∧ BookAt w' B b (c + 1) w'.heap.size ∧ Below B w w' := by
  by_cases hE : spreadE d s x str.size = 0
  · have h1 : okCounts d s = true := by
      cases h : okCounts d s
      · simp [spreadE, h] at hE
      · rfl
    have h2 : okWay x = true := by
      cases h : okWay x
      · simp [spreadE, h1, h] at hE
      · rfl
    have h3 : str.size ≤ 400 := by
      by_cases h : 400 < str.size
      · simp [spreadE, h1, h2, h] at hE
      · omega
    have h1' := of_decide_eq_true h1
    have h2' := of_decide_eq_true h2
    obtain ⟨d, rfl⟩ := Int.eq_ofNat_of_zero_le (show 0 ≤ d by omega)
    obtain ⟨s, rfl⟩ := Int.eq_ofNat_of_zero_le (show 0 ≤ s by omega)
    obtain ⟨x, rfl⟩ := Int.eq_ofNat_of_zero_le (show 0 ≤ x by omega)
    exact bspread_ok hS B b c d s x str (by omega) (by omega) (by omega) (by omega) h3 w ht hbook hc
  · exact bspread_no B b c d s x str hlen hE w hbook hc

theorem pieces_ex : pieces 2 1 ⟨#[1, 1]⟩ = [⟨#[1]⟩, ⟨#[1]⟩, ⟨#[122]⟩] := by decide +kernel

set_option maxRecDepth 100000 in
set_option maxHeartbeats 1000000 in
theorem spreads_any (hS : SumsOk) (d s x : Int) (str : ByteArray) (hlen : str.size ≤ maxLen) (w : World) (ht : Table w) (h0 : 0 < w.heap.size) :
    Calls Tryd.prog 5 #[.int .i64 d, .int .i64 s, .int .i64 x, .string str] w fun e w' => e = .returned (.bool true) ∧ Below w.heap.size w w' := by
  have HL : Hid (str.size ≤ maxLen) := hlen
  clear hlen
  go_enter Tryd.func5, Tryd.ntmps5
  have hb0 : BookAt (w.alloc (.cells #[.int .i64 0, .slice none 0 0] 37)) w.heap.size w.heap.size 0 (w.alloc (.cells #[.int .i64 0, .slice none 0 0] 37)).heap.size := BookAt.start w _ (Nat.le_refl _) _
  have ht1 := table_to ht (below_alloc w (.cells #[.int .i64 0, .slice none 0 0] 37))
  have hw0 : Below w.heap.size w (w.alloc (.cells #[.int .i64 0, .slice none 0 0] 37)) := below_alloc w _
  have hex := wSpread_ok hS 2 1 0 ⟨#[1, 1]⟩ (by omega) (by omega) (by omega) (by omega) (by decide) (w.alloc (.cells #[.int .i64 0, .slice none 0 0] 37)) ht1
  have HB0 : Hid _ := hb0
  have HW0 : Hid _ := hw0
  have HT : Hid (Table w) := ht
  clear hb0 ht1 hw0 ht
  go_wp2_with fail
  refine Calls.mono hex ?_
  rintro e w1 ⟨lb, hlb, rfl, hblk, hb1⟩
  have hbk1 := BookAt.to HB0.out hb1
  have hb01 := HW0.out.trans (hb1.mono HW0.out.size)
  have hpx : pieces 2 1 ⟨#[1, 1]⟩ = [⟨#[1]⟩, ⟨#[1]⟩, ⟨#[122]⟩] := pieces_ex
  rw [hpx] at hblk
  clear hex hpx
  have hbA : Below w1.heap.size w1 (w1.alloc (.cells #[.string ⟨#[1]⟩, .string ⟨#[1]⟩, .string ⟨#[122]⟩] 9)) := below_alloc w1 _
  have hsA : StrsAt (w1.alloc (.cells #[.string ⟨#[1]⟩, .string ⟨#[1]⟩, .string ⟨#[122]⟩] 9)) (.slice (some ⟨lb, 0, none⟩) 3 3) [⟨#[1]⟩, ⟨#[1]⟩, ⟨#[122]⟩] := (StrsAt.of_blk (w := w1) hblk 3 3 rfl).to hbA
  have hsB : StrsAt (w1.alloc (.cells #[.string ⟨#[1]⟩, .string ⟨#[1]⟩, .string ⟨#[122]⟩] 9)) (.slice (some ⟨w1.heap.size, 0, none⟩) 3 3) [⟨#[1]⟩, ⟨#[1]⟩, ⟨#[122]⟩] := StrsAt.of_blk (Blk.new w1 _ _) 3 3 rfl
  have hsame := sameT_yes [⟨#[1]⟩, ⟨#[1]⟩, ⟨#[122]⟩] _ _ _ hsA hsB (by decide)
  have HBA : Hid (Below w1.heap.size w1 (w1.alloc (.cells #[.string ⟨#[1]⟩, .string ⟨#[1]⟩, .string ⟨#[122]⟩] 9))) := hbA
  have HBL : Hid (Blk w1 lb 9 (strV [⟨#[1]⟩, ⟨#[1]⟩, ⟨#[122]⟩])) := hblk
  have HBK : Hid (BookAt w1 w.heap.size w.heap.size 0 (w.alloc (.cells #[.int .i64 0, .slice none 0 0] 37)).heap.size) := hbk1
  clear hsA hsB hbA hblk hbk1
  go_wp2_with fail
  refine Calls.mono hsame ?_
  rintro e w2 ⟨rfl, nq, rfl⟩
  clear hsame
  have hb12 : Below w1.heap.size w1 ((w1.alloc (.cells #[.string ⟨#[1]⟩, .string ⟨#[1]⟩, .string ⟨#[122]⟩] 9)).drewN nq) := below_drewN HBA.out nq
  have hblk2 := HBL.out.to hb12
  have hbk2 := HBK.out.to hb12
  have hb02 := hb01.trans (hb12.mono hb01.size)
  generalize (w1.alloc (.cells #[.string ⟨#[1]⟩, .string ⟨#[1]⟩, .string ⟨#[122]⟩] 9)).drewN nq = w2 at *
  clear hb12
  go_wp2_with fail
  refine (num_any _ _).mono ?_
  rintro e w' ⟨rfl, rfl⟩
  have hlb' : w.heap.size + 1 ≤ lb := by simpa using hlb
  have htx := texts_any w.heap.size w.heap.size 0 lb 3 (some ⟨lb, 0, none⟩) _ w' (hbk2.mono (M := lb) (by simpa using hlb)) (by omega) (by omega) (by omega) rfl (.inr ⟨rfl, hblk2⟩)
  clear hbk2 hblk2
  go_wp2_with fail
  refine Calls.mono htx ?_
  rintro e w3 ⟨rfl, hbk3, hb3⟩
  have hb03 := hb02.trans hb3
  clear htx
  have hT3 := table_below HT.out hb03 h0
  have hs1 := bspread_any hS w.heap.size w.heap.size 1 d s x str HL.out w3 hT3 hbk3 (by omega)
  clear hbk3
  go_wp2_with fail
  refine Calls.mono hs1 ?_
  rintro e w4 ⟨rfl, hbk4, hb4⟩
  have hb04 := hb03.trans hb4
  clear hs1 hT3
  have hT4 := table_below HT.out hb04 h0
  have hs2 := bspread_any hS w.heap.size w.heap.size 2 d s x str HL.out w4 hT4 hbk4 (by omega)
  clear hbk4
  go_wp2_with fail
  refine Calls.mono hs2 ?_
  rintro e w5 ⟨rfl, hbk5, hb5⟩
  have hb05 := hb04.trans hb5
  clear hs2 hT4
  have hlk := looks_any _ _ _ _ w5 hbk5 (by omega)
  clear hbk5
  go_wp2_with fail
  refine Calls.mono hlk ?_
  rintro e w6 ⟨rfl, hb6⟩
  have hb06 := hb05.trans (hb6.mono hb05.size)
  clear hlk
  go_wp2
  go_ret
  exact ⟨rfl, hb06⟩
end Go.Proofs.YtokmllopbfmadaaDoor.Top

namespace Go.Proofs.YtokmllopbfmadaaDoor.Book
open Go.RowKit Mem FieldWalks Tab ByTab Parts Ref
open Plans (But infoInt)

def beyond : ByteArray := ⟨#[98, 101, 121, 111, 110, 100]⟩
def mine : ByteArray := ⟨#[109, 105, 110, 101]⟩
theorem infoStrSize : (Tryd.prog.info? 9).map (·.size) = some 1 := by kernel_rfl
theorem infoIntSize : (Tryd.prog.info? 3).map (·.size) = some 1 := by kernel_rfl
theorem make_lent (n : Nat) (hn : n ≤ 8796093022204) (w : World) :
    (Instr.makeSlice 38 (.int .i64 ((n : Int) + 4)) (.int .i64 ((n : Int) + 4))).run Tryd.prog w = .ok (.slice (some ⟨w.heap.size, 0, none⟩) (n + 4) (n + 4)) (w.alloc (.cells (madeCells #[.string ByteArray.empty] (n + 4)) 9)) := by
  obtain ⟨i, hi, hz0, hz1, hz2⟩ := info_parts infoStr
  have := run_make (P := Tryd.prog) w 38 9 i (.string ByteArray.empty) Tryd.underlying38 hi hz0 .i64 .i64 ((n : Int) + 4) ((n : Int) + 4) (by omega) (by omega) (by rw [hz2]; omega) (by omega)
  rw [hz1, show ((n : Int) + 4).toNat = n + 4 by omega, Nat.mul_one] at this
  exact this
theorem make_lentI (n : Nat) (hn : n ≤ 17592186044412) (w : World) :
    (Instr.makeSlice 45 (.int .i64 ((n : Int) + 4)) (.int .i64 ((n : Int) + 4))).run Tryd.prog w = .ok (.slice (some ⟨w.heap.size, 0, none⟩) (n + 4) (n + 4)) (w.alloc (.cells (madeCells #[.int .i64 0] (n + 4)) 3)) := by
  obtain ⟨i, hi, hz0, hz1, hz2⟩ := info_parts infoInt
  have := run_make (P := Tryd.prog) w 45 3 i (.int .i64 0) Tryd.underlying45 hi hz0 .i64 .i64 ((n : Int) + 4) ((n : Int) + 4) (by omega) (by omega) (by rw [hz2]; omega) (by omega)
  rw [hz1, show ((n : Int) + 4).toNat = n + 4 by omega, Nat.mul_one] at this
  exact this
theorem eql_nilT (a : Option Addr) (n c : Nat) (w : World) : (binOp .eql 38 (.slice a n c) (.slice none 0 0)).run Tryd.prog w = .ok (.bool a.isNone) w := Lib.run_eql_slice_nil w 38 9 a n c 0 0 Tryd.underlying38
theorem eql_nilI (a : Option Addr) (n c : Nat) (w : World) : (binOp .eql 45 (.slice a n c) (.slice none 0 0)).run Tryd.prog w = .ok (.bool a.isNone) w := Lib.run_eql_slice_nil w 45 3 a n c 0 0 Tryd.underlying45
/-- The list, k of the caller's things behind it, then nothing yet. -/
def lentTo (vs : List Value) (x z : Value) (k : Nat) : List Value := vs ++ (List.replicate k x ++ List.replicate (4 - k) z)
theorem lentTo_next (vs : List Value) (x z : Value) (n k : Nat) (hn : vs.length = n) (hk : k < 4) : (lentTo vs x z k).set (n + k) x = lentTo vs x z (k + 1) := by
  unfold lentTo
  rw [List.set_append_right _ _ (by omega), hn, show n + k - n = k by omega, List.set_append_right _ _ (by simp), List.length_replicate, Nat.sub_self]
  obtain ⟨m, hm⟩ : ∃ m, 4 - k = m + 1 := ⟨4 - k - 1, by omega⟩
  rw [hm, List.replicate_succ, List.set_cons_zero, show 4 - (k + 1) = m by omega, List.replicate_succ']
  simp
theorem lentTo_at (vs : List Value) (x z : Value) (n k : Nat) (hn : vs.length = n) (hk : k < 4) : (lentTo vs x z k)[n + k]? = some z := by
  unfold lentTo
  rw [List.getElem?_append_right (by omega), hn, show n + k - n = k by omega, List.getElem?_append_right (by simp), List.length_replicate, Nat.sub_self]
  obtain ⟨m, hm⟩ : ∃ m, 4 - k = m + 1 := ⟨4 - k - 1, by omega⟩
  rw [hm, List.replicate_succ]; rfl
theorem splice_made (vs : List Value) (z : Value) (n : Nat) (hn : vs.length = n) : splice (madeCells #[z] (n + 4)).toList 0 vs = lentTo vs z z 0 := by
  unfold splice lentTo
  rw [toList_madeCells_one]
  simp [hn]

set_option maxRecDepth 100000 in
theorem lendT_nil (w : World) : Calls Tryd.prog 61 #[.slice none 0 0] w fun e w' => e = .returned (.slice none 0 0) ∧ w' = w := by
  have hnil := fun w => eql_nilT none 0 0 w
  go_enter Tryd.func61, Tryd.ntmps61
  go_wp2
  go_ret
  exact ⟨rfl, rfl⟩
set_option maxRecDepth 100000 in
theorem lendI_nil (w : World) : Calls Tryd.prog 62 #[.slice none 0 0] w fun e w' => e = .returned (.slice none 0 0) ∧ w' = w := by
  have hnil := fun w => eql_nilI none 0 0 w
  go_enter Tryd.func62, Tryd.ntmps62
  go_wp2
  go_ret
  exact ⟨rfl, rfl⟩
set_option maxRecDepth 100000 in
set_option maxHeartbeats 400000 in
theorem lendT_any (ss : List ByteArray) (ad : Addr) (c : Nat) (w : World) (h : StrsAt w (.slice (some ad) ss.length c) ss) (hn : ss.length ≤ 8796093022204) :
    Calls Tryd.prog 61 #[.slice (some ad) ss.length c] w fun e w' => ∃ b, w.heap.size ≤ b ∧ e = .returned (.slice (some ⟨b, 0, none⟩) ss.length (ss.length + 4)) ∧ Blk w' b 9 (lentTo (strV ss) (.string beyond) (.string ByteArray.empty) 4) ∧ Below w.heap.size w w' := by
  have hmk := fun w => make_lent ss.length hn w
  have hnil := fun w => eql_nilT (some ad) ss.length c w
  have HC : Hid (∀ j v, (strV ss)[j]? = some v → w.cell? (ad.add j) = some v ∧ (ad.add j).block < w.heap.size) := by
    intro j v hv
    have hj : j < ss.length := by have := (List.getElem?_eq_some_iff.1 hv).1; simpa [strV] using this
    obtain ⟨ao, cap, he, hx⟩ := h
    injection he with he _ _
    rcases hx with hx | ⟨b, off, hao, hlt, hc⟩
    · rw [hx] at hj; simp at hj
    · rw [← he] at hao
      injection hao with hao
      subst hao
      refine ⟨?_, by rw [Addr.add_lit]; exact hlt⟩
      rw [Addr.add_lit, hc j hj]
      simp [strV, hj] at hv
      rw [hv]
  clear h
  go_enter Tryd.func61, Tryd.ntmps61
  go_wp2_with ((refine wpList_copy_splice rfl _ _ 38 38 rfl 9 Tryd.underlying38 infoStrSize _ _ _ _ _ _ rfl rfl w.heap.size 0 (madeCells #[.string ByteArray.empty] (ss.length + 4)).toList 9 (by rw [Array.toArray_toList]; exact heap_alloc_new _ _) (strV ss) (by simp [strV]) (fun _ => ⟨rfl, ad, rfl, fun j v hv => by have := HC.out j v hv; exact (((Below.refl w.heap.size w).alloc (Nat.le_refl _) _).cell (p := ad.add j) this.2).trans this.1⟩) (by simp [strV, size_madeCells]) (by intro v hv; simp [strV] at hv; obtain ⟨s, _, rfl⟩ := hv; rfl) w.heap.size w ((Below.refl _ _).alloc (Nat.le_refl _) _) (Nat.le_refl _) ?_); intro w1 hr1 hb1)
  have HB : Hid (Blk w1 w.heap.size 9 (lentTo (strV ss) (.string beyond) (.string ByteArray.empty) 0)) := by
    have := hr1.out
    rw [splice_made _ _ ss.length (by simp [strV])] at this
    exact this
  clear hr1 hmk
  go_loopw [5] (fun iv wr => ∃ k : Nat, k ≤ 4 ∧ iv = .int .i64 ((ss.length + k : Nat) : Int) ∧ Blk wr w.heap.size 9 (lentTo (strV ss) (.string beyond) (.string ByteArray.empty) k) ∧ Below w.heap.size w wr) (fun iv _ => ss.length + 4 - (intOf iv).toNat)
  case atStart => exact ⟨0, Nat.zero_le _, rfl, HB.out, hb1⟩
  case round =>
    clear HB hb1
    obtain ⟨k, hk, rfl, hblk, hbel⟩ := hrel
    by_cases hlt : k < 4
    · have c1 := hblk.cell_some (lentTo_at (strV ss) (.string beyond) (.string ByteArray.empty) ss.length k (by simp [strV]) hlt)
      have f1 := hblk.free (ss.length + k)
      have HBL : Hid (Blk (wr.setCell ⟨w.heap.size, ss.length + k, none⟩ (.string beyond)) w.heap.size 9 (lentTo (strV ss) (.string beyond) (.string ByteArray.empty) (k + 1))) := (hblk.set _ _).eq (lentTo_next _ _ _ ss.length k (by simp [strV]) hlt)
      have hlt2 : (ss.length : Int) + (k : Int) < (ss.length : Int) + 4 := by omega
      clear hblk
      go_wp2
      go_roundw
      case rel => exact ⟨k + 1, by omega, by go_num, HBL.out, hbel.setCell (Nat.le_refl _) _⟩
      case measure => simp [intOf]; omega
    · obtain rfl : k = 4 := by omega
      go_wp2
      go_ret
      exact ⟨_, Nat.le_refl _, rfl, hblk, hbel⟩
def intV (l : List Int) : List Value := l.map (Value.int .i64)
set_option maxRecDepth 100000 in
set_option maxHeartbeats 400000 in
theorem lendI_any (ss : List Int) (ad : Addr) (c : Nat) (w : World) (h : IsC w (.slice (some ad) ss.length c) ss) (hn : ss.length ≤ 17592186044412) :
    Calls Tryd.prog 62 #[.slice (some ad) ss.length c] w fun e w' => ∃ b, w.heap.size ≤ b ∧ e = .returned (.slice (some ⟨b, 0, none⟩) ss.length (ss.length + 4)) ∧ Blk w' b 3 (lentTo (intV ss) (.int .i64 (-77)) (.int .i64 0) 4) ∧ Below w.heap.size w w' := by
  have hmk := fun w => make_lentI ss.length hn w
  have hnil := fun w => eql_nilI (some ad) ss.length c w
  have HC : Hid (∀ j v, (intV ss)[j]? = some v → w.cell? (ad.add j) = some v ∧ (ad.add j).block < w.heap.size) := by
    intro j v hv
    have hj : j < ss.length := by have := (List.getElem?_eq_some_iff.1 hv).1; simpa [intV] using this
    obtain ⟨ao, cap, he, hx⟩ := h
    injection he with he _ _
    rcases hx with hx | ⟨b, off, hao, hlt, hc⟩
    · rw [hx] at hj; simp at hj
    · rw [← he] at hao
      injection hao with hao
      subst hao
      refine ⟨?_, by rw [Addr.add_lit]; exact hlt⟩
      rw [Addr.add_lit, hc j hj]
      simp [intV, hj] at hv
      rw [hv]
  clear h
  go_enter Tryd.func62, Tryd.ntmps62
  go_wp2_with ((refine wpList_copy_splice rfl _ _ 45 45 rfl 3 Tryd.underlying45 infoIntSize _ _ _ _ _ _ rfl rfl w.heap.size 0 (madeCells #[.int .i64 0] (ss.length + 4)).toList 3 (by rw [Array.toArray_toList]; exact heap_alloc_new _ _) (intV ss) (by simp [intV]) (fun _ => ⟨rfl, ad, rfl, fun j v hv => by have := HC.out j v hv; exact (((Below.refl w.heap.size w).alloc (Nat.le_refl _) _).cell (p := ad.add j) this.2).trans this.1⟩) (by simp [intV, size_madeCells]) (by intro v hv; simp [intV] at hv; obtain ⟨s, _, rfl⟩ := hv; rfl) w.heap.size w ((Below.refl _ _).alloc (Nat.le_refl _) _) (Nat.le_refl _) ?_); intro w1 hr1 hb1)
  have HB : Hid (Blk w1 w.heap.size 3 (lentTo (intV ss) (.int .i64 (-77)) (.int .i64 0) 0)) := by
    have := hr1.out
    rw [splice_made _ _ ss.length (by simp [intV])] at this
    exact this
  clear hr1 hmk
  go_loopw [5] (fun iv wr => ∃ k : Nat, k ≤ 4 ∧ iv = .int .i64 ((ss.length + k : Nat) : Int) ∧ Blk wr w.heap.size 3 (lentTo (intV ss) (.int .i64 (-77)) (.int .i64 0) k) ∧ Below w.heap.size w wr) (fun iv _ => ss.length + 4 - (intOf iv).toNat)
  case atStart => exact ⟨0, Nat.zero_le _, rfl, HB.out, hb1⟩
  case round =>
    clear HB hb1
    obtain ⟨k, hk, rfl, hblk, hbel⟩ := hrel
    by_cases hlt : k < 4
    · have c1 := hblk.cell_some (lentTo_at (intV ss) (.int .i64 (-77)) (.int .i64 0) ss.length k (by simp [intV]) hlt)
      have f1 := hblk.free (ss.length + k)
      have HBL : Hid (Blk (wr.setCell ⟨w.heap.size, ss.length + k, none⟩ (.int .i64 (-77))) w.heap.size 3 (lentTo (intV ss) (.int .i64 (-77)) (.int .i64 0) (k + 1))) := (hblk.set _ _).eq (lentTo_next _ _ _ ss.length k (by simp [intV]) hlt)
      have hlt2 : (ss.length : Int) + (k : Int) < (ss.length : Int) + 4 := by omega
      clear hblk
      go_wp2
      go_roundw
      case rel => exact ⟨k + 1, by omega, by go_num, HBL.out, hbel.setCell (Nat.le_refl _) _⟩
      case measure => simp [intOf]; omega
    · obtain rfl : k = 4 := by omega
      go_wp2
      go_ret
      exact ⟨_, Nat.le_refl _, rfl, hblk, hbel⟩
theorem lent_get (vs : List Value) (x z : Value) (n i : Nat) (hn : vs.length = n) : (lentTo vs x z 4)[i]? = if i < n then vs[i]? else if i < n + 4 then some x else none := by
  unfold lentTo
  by_cases h : i < n
  · rw [List.getElem?_append_left (by omega), if_pos h]
  · rw [List.getElem?_append_right (by omega), if_neg h, hn]
    by_cases h2 : i < n + 4
    · rw [if_pos h2, List.getElem?_append_left (by rw [List.length_replicate]; omega), List.getElem?_replicate, if_pos (by omega)]
    · rw [if_neg h2, List.getElem?_eq_none (by simp; omega)]
theorem lent_length (vs : List Value) (x z : Value) (n : Nat) (hn : vs.length = n) : (lentTo vs x z 4).length = n + 4 := by simp [lentTo, hn]
set_option maxRecDepth 100000 in
theorem wholeT_nil (o : Value) (w : World) : Calls Tryd.prog 64 #[o, .slice none 0 0] w fun e w' => e = .returned (.bool true) ∧ w' = w := by
  have hnil := fun w => eql_nilT none 0 0 w
  go_enter Tryd.func64, Tryd.ntmps64
  go_wp2
  go_ret
  exact ⟨rfl, rfl⟩
set_option maxRecDepth 100000 in
theorem wholeI_nil (o : Value) (w : World) : Calls Tryd.prog 65 #[o, .slice none 0 0] w fun e w' => e = .returned (.bool true) ∧ w' = w := by
  have hnil := fun w => eql_nilI none 0 0 w
  go_enter Tryd.func65, Tryd.ntmps65
  go_wp2
  go_ret
  exact ⟨rfl, rfl⟩
set_option maxRecDepth 100000 in
set_option maxHeartbeats 400000 in
theorem wholeT_any (ss : List ByteArray) (ad : Addr) (c b : Nat) (w : World) (h : StrsAt w (.slice (some ad) ss.length c) ss) (hb : Blk w b 9 (lentTo (strV ss) (.string beyond) (.string ByteArray.empty) 4)) (hne : ad.block ≠ b) (hn : ss.length ≤ 8796093022204) :
    Calls Tryd.prog 64 #[.slice (some ⟨b, 0, none⟩) ss.length (ss.length + 4), .slice (some ad) ss.length c] w fun e w' => e = .returned (.bool true) ∧ But b w w' := by
  have hnil := fun w => eql_nilT (some ad) ss.length c w
  have HC : Hid (∀ j, (hj : j < ss.length) → ∃ q, ad = ⟨ad.block, q, none⟩ ∧ w.cell? ⟨ad.block, q + j, none⟩ = some (.string ss[j]) ∧ ad.block < w.heap.size) := by
    intro j hj
    obtain ⟨ao, cap, he, hx⟩ := h
    injection he with he _ _
    rcases hx with hx | ⟨b', off, hao, hlt, hc⟩
    · rw [hx] at hj; simp at hj
    · rw [← he] at hao
      injection hao with hao
      subst hao
      exact ⟨off, rfl, hc j hj, hlt⟩
  have hlen := lent_length (strV ss) (.string beyond) (.string ByteArray.empty) ss.length (by simp [strV])
  obtain ⟨vs, hvs⟩ : ∃ vs, vs = lentTo (strV ss) (.string beyond) (.string ByteArray.empty) 4 := ⟨_, rfl⟩
  rw [← hvs] at hb hlen
  have HG : Hid (∀ i, vs[i]? = if i < ss.length then (strV ss)[i]? else if i < ss.length + 4 then some (.string beyond) else none) := fun i => by rw [hvs]; exact lent_get _ _ _ _ _ (by simp [strV])
  have HLN : Hid (vs.length = ss.length + 4) := hlen
  have HB : Hid (Blk w b 9 vs) := hb
  have z1 : (0 : Int) ≤ (ss.length : Int) + 4 := by omega
  have z2 : ((ss.length : Int) + 4).toNat = ss.length + 4 := by omega
  have z3 : ¬ ss.length + 4 = 0 := by omega
  clear h hb hvs hlen
  go_enter Tryd.func64, Tryd.ntmps64
  go_wp2
  go_loopw [7, 8] (fun o iv wr => ∃ i : Nat, i ≤ ss.length + 4 ∧ o = .bool true ∧ iv = .int .i64 (i : Nat) ∧ Blk wr b 9 (mix (List.replicate (ss.length + 4) (.string mine)) vs i) ∧ But b w wr) (fun _ iv _ => ss.length + 4 - (intOf iv).toNat)
  case atStart => exact ⟨0, Nat.zero_le _, rfl, rfl, by rw [mix_zero]; exact HB.out, But.refl _ _⟩
  case round =>
    obtain ⟨i, hi, rfl, rfl, hblk, hbut⟩ := hrel
    by_cases hlt : i < ss.length + 4
    · have hml : (List.replicate (ss.length + 4) (Value.string mine)).length = vs.length := by rw [HLN.out]; simp
      have hil : i < vs.length := by rw [HLN.out]; exact hlt
      have c1 := hblk.cell_some (mix_at hml hil)
      have f1 := hblk.free i
      have HNW : Hid (Blk (wr.setCell ⟨b, i, none⟩ (.string mine)) b 9 (mix (List.replicate (ss.length + 4) (.string mine)) vs (i + 1))) := by
        refine (hblk.set i _).eq ?_
        rw [← mix_set hml hil]
        simp
      have HBT : Hid (But b w wr) := hbut
      have hg := HG.out i
      rw [List.getElem?_eq_getElem hil] at hg
      have l4 : (i : Int) < (ss.length : Int) + 4 := by omega
      by_cases hin : i < ss.length
      · rw [if_pos hin, show (strV ss)[i]? = some (.string ss[i]) by simp [strV, hin]] at hg
        injection hg with hg
        rw [hg] at c1
        obtain ⟨q, hq, hcq, hql⟩ := HC.out i hin
        have c2 : wr.cell? ⟨ad.block, q + i, none⟩ = some (.string ss[i]) := (hbut.cell (p := ⟨ad.block, q + i, none⟩) hne hql).trans hcq
        obtain ⟨ab, hab⟩ : ∃ ab, ab = ad.block := ⟨_, rfl⟩
        rw [← hab] at hq c2
        subst hq
        obtain ⟨x, hx⟩ : ∃ x, x = ss[i] := ⟨_, rfl⟩
        rw [← hx] at c1 c2
        have l1 : decide ((i : Int) < (ss.length : Int)) = true := decide_eq_true (by omega)
        clear hx hg hblk hcq hbut
        go_wp2
        go_roundw
        case rel => exact ⟨i + 1, by omega, by simp, by go_num, HNW.out, HBT.out.setCell _ _⟩
        case measure => simp [intOf]; omega
      · rw [if_neg hin, if_pos hlt] at hg
        injection hg with hg
        rw [hg] at c1
        have l1 : decide ((i : Int) < (ss.length : Int)) = false := decide_eq_false (by omega)
        clear hg hblk hbut
        go_wp2
        go_roundw
        case rel => exact ⟨i + 1, by omega, by simp [beyond], by go_num, HNW.out, HBT.out.setCell _ _⟩
        case measure => simp [intOf]; omega
    · obtain rfl : i = ss.length + 4 := by omega
      go_wp2
      go_ret
      exact ⟨rfl, hbut⟩
set_option maxRecDepth 100000 in
set_option maxHeartbeats 400000 in
theorem wholeI_any (ss : List Int) (ad : Addr) (c b : Nat) (w : World) (h : IsC w (.slice (some ad) ss.length c) ss) (hb : Blk w b 3 (lentTo (intV ss) (.int .i64 (-77)) (.int .i64 0) 4)) (hne : ad.block ≠ b) (hn : ss.length ≤ 17592186044412) :
    Calls Tryd.prog 65 #[.slice (some ⟨b, 0, none⟩) ss.length (ss.length + 4), .slice (some ad) ss.length c] w fun e w' => e = .returned (.bool true) ∧ But b w w' := by
  have hnil := fun w => eql_nilI (some ad) ss.length c w
  have HC : Hid (∀ j, (hj : j < ss.length) → ∃ q, ad = ⟨ad.block, q, none⟩ ∧ w.cell? ⟨ad.block, q + j, none⟩ = some (.int .i64 ss[j]) ∧ ad.block < w.heap.size) := by
    intro j hj
    obtain ⟨ao, cap, he, hx⟩ := h
    injection he with he _ _
    rcases hx with hx | ⟨b', off, hao, hlt, hc⟩
    · rw [hx] at hj; simp at hj
    · rw [← he] at hao
      injection hao with hao
      subst hao
      exact ⟨off, rfl, hc j hj, hlt⟩
  have hlen := lent_length (intV ss) (.int .i64 (-77)) (.int .i64 0) ss.length (by simp [intV])
  obtain ⟨vs, hvs⟩ : ∃ vs, vs = lentTo (intV ss) (.int .i64 (-77)) (.int .i64 0) 4 := ⟨_, rfl⟩
  rw [← hvs] at hb hlen
  have HG : Hid (∀ i, vs[i]? = if i < ss.length then (intV ss)[i]? else if i < ss.length + 4 then some (.int .i64 (-77)) else none) := fun i => by rw [hvs]; exact lent_get _ _ _ _ _ (by simp [intV])
  have HLN : Hid (vs.length = ss.length + 4) := hlen
  have HB : Hid (Blk w b 3 vs) := hb
  have z1 : (0 : Int) ≤ (ss.length : Int) + 4 := by omega
  have z2 : ((ss.length : Int) + 4).toNat = ss.length + 4 := by omega
  have z3 : ¬ ss.length + 4 = 0 := by omega
  clear h hb hvs hlen
  go_enter Tryd.func65, Tryd.ntmps65
  go_wp2
  go_loopw [7, 8] (fun o iv wr => ∃ i : Nat, i ≤ ss.length + 4 ∧ o = .bool true ∧ iv = .int .i64 (i : Nat) ∧ Blk wr b 3 (mix (List.replicate (ss.length + 4) (.int .i64 (-99))) vs i) ∧ But b w wr) (fun _ iv _ => ss.length + 4 - (intOf iv).toNat)
  case atStart => exact ⟨0, Nat.zero_le _, rfl, rfl, by rw [mix_zero]; exact HB.out, But.refl _ _⟩
  case round =>
    obtain ⟨i, hi, rfl, rfl, hblk, hbut⟩ := hrel
    by_cases hlt : i < ss.length + 4
    · have hml : (List.replicate (ss.length + 4) (Value.int .i64 (-99))).length = vs.length := by rw [HLN.out]; simp
      have hil : i < vs.length := by rw [HLN.out]; exact hlt
      have c1 := hblk.cell_some (mix_at hml hil)
      have f1 := hblk.free i
      have HNW : Hid (Blk (wr.setCell ⟨b, i, none⟩ (.int .i64 (-99))) b 3 (mix (List.replicate (ss.length + 4) (.int .i64 (-99))) vs (i + 1))) := by
        refine (hblk.set i _).eq ?_
        rw [← mix_set hml hil]
        simp
      have HBT : Hid (But b w wr) := hbut
      have hg := HG.out i
      rw [List.getElem?_eq_getElem hil] at hg
      have l4 : (i : Int) < (ss.length : Int) + 4 := by omega
      by_cases hin : i < ss.length
      · rw [if_pos hin, show (intV ss)[i]? = some (.int .i64 ss[i]) by simp [intV, hin]] at hg
        injection hg with hg
        rw [hg] at c1
        obtain ⟨q, hq, hcq, hql⟩ := HC.out i hin
        have c2 : wr.cell? ⟨ad.block, q + i, none⟩ = some (.int .i64 ss[i]) := (hbut.cell (p := ⟨ad.block, q + i, none⟩) hne hql).trans hcq
        obtain ⟨ab, hab⟩ : ∃ ab, ab = ad.block := ⟨_, rfl⟩
        rw [← hab] at hq c2
        subst hq
        obtain ⟨x, hx⟩ : ∃ x, x = ss[i] := ⟨_, rfl⟩
        rw [← hx] at c1 c2
        have l1 : decide ((i : Int) < (ss.length : Int)) = true := decide_eq_true (by omega)
        clear hx hg hblk hcq hbut
        go_wp2
        go_roundw
        case rel => exact ⟨i + 1, by omega, by simp, by go_num, HNW.out, HBT.out.setCell _ _⟩
        case measure => simp [intOf]; omega
      · rw [if_neg hin, if_pos hlt] at hg
        injection hg with hg
        rw [hg] at c1
        have l1 : decide ((i : Int) < (ss.length : Int)) = false := decide_eq_false (by omega)
        clear hg hblk hbut
        go_wp2
        go_roundw
        case rel => exact ⟨i + 1, by omega, by simp, by go_num, HNW.out, HBT.out.setCell _ _⟩
        case measure => simp [intOf]; omega
    · obtain rfl : i = ss.length + 4 := by omega
      go_wp2
      go_ret
      exact ⟨rfl, hbut⟩
end Go.Proofs.YtokmllopbfmadaaDoor.Book
