import Derived.Test.YtmlnejlhgbonpaaDoorTopMem
import Derived.Test.YtmlnejlhgbonpaaDoorNum
import Derived.Test.YtmlnejlhgbonpaaDoorBookTexts
import Derived.Test.YtmlnejlhgbonpaaDoorBookFull
namespace Go.Proofs.YtmlnejlhgbonpaaDoor.Top
open Go.RowKit Mem FieldWalks Tab ByTab Parts Book

set_option maxRecDepth 100000 in
set_option maxHeartbeats 1000000 in
theorem bspread_ok (hS : SumsOk) (B b c : Nat) (d s x : Nat) (str : ByteArray) (hd : 1 ≤ d) (hd2 : d ≤ 10) (hs : s ≤ 6) (hx : x ≤ 2) (hn : str.size ≤ 400) (w : World) (ht : Table w) (hbook : BookAt w B b c w.heap.size) (hc : c ≤ 8) :
    Calls Tryd.prog 24 #[.pointer (some ⟨b, 0, none⟩), .int .i64 d, .int .i64 s, .int .i64 x, .string str] w fun e w' => e = .returned (.bool true) ∧ BookAt w' B b (c + 1) w'.heap.size ∧ Below B w w' := by
  have HB : Hid (BookAt w B b c w.heap.size) := hbook
  have hBb := hbook.1
  have hblt : b < w.heap.size := by obtain ⟨_, kv, es, _, h, _⟩ := hbook; exact h.lt
  clear hbook
  go_enter Tryd.func24, Tryd.ntmps24
  go_wp2_with fail
  refine (wSpread_ok hS d s x str hd hd2 hs hx hn _ ht).mono ?_
  rintro e w1 ⟨lb, hlb, rfl, hblk, hb1⟩
  go_wp2_with fail
  refine (Ref.rSpread_ok d s x str _ hd hd2 hs hx hn rfl _).mono ?_
  rintro e w2 ⟨v, rfl, hst, hb2⟩
  have hblk2 := hblk.to hb2
  have hst1 := StrsAt.of_blk hblk2 (d + s) (d + s) (by rw [pieces_length])
  have hst2 : StrsAt w2 v (pieces d s str) := hst
  clear hblk hst
  go_wp2_with fail
  refine (sameT_yes (pieces d s str) _ _ _ hst1 hst2 (by rw [pieces_length]; omega)).mono ?_
  rintro e w3 ⟨rfl, nq, rfl⟩
  have hb02 := hb1.trans (hb2.mono hb1.size)
  have hb3 : Below w.heap.size w (w2.drewN nq) := below_drewN hb02 nq
  have hbk3 := (HB.out.to hb3).mono (M := lb) hlb
  clear hst1 hst2
  have htx := texts_any B b c lb (d + s) (some ⟨lb, 0, none⟩) (strV (pieces d s str)) (w2.drewN nq) hbk3 hc (by omega) (by omega) (by simp [strV, pieces_length]) (.inr ⟨rfl, hblk2⟩)
  clear hbk3 hblk2
  go_wp2_with fail
  refine Calls.mono htx ?_
  rintro e w4 ⟨rfl, hbk4, hb4⟩
  have hB : B ≤ w.heap.size := by omega
  have hb04 := (hb3.mono hB).trans hb4
  clear htx
  go_wp2_with fail
  refine (num_any _ _).mono ?_
  rintro e w' ⟨rfl, rfl⟩
  go_wp2
  go_ret
  exact ⟨rfl, hbk4, hb04⟩

set_option maxRecDepth 100000 in
set_option maxHeartbeats 1000000 in
theorem bspread_no (B b c : Nat) (d s x : Int) (str : ByteArray) (hlen : str.size ≤ maxLen) (hE : spreadE d s x str.size ≠ 0) (w : World) (hbook : BookAt w B b c w.heap.size) (hc : c ≤ 8) :
    Calls Tryd.prog 24 #[.pointer (some ⟨b, 0, none⟩), .int .i64 d, .int .i64 s, .int .i64 x, .string str] w fun e w' => e = .returned (.bool true) ∧ BookAt w' B b (c + 1) w'.heap.size ∧ Below B w w' := by
  have hblt : b < w.heap.size := by obtain ⟨_, kv, es, _, h, _⟩ := hbook; exact h.lt
  have hBb := hbook.1
  have HB : Hid (BookAt w B b c w.heap.size) := hbook
  have HL : Hid (str.size ≤ maxLen) := hlen
  have HE : Hid (spreadE d s x str.size ≠ 0) := hE
  obtain ⟨er, her⟩ : ∃ er, er = spreadE d s x str.size := ⟨_, rfl⟩
  have w1 := wSpread_no d s x str hlen hE
  have w2 := rSpread_no d s x str hlen hE
  rw [← her] at w1 w2
  have W1 : Hid _ := w1
  have W2 : Hid _ := w2
  clear hbook hlen hE her w1 w2
  go_enter Tryd.func24, Tryd.ntmps24
  go_wp2_with fail
  refine Calls.mono (W1.out _) ?_
  rintro e w' ⟨rfl, rfl⟩
  go_wp2_with fail
  refine Calls.mono (W2.out _) ?_
  rintro e w' ⟨rfl, rfl⟩
  have hs0 : StrsAt w' (.slice none 0 0) [] := ⟨none, 0, rfl, .inl rfl⟩
  go_wp2_with fail
  refine (sameT_yes [] _ _ _ hs0 hs0 (by simp)).mono ?_
  rintro e w3 ⟨rfl, nq, rfl⟩
  have hb3 : Below w'.heap.size w' (w'.drewN nq) := below_drew nq
  have hbk3 := HB.out.to hb3
  clear hs0
  have htx := texts_any B b c w'.heap.size 0 none [] (w'.drewN nq) hbk3 hc (by omega) (by omega) rfl (.inl ⟨rfl, rfl⟩)
  clear hbk3
  go_wp2_with fail
  refine Calls.mono htx ?_
  rintro e w4 ⟨rfl, hbk4, hb4⟩
  have hb04 := (hb3.mono (by omega)).trans hb4
  clear htx
  go_wp2_with fail
  refine (num_any _ _).mono ?_
  rintro e w' ⟨rfl, rfl⟩
  go_wp2
  go_ret
  exact ⟨rfl, hbk4, hb04⟩
theorem bspread_any (hS : SumsOk) (B b c : Nat) (d s x : Int) (str : ByteArray) (hlen : str.size ≤ maxLen) (w : World) (ht : Table w) (hbook : BookAt w B b c w.heap.size) (hc : c ≤ 8) :
    Calls Tryd.prog 24 #[.pointer (some ⟨b, 0, none⟩), .int .i64 d, .int .i64 s, .int .i64 x, .string str] w fun e w' => e = .returned (.bool true) ∧ BookAt w' B b (c + 1) w'.heap.size ∧ Below B w w' := by
  by_cases hE : spreadE d s x str.size = 0
  · have h1 : okCounts d s = true := by
      cases h : okCounts d s
      · simp [spreadE, h] at hE
      · rfl
    have h2 : okWay x = true := by
      cases h : okWay x
      · simp [spreadE, h1, h] at hE
      · rfl
    have h3 : str.size ≤ 400 := by
      by_cases h : 400 < str.size
      · simp [spreadE, h1, h2, h] at hE
      · omega
    have h1' := of_decide_eq_true h1
    have h2' := of_decide_eq_true h2
    obtain ⟨d, rfl⟩ := Int.eq_ofNat_of_zero_le (show 0 ≤ d by omega)
    obtain ⟨s, rfl⟩ := Int.eq_ofNat_of_zero_le (show 0 ≤ s by omega)
    obtain ⟨x, rfl⟩ := Int.eq_ofNat_of_zero_le (show 0 ≤ x by omega)
    exact bspread_ok hS B b c d s x str (by omega) (by omega) (by omega) (by omega) h3 w ht hbook hc
  · exact bspread_no B b c d s x str hlen hE w hbook hc

theorem pieces_ex : pieces 2 1 ⟨#[1, 1]⟩ = [⟨#[1]⟩, ⟨#[1]⟩, ⟨#[122]⟩] := by decide +kernel

set_option maxRecDepth 100000 in
set_option maxHeartbeats 1000000 in
theorem spreads_any (hS : SumsOk) (d s x : Int) (str : ByteArray) (hlen : str.size ≤ maxLen) (w : World) (ht : Table w) (h0 : 0 < w.heap.size) :
    Calls Tryd.prog 5 #[.int .i64 d, .int .i64 s, .int .i64 x, .string str] w fun e w' => e = .returned (.bool true) ∧ Below w.heap.size w w' := by
  have HL : Hid (str.size ≤ maxLen) := hlen
  clear hlen
  go_enter Tryd.func5, Tryd.ntmps5
  have hb0 : BookAt (w.alloc (.cells #[.int .i64 0, .slice none 0 0] 37)) w.heap.size w.heap.size 0 (w.alloc (.cells #[.int .i64 0, .slice none 0 0] 37)).heap.size := BookAt.start w _ (Nat.le_refl _) _
  have ht1 := table_to ht (below_alloc w (.cells #[.int .i64 0, .slice none 0 0] 37))
  have hw0 : Below w.heap.size w (w.alloc (.cells #[.int .i64 0, .slice none 0 0] 37)) := below_alloc w _
  have hex := wSpread_ok hS 2 1 0 ⟨#[1, 1]⟩ (by omega) (by omega) (by omega) (by omega) (by decide) (w.alloc (.cells #[.int .i64 0, .slice none 0 0] 37)) ht1
  have HB0 : Hid _ := hb0
  have HW0 : Hid _ := hw0
  have HT : Hid (Table w) := ht
  clear hb0 ht1 hw0 ht
  go_wp2_with fail
  refine Calls.mono hex ?_
  rintro e w1 ⟨lb, hlb, rfl, hblk, hb1⟩
  have hbk1 := BookAt.to HB0.out hb1
  have hb01 := HW0.out.trans (hb1.mono HW0.out.size)
  have hpx : pieces 2 1 ⟨#[1, 1]⟩ = [⟨#[1]⟩, ⟨#[1]⟩, ⟨#[122]⟩] := pieces_ex
  rw [hpx] at hblk
  clear hex hpx
  have hbA : Below w1.heap.size w1 (w1.alloc (.cells #[.string ⟨#[1]⟩, .string ⟨#[1]⟩, .string ⟨#[122]⟩] 9)) := below_alloc w1 _
  have hsA : StrsAt (w1.alloc (.cells #[.string ⟨#[1]⟩, .string ⟨#[1]⟩, .string ⟨#[122]⟩] 9)) (.slice (some ⟨lb, 0, none⟩) 3 3) [⟨#[1]⟩, ⟨#[1]⟩, ⟨#[122]⟩] := (StrsAt.of_blk (w := w1) hblk 3 3 rfl).to hbA
  have hsB : StrsAt (w1.alloc (.cells #[.string ⟨#[1]⟩, .string ⟨#[1]⟩, .string ⟨#[122]⟩] 9)) (.slice (some ⟨w1.heap.size, 0, none⟩) 3 3) [⟨#[1]⟩, ⟨#[1]⟩, ⟨#[122]⟩] := StrsAt.of_blk (Blk.new w1 _ _) 3 3 rfl
  have hsame := sameT_yes [⟨#[1]⟩, ⟨#[1]⟩, ⟨#[122]⟩] _ _ _ hsA hsB (by decide)
  have HBA : Hid (Below w1.heap.size w1 (w1.alloc (.cells #[.string ⟨#[1]⟩, .string ⟨#[1]⟩, .string ⟨#[122]⟩] 9))) := hbA
  have HBL : Hid (Blk w1 lb 9 (strV [⟨#[1]⟩, ⟨#[1]⟩, ⟨#[122]⟩])) := hblk
  have HBK : Hid (BookAt w1 w.heap.size w.heap.size 0 (w.alloc (.cells #[.int .i64 0, .slice none 0 0] 37)).heap.size) := hbk1
  clear hsA hsB hbA hblk hbk1
  go_wp2_with fail
  refine Calls.mono hsame ?_
  rintro e w2 ⟨rfl, nq, rfl⟩
  clear hsame
  have hb12 : Below w1.heap.size w1 ((w1.alloc (.cells #[.string ⟨#[1]⟩, .string ⟨#[1]⟩, .string ⟨#[122]⟩] 9)).drewN nq) := below_drewN HBA.out nq
  have hblk2 := HBL.out.to hb12
  have hbk2 := HBK.out.to hb12
  have hb02 := hb01.trans (hb12.mono hb01.size)
  generalize (w1.alloc (.cells #[.string ⟨#[1]⟩, .string ⟨#[1]⟩, .string ⟨#[122]⟩] 9)).drewN nq = w2 at *
  clear hb12
  go_wp2_with fail
  refine (num_any _ _).mono ?_
  rintro e w' ⟨rfl, rfl⟩
  have hlb' : w.heap.size + 1 ≤ lb := by simpa using hlb
  have htx := texts_any w.heap.size w.heap.size 0 lb 3 (some ⟨lb, 0, none⟩) _ w' (hbk2.mono (M := lb) (by simpa using hlb)) (by omega) (by omega) (by omega) rfl (.inr ⟨rfl, hblk2⟩)
  clear hbk2 hblk2
  go_wp2_with fail
  refine Calls.mono htx ?_
  rintro e w3 ⟨rfl, hbk3, hb3⟩
  have hb03 := hb02.trans hb3
  clear htx
  have hT3 := table_below HT.out hb03 h0
  have hs1 := bspread_any hS w.heap.size w.heap.size 1 d s x str HL.out w3 hT3 hbk3 (by omega)
  clear hbk3
  go_wp2_with fail
  refine Calls.mono hs1 ?_
  rintro e w4 ⟨rfl, hbk4, hb4⟩
  have hb04 := hb03.trans hb4
  clear hs1 hT3
  have hT4 := table_below HT.out hb04 h0
  have hs2 := bspread_any hS w.heap.size w.heap.size 2 d s x str HL.out w4 hT4 hbk4 (by omega)
  clear hbk4
  go_wp2_with fail
  refine Calls.mono hs2 ?_
  rintro e w5 ⟨rfl, hbk5, hb5⟩
  have hb05 := hb04.trans hb5
  clear hs2 hT4
  have hlk := looks_any _ _ _ _ w5 hbk5 (by omega)
  clear hbk5
  go_wp2_with fail
  refine Calls.mono hlk ?_
  rintro e w6 ⟨rfl, hb6⟩
  have hb06 := hb05.trans (hb6.mono hb05.size)
  clear hlk
  go_wp2
  go_ret
  exact ⟨rfl, hb06⟩
end Go.Proofs.YtmlnejlhgbonpaaDoor.Top
