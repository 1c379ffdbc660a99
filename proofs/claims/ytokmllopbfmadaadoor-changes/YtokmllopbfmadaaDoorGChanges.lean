import Derived.Test.YtokmllopbfmadaaDoorGBookGather
namespace Go.Proofs.YtokmllopbfmadaaDoor.Top
open Go.RowKit Mem FieldWalks Tab ByTab Parts Book Ref
open Gf (newP)
open Plans (rowF)

theorem change_ex : ((List.range (2 + 1)).map fun p => mkS (rowF 1 (newP 2 1 1 (nums ⟨#[0]⟩) (⟨#[0]⟩ : ByteArray).size (oldOf [⟨#[1]⟩, ⟨#[1]⟩, ⟨#[122]⟩]) p))) = [⟨#[1]⟩, ⟨#[0]⟩, ⟨#[142]⟩] := by decide +kernel
theorem change_ex_shape : ShapeOk 2 1 1 [⟨#[1]⟩, ⟨#[1]⟩, ⟨#[122]⟩] [] := by
  refine ⟨rfl, fun k hk => by simp at hk, fun p hp _ => ?_⟩
  match p, hp with
  | 0, _ => rfl
  | 1, _ => rfl
  | 2, _ => rfl

set_option maxRecDepth 100000 in
set_option maxHeartbeats 1000000 in
theorem changes_any (d s n a : Int) (pieces : List ByteArray) (text : ByteArray) (pv : Value) (w : World) (ht : Table w) (h0 : 0 < w.heap.size)
    (hp : CameT w pv pieces.length) (hst : StrsAt w pv pieces) (hpl : pieces.length ≤ 8796093022204) (hsz : ∀ p, (h : p < pieces.length) → pieces[p].size < 2 ^ 62) (hlen : text.size ≤ maxLen)
    (ha1 : -(2 : Int) ^ 63 ≤ a) (ha2 : a < (2 : Int) ^ 63) :
    Calls Tryd.prog 7 #[.int .i64 d, .int .i64 s, .int .i64 n, pv, .int .i64 a, .string text] w fun e w' => e = .returned (.bool true) ∧ Below w.heap.size w w' := by
  have HH : Hid (CameT w pv pieces.length ∧ StrsAt w pv pieces ∧ pieces.length ≤ 8796093022204 ∧ (∀ p, (h : p < pieces.length) → pieces[p].size < 2 ^ 62) ∧ text.size ≤ maxLen ∧ -(2 : Int) ^ 63 ≤ a ∧ a < (2 : Int) ^ 63) := ⟨hp, hst, hpl, hsz, hlen, ha1, ha2⟩
  clear hp hst hpl hsz hlen ha1 ha2
  obtain ⟨wb, hwb⟩ : ∃ wb, wb = w.alloc (.cells #[.int .i64 0, .slice none 0 0] 37) := ⟨_, rfl⟩
  have hb0 : BookAt wb w.heap.size w.heap.size 0 wb.heap.size := by rw [hwb]; exact BookAt.start w _ (Nat.le_refl _) _
  have hw0 : Below w.heap.size w wb := by rw [hwb]; exact below_alloc w _
  have hwbs : wb.heap.size = w.heap.size + 1 := by rw [hwb]; simp
  obtain ⟨wl, hwl⟩ : ∃ wl, wl = wb.alloc (.cells #[.string ⟨#[1]⟩, .string ⟨#[1]⟩, .string ⟨#[122]⟩] 9) := ⟨_, rfl⟩
  have hbl : Below wb.heap.size wb wl := by rw [hwl]; exact below_alloc wb _
  have hstl : StrsAt wl (.slice (some ⟨wb.heap.size, 0, none⟩) 3 3) [⟨#[1]⟩, ⟨#[1]⟩, ⟨#[122]⟩] := by rw [hwl]; exact StrsAt.of_blk (Blk.new wb _ _) 3 3 rfl
  have hex := wChange_ok (.slice (some ⟨wb.heap.size, 0, none⟩) 3 3) ⟨#[0]⟩ wl 2 1 2 1 1 [⟨#[1]⟩, ⟨#[1]⟩, ⟨#[122]⟩] (table_to (table_to ht hw0) hbl) hstl (by omega) (by omega) (by omega) (by omega) (by decide) (fun p h => by rw [change_ex_shape.sizes p h (by simp)]; decide) change_ex_shape (by decide)
  rw [change_ex] at hex
  have HEX : Hid _ := hex
  have HB0 : Hid (BookAt wb w.heap.size w.heap.size 0 wb.heap.size) := hb0
  have HW0 : Hid (Below w.heap.size w wb) := hw0
  have HBLW : Hid (Below wb.heap.size wb wl) := hbl
  have HT : Hid (Table w) := ht
  have HWL : Hid ((w.alloc (.cells #[.int .i64 0, .slice none 0 0] 37)).alloc (.cells #[.string ⟨#[1]⟩, .string ⟨#[1]⟩, .string ⟨#[122]⟩] 9) = wl) := by show _ = _; rw [hwl, hwb]
  have HWBS : Hid (wb.heap.size = w.heap.size + 1) := hwbs
  have hwbs2 : w.heap.size + 1 ≤ wb.heap.size := by omega
  rw [hwbs] at HEX
  clear hb0 hw0 hbl hstl hex ht hwl hwb hwbs
  go_enter Tryd.func7, Tryd.ntmps7
  go_wp2_with fail
  rw [HWL.out]
  refine Calls.mono HEX.out ?_
  rintro e w1 ⟨lb, hlb, rfl, hblk, hb1⟩
  have hbk1 := (HB0.out.to HBLW.out).to hb1
  have hb01 := (HW0.out.trans (HBLW.out.mono (by omega))).trans (hb1.mono (by have := HBLW.out.size; omega))
  have hlb' : wb.heap.size ≤ lb := Nat.le_trans HBLW.out.size hlb
  have hbA : Below w1.heap.size w1 (w1.alloc (.cells #[.string ⟨#[1]⟩, .string ⟨#[0]⟩, .string ⟨#[142]⟩] 9)) := below_alloc w1 _
  have hsA : StrsAt (w1.alloc (.cells #[.string ⟨#[1]⟩, .string ⟨#[0]⟩, .string ⟨#[142]⟩] 9)) (.slice (some ⟨lb, 0, none⟩) 3 3) [⟨#[1]⟩, ⟨#[0]⟩, ⟨#[142]⟩] := (StrsAt.of_blk (w := w1) hblk 3 3 rfl).to hbA
  have hsB : StrsAt (w1.alloc (.cells #[.string ⟨#[1]⟩, .string ⟨#[0]⟩, .string ⟨#[142]⟩] 9)) (.slice (some ⟨w1.heap.size, 0, none⟩) 3 3) [⟨#[1]⟩, ⟨#[0]⟩, ⟨#[142]⟩] := StrsAt.of_blk (Blk.new w1 _ _) 3 3 rfl
  have hsame := sameT_yes [⟨#[1]⟩, ⟨#[0]⟩, ⟨#[142]⟩] _ _ _ hsA hsB (by decide)
  have HBA : Hid (Below w1.heap.size w1 (w1.alloc (.cells #[.string ⟨#[1]⟩, .string ⟨#[0]⟩, .string ⟨#[142]⟩] 9))) := hbA
  have HBL : Hid (Blk w1 lb 9 (strV [⟨#[1]⟩, ⟨#[0]⟩, ⟨#[142]⟩])) := hblk
  have HBK : Hid (BookAt w1 w.heap.size w.heap.size 0 wb.heap.size) := hbk1
  clear hsA hsB hbA hblk hbk1 hlb
  go_wp2_with fail
  refine Calls.mono hsame ?_
  rintro e w2 ⟨rfl, nq, rfl⟩
  clear hsame
  have hb12 : Below w1.heap.size w1 ((w1.alloc (.cells #[.string ⟨#[1]⟩, .string ⟨#[0]⟩, .string ⟨#[142]⟩] 9)).drewN nq) := below_drewN HBA.out nq
  have hblk2 := HBL.out.to hb12
  have hbk2 := HBK.out.to hb12
  have hb02 := hb01.trans (hb12.mono hb01.size)
  generalize (w1.alloc (.cells #[.string ⟨#[1]⟩, .string ⟨#[0]⟩, .string ⟨#[142]⟩] 9)).drewN nq = w2 at *
  clear hb12
  go_wp2_with fail
  refine (num_any _ _).mono ?_
  rintro e w' ⟨rfl, rfl⟩
  have htx := texts_any w.heap.size w.heap.size 0 lb 3 (some ⟨lb, 0, none⟩) _ w' (hbk2.mono (M := lb) hlb') (by omega) (by omega) (by omega) rfl (.inr ⟨rfl, hblk2⟩)
  clear hbk2 hblk2
  go_wp2_with fail
  refine Calls.mono htx ?_
  rintro e w3 ⟨rfl, hbk3, hb3⟩
  have hb03 := hb02.trans hb3
  clear htx
  have hT3 := table_below HT.out hb03 h0
  have hs1 := bchange_any w.heap.size w.heap.size 1 d s n a pieces text pv w3 hT3 hbk3 (by omega) (HH.out.1.to hb03.size) (HH.out.2.1.to hb03) HH.out.2.2.1 HH.out.2.2.2.1 HH.out.2.2.2.2.1 HH.out.2.2.2.2.2.1 HH.out.2.2.2.2.2.2
  clear hbk3
  go_wp2_with fail
  refine Calls.mono hs1 ?_
  rintro e w4 ⟨rfl, hbk4, hb4⟩
  have hb04 := hb03.trans hb4
  clear hs1 hT3
  have hT4 := table_below HT.out hb04 h0
  have hs2 := bchange_any w.heap.size w.heap.size 2 d s n a pieces text pv w4 hT4 hbk4 (by omega) (HH.out.1.to hb04.size) (HH.out.2.1.to hb04) HH.out.2.2.1 HH.out.2.2.2.1 HH.out.2.2.2.2.1 HH.out.2.2.2.2.2.1 HH.out.2.2.2.2.2.2
  clear hbk4
  go_wp2_with fail
  refine Calls.mono hs2 ?_
  rintro e w5 ⟨rfl, hbk5, hb5⟩
  have hb05 := hb04.trans hb5
  clear hs2 hT4
  have hlk := looks_any _ _ _ _ w5 hbk5 (by omega)
  clear hbk5
  go_wp2_with fail
  refine Calls.mono hlk ?_
  rintro e w6 ⟨rfl, hb6⟩
  have hb06 := hb05.trans (hb6.mono hb05.size)
  clear hlk
  go_wp2
  go_ret
  exact ⟨rfl, hb06⟩
end Go.Proofs.YtokmllopbfmadaaDoor.Top
