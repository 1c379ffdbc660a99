import Derived.Test.YtlnpppdffhibjaaDoorAppend
import Derived.Test.YtlnpppdffhibjaaDoorRun
namespace Go.Proofs.YtlnpppdffhibjaaDoor.Plans
open Go.RowKit Mem FieldWalks Tab ByTab Planes

/-- The slots of one piece that turn a bit of its product with f: behind b of its bits. -/
def turnIn (f bit o : Nat) : Nat → List Nat
  | 0 => []
  | b + 1 => turnIn f bit o b ++ (if (Gf.times f (2 ^ b)).testBit bit then [o + b] else [])
/-- The slots of the first j pieces that turn a bit of the sum. -/
def turnTo (row : List Nat) (bit : Nat) : Nat → List Nat
  | 0 => []
  | j + 1 => turnTo row bit j ++ turnIn (row.getD j 0) bit (8 * j) 8
theorem turnIn_le (f bit o b : Nat) : (turnIn f bit o b).length ≤ b := by
  induction b with
  | zero => simp [turnIn]
  | succ b ih => unfold turnIn; split <;> simp <;> omega
theorem turnTo_le (row : List Nat) (bit j : Nat) : (turnTo row bit j).length ≤ 8 * j := by
  induction j with
  | zero => simp [turnTo]
  | succ j ih => unfold turnTo; have := turnIn_le (row.getD j 0) bit (8 * j) 8; rw [List.length_append]; omega
/-- The columns of a row of factors, side by side. -/
def colsRow (row : List Nat) (n : Nat) : List Nat := rowF (8 * n) fun i => Gf.times (row.getD (i / 8) 0) (2 ^ (i % 8))
theorem cols_cell {w : World} {C n : Nat} {row : List Nat} (h : Blk w C 143 (bytesV (colsRow row n))) {j : Nat} (hj : j < n) (r : Nat) (hr : r < 8) : w.cell? ⟨C, j * 8 + r, none⟩ = some (.int .u8 (Gf.times (row.getD j 0) (2 ^ r) : Nat)) := by
  refine h.cell_some ?_
  rw [bytesV_at (by simp [colsRow]; omega)]
  simp only [colsRow, rowF_at]
  rw [show (j * 8 + r) / 8 = j by omega, show (j * 8 + r) % 8 = r by omega]
theorem bit_is (c n : Nat) (hc : c < 256) : bits .and .u8 ((c : Int) / 2 ^ n) 1 = if c.testBit n then 1 else 0 := by
  have hl : c / 2 ^ n < 256 := Nat.lt_of_le_of_lt (Nat.div_le_self _ _) hc
  rw [Gf.cast_shr, show (1 : Int) = ((1 : Nat) : Int) from rfl, u8_and_nat _ _ hl (by omega), nat_mask1, Gf.testBit_div]
  have hlt : c / 2 ^ n % 2 < 2 := Nat.mod_lt _ (by omega)
  generalize c / 2 ^ n % 2 = t at hlt ⊢
  rcases (show t = 0 ∨ t = 1 by omega) with rfl | rfl <;> rfl
theorem cols_list (f : Nat) : [Value.int .u8 (Gf.times f (2 ^ 0) : Nat), .int .u8 (Gf.times f (2 ^ 1) : Nat), .int .u8 (Gf.times f (2 ^ 2) : Nat), .int .u8 (Gf.times f (2 ^ 3) : Nat), .int .u8 (Gf.times f (2 ^ 4) : Nat), .int .u8 (Gf.times f (2 ^ 5) : Nat), .int .u8 (Gf.times f (2 ^ 6) : Nat), .int .u8 (Gf.times f (2 ^ 7) : Nat)] = bytesV (colsOf f) := rfl
theorem turn_yes (l : List Nat) (f bit o b : Nat) (h : (Gf.times f (2 ^ b)).testBit bit = true) : intsV (l ++ turnIn f bit o b) ++ [.int .i64 ((o + b : Nat) : Int)] = intsV (l ++ turnIn f bit o (b + 1)) ∧ (l ++ turnIn f bit o b).length + 1 = (l ++ turnIn f bit o (b + 1)).length := by
  simp [turnIn, h, intsV]; omega
theorem turn_no (f bit o b : Nat) (h : (Gf.times f (2 ^ b)).testBit bit = false) : turnIn f bit o (b + 1) = turnIn f bit o b := by
  simp [turnIn, h]
theorem colsOf_at (f b : Nat) (hb : b < 8) : (bytesV (colsOf f))[b]? = some (.int .u8 (Gf.times f (2 ^ b) : Nat)) := by
  rw [bytesV_at (by simpa [colsOf] using hb)]; simp [colsOf]

set_option maxRecDepth 100000 in
set_option maxHeartbeats 1000000 in
theorem turners_any (row : List Nat) (n bit C : Nat) (w : World) (hC : Blk w C 143 (bytesV (colsRow row n))) (hr : Gf.Bytes row) (hn : n ≤ 100) (hbit : bit < 8) :
    Calls Tryd.prog 109 #[.slice (some ⟨C, 0, none⟩) n n, .int .i64 bit] w fun e w' => ∃ v, e = .returned v ∧ w'.ownsRow w.heap.size 3 1 v (turnTo row bit n).length (intsV (turnTo row bit n)) ∧ Below w.heap.size w w' := by
  have HC : Hid (Blk w C 143 (bytesV (colsRow row n))) := hC
  have hClt := hC.lt
  clear hC
  go_enter Tryd.func109, Tryd.ntmps109
  go_wp2
  go_loopw [5, 11] (fun t i wr => ∃ j : Nat, j ≤ n ∧ i = .int .i64 j ∧ wr.ownsRow w.heap.size 3 1 t (turnTo row bit j).length (intsV (turnTo row bit j)) ∧ Below w.heap.size w wr) (fun _ i _ => n - (intOf i).toNat)
  case atStart => exact ⟨0, Nat.zero_le _, rfl, World.ownsRow_nil _ _ _ _, Below.refl _ _⟩
  case round =>
    obtain ⟨j, hj, rfl, hown, hbel⟩ := hrel
    by_cases hlt : j < n
    · have hC1 := HC.out.to hbel
      have d0 := cols_cell hC1 hlt 0 (by decide)
      have d1 := cols_cell hC1 hlt 1 (by decide)
      have d2 := cols_cell hC1 hlt 2 (by decide)
      have d3 := cols_cell hC1 hlt 3 (by decide)
      have d4 := cols_cell hC1 hlt 4 (by decide)
      have d5 := cols_cell hC1 hlt 5 (by decide)
      have d6 := cols_cell hC1 hlt 6 (by decide)
      have d7 := cols_cell hC1 hlt 7 (by decide)
      have hfb := hr.getD j
      have HT : Hid (turnTo row bit (j + 1) = turnTo row bit j ++ turnIn (row.getD j 0) bit (8 * j) 8) := rfl
      generalize row.getD j 0 = f at d0 d1 d2 d3 d4 d5 d6 d7 hfb HT
      have hcl := cols_list f
      have HCL : Hid (_ = bytesV (colsOf f)) := hcl
      rw [Nat.add_zero] at d0
      have hfx : ∀ b, Gf.times f (2 ^ b) < 256 := fun b => Gf.times_lt _ _ hfb
      have HFX : Hid (∀ b, Gf.times f (2 ^ b) < 256) := hfx
      clear hcl hfx hC1
      generalize e0 : Gf.times f (2 ^ 0) = x0 at d0 HCL
      generalize e1 : Gf.times f (2 ^ 1) = x1 at d1 HCL
      generalize e2 : Gf.times f (2 ^ 2) = x2 at d2 HCL
      generalize e3 : Gf.times f (2 ^ 3) = x3 at d3 HCL
      generalize e4 : Gf.times f (2 ^ 4) = x4 at d4 HCL
      generalize e5 : Gf.times f (2 ^ 5) = x5 at d5 HCL
      generalize e6 : Gf.times f (2 ^ 6) = x6 at d6 HCL
      generalize e7 : Gf.times f (2 ^ 7) = x7 at d7 HCL
      clear e0 e1 e2 e3 e4 e5 e6 e7
      have HOWN : Hid (wr.ownsRow w.heap.size 3 1 _ (turnTo row bit j).length (intsV (turnTo row bit j))) := hown
      clear hown
      go_wp2
      have hsz := hbel.size
      obtain ⟨wo, rfl⟩ : ∃ wo, wo = wr := ⟨_, rfl⟩
      go_loopw [5, 16] (fun t i wq => ∃ b : Nat, b ≤ 8 ∧ i = .int .i64 b ∧ wq.ownsRow w.heap.size 3 1 t (turnTo row bit j ++ turnIn f bit (8 * j) b).length (intsV (turnTo row bit j ++ turnIn f bit (8 * j) b)) ∧ Blk wq wo.heap.size 143 (bytesV (colsOf f)) ∧ Below w.heap.size w wq) (fun _ i _ => 8 - (intOf i).toNat)
      case atStart =>
        refine ⟨0, Nat.zero_le _, rfl, ?_, (Blk.new wo _ _).eq HCL.out, hbel.alloc hsz _⟩
        rw [turnIn, List.append_nil]; exact HOWN.out.alloc _
      case round =>
        obtain ⟨b, hb, rfl, hown, hcol, hbq⟩ := hrel
        clear hbel
        by_cases hblt : b < 8
        · have hc := hcol.cell_some (colsOf_at f b hblt)
          have hxb := HFX.out b
          have hby := turn_yes (turnTo row bit j) f bit (8 * j) b
          have hbn := turn_no f bit (8 * j) b
          have HY : Hid ((Gf.times f (2 ^ b)).testBit bit = true → intsV (turnTo row bit j ++ turnIn f bit (8 * j) b) ++ [.int .i64 ((8 * j + b : Nat) : Int)] = intsV (turnTo row bit j ++ turnIn f bit (8 * j) (b + 1)) ∧ (turnTo row bit j ++ turnIn f bit (8 * j) b).length + 1 = (turnTo row bit j ++ turnIn f bit (8 * j) (b + 1)).length) := hby
          have HN : Hid ((Gf.times f (2 ^ b)).testBit bit = false → turnIn f bit (8 * j) (b + 1) = turnIn f bit (8 * j) b) := hbn
          clear hby hbn
          have hle : (turnTo row bit j ++ turnIn f bit (8 * j) b).length ≤ 1000 := by
            have h1 := turnTo_le row bit j
            have h2 := turnIn_le f bit (8 * j) b
            rw [List.length_append]; omega
          generalize Gf.times f (2 ^ b) = x at hc hxb HY HN
          have hbi := bit_is x bit hxb
          have hsq := hbq.size
          obtain ⟨ta, tc, rfl⟩ := owns_form hown
          cases hx : x.testBit bit
          · rw [hx] at hbi
            have hn := HN.out hx
            simp only [Bool.false_eq_true, if_false] at hbi
            have HNN : Hid (turnIn f bit (8 * j) (b + 1) = turnIn f bit (8 * j) b) := hn
            clear hn
            go_wp2
            go_roundw
            case rel => exact ⟨b + 1, by omega, by go_num, by rw [HNN.out]; exact hown, hcol, hbq⟩
            case measure => simp [intOf]; omega
          · rw [hx] at hbi
            have hy := HY.out hx
            have HYY : Hid (intsV (turnTo row bit j ++ turnIn f bit (8 * j) b) ++ [.int .i64 (8 * (j : Int) + (b : Int))] = intsV (turnTo row bit j ++ turnIn f bit (8 * j) (b + 1)) ∧ (turnTo row bit j ++ turnIn f bit (8 * j) b).length + 1 = (turnTo row bit j ++ turnIn f bit (8 * j) (b + 1)).length) := by
              have e : ((8 * j + b : Nat) : Int) = 8 * (j : Int) + (b : Int) := by omega
              rw [← e]; exact hy
            clear hy
            simp only [if_true] at hbi
            have HCOL : Hid (Blk wr wo.heap.size 143 (bytesV (colsOf f))) := hcol
            clear hcol
            go_wp2_with (at_builtin; refine wpList_append_row _ rfl _ _ 45 rfl w.heap.size 3 (.int .i64 0) 1 8 Tryd.underlying45 infoInt rfl (by decide) (by decide) _ _ _ rfl (by exact hown.alloc _) ⟨wr.heap.size, 0, none⟩ 1 [.int .i64 (8 * (j : Int) + (b : Int))] rfl rfl (made_cells wr 3 _) (by simp [Value.oneCell']) (by omega) (by simp; omega) ?_; rw [HYY.out.1, HYY.out.2]; intro v' w' hown' hg hbel')
            have hk := grown_keeps (w := wr.alloc (.cells [Value.int .i64 (8 * (j : Int) + (b : Int))].toArray 3)) (by exact hown.alloc _) hg (HCOL.out.alloc _) (by decide)
            have hb2 := hbel' _ _ (hbq.alloc hsq _) (Nat.le_refl _)
            have HK : Hid (Blk w' wo.heap.size 143 (bytesV (colsOf f))) := hk
            clear hk hg hbel'
            go_roundw
            case rel => exact ⟨b + 1, by omega, by go_num, hown', HK.out, hb2⟩
            case measure => simp [intOf]; omega
        · obtain rfl : b = 8 := by omega
          rw [← HT.out] at hown
          go_wp2
          go_roundw
          case rel => exact ⟨j + 1, by omega, by go_num, hown, hbq⟩
          case measure => simp [intOf]; omega
    · obtain rfl : j = n := by omega
      go_wp2
      go_ret
      exact ⟨_, rfl, hown, hbel⟩
end Go.Proofs.YtlnpppdffhibjaaDoor.Plans
