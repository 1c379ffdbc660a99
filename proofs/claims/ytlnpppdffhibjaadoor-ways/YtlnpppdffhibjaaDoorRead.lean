import Derived.Test.YtlnpppdffhibjaaDoorFill
namespace Go.Proofs.YtlnpppdffhibjaaDoor.Plans
open Go.RowKit Mem FieldWalks Tab ByTab Planes
open Gf (Bytes)

/-- The byte at place k of eight words, behind t of its bits. -/
def byteTo (f : Nat → Nat) (o k t : Nat) : Nat := Gf.bitsOf 8 fun b => decide (b < t) && (f (o + b)).testBit k
def byteOf (f : Nat → Nat) (o k : Nat) : Nat := Gf.bitsOf 8 fun b => (f (o + b)).testBit k
theorem byteTo_lt (f : Nat → Nat) (o k t : Nat) : byteTo f o k t < 256 := Gf.bitsOf_lt 8 _
theorem byteTo_zero (f : Nat → Nat) (o k : Nat) : byteTo f o k 0 = 0 := by
  refine (Gf.eq_bitsOf (n := 8) (Nat.two_pow_pos 8) fun j _ => ?_).symm
  simp
theorem byteTo_all (f : Nat → Nat) (o k : Nat) : byteTo f o k 8 = byteOf f o k := Gf.bitsOf_congr fun j hj => by simp [hj]
theorem byteTo_next (f : Nat → Nat) (o k t : Nat) (ht : t < 8) : byteTo f o k t ||| (if (f (o + t)).testBit k then 2 ^ t else 0) = byteTo f o k (t + 1) := by
  refine Gf.or_bit _ ht fun j hj => ?_
  by_cases e : j = t
  · subst e; simp
  · have h4 : (j < t + 1) ↔ (j < t) := by omega
    simp [e, h4]
/-- The row of bytes behind k bytes from place s on. -/
def readTo (g f : Nat → Nat) (o s k : Nat) : Nat → Nat := fun i => if s ≤ i ∧ i < s + k then byteOf f o (i - s) else g i
theorem readTo_zero (g f : Nat → Nat) (o s : Nat) : readTo g f o s 0 = g := by
  funext i; unfold readTo; rw [if_neg (by omega)]
theorem readTo_next (g f : Nat → Nat) (o s k : Nat) : upd (readTo g f o s k) (s + k) (byteTo f o k 8) = readTo g f o s (k + 1) := by
  funext i
  unfold upd readTo
  by_cases e : i = s + k
  · subst e; rw [byteTo_all]; simp
  · rw [if_neg e]
    by_cases h : s ≤ i ∧ i < s + k
    · rw [if_pos h, if_pos (by omega)]
    · rw [if_neg h, if_neg (by omega)]
theorem upd_upd (f : Nat → Nat) (k x y : Nat) : upd (upd f k x) k y = upd f k y := by
  funext i; unfold upd; split <;> rfl
theorem upd_same (f : Nat → Nat) (k x : Nat) (h : f k = x) : upd f k x = f := by
  funext i; unfold upd; split
  · rename_i e; rw [e, h]
  · rfl

set_option maxRecDepth 100000 in
set_option maxHeartbeats 1000000 in
theorem readSlots_any (f g : Nat → Nat) (m o cap S R L s n rcap : Nat) (w : World) (hS : Blk w S 138 (wordsV (rowF m f))) (hR : Blk w R 5 (bytesV (rowF L g))) (ho : o + 8 ≤ m) (hf : ∀ i, i < m → f i < 18446744073709551616) (hs : s + n ≤ L) (hn : n ≤ 64)
    (hz : ∀ k, k < n → g (s + k) = 0) :
    Calls Tryd.prog 99 #[.slice (some ⟨S, o, none⟩) 8 cap, .slice (some ⟨R, s, none⟩) n rcap] w fun e w' => e = .returned (.tuple #[]) ∧ Blk w' R 5 (bytesV (rowF L (readTo g f o s n))) ∧ But R w w' := by
  have hSR : S ≠ R := hS.type_ne hR (by decide)
  have HS : Hid (Blk w S 138 (wordsV (rowF m f))) := hS
  have HF : Hid (∀ i, i < m → f i < 18446744073709551616) := hf
  have hSlt := hS.lt
  have HZ : Hid (∀ k, k < n → g (s + k) = 0) := hz
  clear hS hf hz
  go_enter Tryd.func99, Tryd.ntmps99
  go_wp2
  go_loopw [8] (fun i wr => ∃ k : Nat, k ≤ n ∧ i = .int .i64 k ∧ Blk wr R 5 (bytesV (rowF L (readTo g f o s k))) ∧ But R w wr) (fun i _ => n - (intOf i).toNat)
  case atStart => exact ⟨0, Nat.zero_le _, rfl, by rw [readTo_zero]; exact hR, But.refl _ _⟩
  case round =>
    clear hR
    obtain ⟨k, hk, rfl, hB, hbut⟩ := hrel
    by_cases hlt : k < n
    · go_wp2
      go_loopw [11] (fun i wr => ∃ t : Nat, t ≤ 8 ∧ i = .int .i64 t ∧ Blk wr R 5 (bytesV (rowF L (upd (readTo g f o s k) (s + k) (byteTo f o k t)))) ∧ But R w wr) (fun i _ => 8 - (intOf i).toNat)
      case atStart =>
        refine ⟨0, Nat.zero_le _, rfl, hB.eq ?_, hbut⟩
        rw [byteTo_zero, upd_same]
        unfold readTo
        rw [if_neg (by omega)]; exact HZ.out k hlt
      case round =>
        clear hB hbut
        obtain ⟨t, ht, rfl, hB, hbut⟩ := hrel
        by_cases htlt : t < 8
        · have hc1 := hB.cell_some (k := s + k) (v := .int .u8 (byteTo f o k t : Nat)) (by rw [bytesV_at (by simp; omega), rowF_at]; simp [upd])
          have hf1 := hB.free (s + k)
          have hcw := (hbut.blk HS.out hSR).cell_some (k := o + t) (v := .int .u64 (f (o + t) : Nat)) (by rw [wordsV_at (by simp; omega), rowF_at])
          have hWb := HF.out (o + t) (by omega)
          obtain ⟨W, hWe⟩ : ∃ W, f (o + t) = W := ⟨_, rfl⟩
          rw [hWe] at hcw hWb
          have HWB : Hid (W < 18446744073709551616) := hWb
          have HWE : Hid (f (o + t) = W) := hWe
          clear hWb hWe
          have EV : Hid (bits .or .u8 (byteTo f o k t : Nat) (bits .and .u64 ((W : Int) / 2 ^ k) 1 % 256 * 2 ^ t % 256) = (byteTo f o k (t + 1) : Nat)) := by
            show _ = _
            rw [← IntKind.wrap_u8', ← IntKind.wrap_u8', bit_byte W k t HWB.out htlt, u8_or_nat _ _ (byteTo_lt _ _ _ _) (bit_lt8 _ _ htlt), ← HWE.out, byteTo_next f o k t htlt]
          have HB : Hid (Blk wr R 5 (bytesV (rowF L (upd (readTo g f o s k) (s + k) (byteTo f o k t))))) := hB
          generalize byteTo f o k t = old at hc1 EV HB
          clear hB
          go_wp2
          go_region
          go_wp2
          go_roundw
          case rel =>
            refine ⟨t + 1, by omega, by go_num, ?_, (hbut.setCell _ _).drew⟩
            refine (HB.out.set (s + k) _).drew.eq ?_
            rw [EV.out, bytesV_set, rowF_set, upd_upd]
          case measure => simp [intOf]; omega
        · obtain rfl : t = 8 := by omega
          rw [readTo_next] at hB
          go_wp2
          go_roundw
          case rel => exact ⟨k + 1, by omega, by go_num, hB, hbut⟩
          case measure => simp [intOf]; omega
    · obtain rfl : k = n := by omega
      go_wp2
      go_end0
      exact ⟨rfl, hB, hbut⟩
end Go.Proofs.YtlnpppdffhibjaaDoor.Plans
