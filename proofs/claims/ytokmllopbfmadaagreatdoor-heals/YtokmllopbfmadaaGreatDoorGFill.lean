import Derived.Test.YtokmllopbfmadaaGreatDoorGMem
import Derived.Test.YtokmllopbfmadaaGreatDoorGMem64
import Derived.Test.YtokmllopbfmadaaGreatDoorGGf
import Derived.Test.YtokmllopbfmadaaGreatDoorGPlanRun
import Derived.Test.YtokmllopbfmadaaGreatDoorGField
import Derived.Test.YtokmllopbfmadaaGreatDoorGPairMap
namespace Go.Proofs.YtokmllopbfmadaaGreatDoor.Plans
open Go.RowKit Mem FieldWalks Tab ByTab Planes
open Gf (Bytes)

/-- Bit b of the bytes, as a word: behind k bytes, and of the next where b is below t. -/
def slotTo (p : List Nat) (k t b : Nat) : Nat := Gf.bitsOf 64 fun i => (decide (i < k) || (decide (i = k) && decide (b < t))) && (p.getD i 0).testBit b
def slotOf (p : List Nat) (b : Nat) : Nat := Gf.bitsOf 64 fun i => (p.getD i 0).testBit b
def fillTo (f : Nat → Nat) (o : Nat) (p : List Nat) (k t : Nat) : Nat → Nat := fun i => if o ≤ i ∧ i < o + 8 then slotTo p k t (i - o) else f i
def filled (f : Nat → Nat) (o : Nat) (p : List Nat) : Nat → Nat := fun i => if o ≤ i ∧ i < o + 8 then slotOf p (i - o) else f i
theorem slotTo_lt (p : List Nat) (k t b : Nat) : slotTo p k t b < 18446744073709551616 := Gf.bitsOf_lt 64 _
theorem slotOf_lt (p : List Nat) (b : Nat) : slotOf p b < 18446744073709551616 := Gf.bitsOf_lt 64 _
theorem slotTo_zero (p : List Nat) (b : Nat) : slotTo p 0 0 b = 0 := by
  refine (Gf.eq_bitsOf (n := 64) (Nat.two_pow_pos 64) fun j _ => ?_).symm
  simp
theorem fillTo_start (f : Nat → Nat) (o : Nat) (p : List Nat) (hz : ∀ b, b < 8 → f (o + b) = 0) : fillTo f o p 0 0 = f := by
  funext i
  unfold fillTo
  split
  · rename_i h; rw [slotTo_zero, ← hz (i - o) (by omega)]; congr 1; omega
  · rfl
theorem slotTo_turn (p : List Nat) (k b : Nat) (hb : b < 8) : slotTo p k 8 b = slotTo p (k + 1) 0 b := by
  refine Gf.bitsOf_congr fun j hj => ?_
  by_cases h1 : j < k
  · simp [h1, show j < k + 1 by omega]
  · by_cases h2 : j = k
    · simp [h2, hb]
    · simp [h1, h2, show ¬ j < k + 1 by omega]
theorem fillTo_turn (f : Nat → Nat) (o : Nat) (p : List Nat) (k : Nat) : fillTo f o p k 8 = fillTo f o p (k + 1) 0 := by
  funext i
  unfold fillTo
  split
  · rename_i h; rw [slotTo_turn p k (i - o) (by omega)]
  · rfl
theorem fillTo_all (f : Nat → Nat) (o : Nat) (p : List Nat) : fillTo f o p p.length 0 = filled f o p := by
  funext i
  unfold fillTo filled
  split
  · refine Gf.bitsOf_congr fun j hj => ?_
    by_cases h1 : j < p.length
    · simp [h1]
    · simp [List.getElem?_eq_none (show p.length ≤ j by omega)]
  · rfl
theorem slotTo_next (p : List Nat) (k t : Nat) (hk : k < 64) : slotTo p k t t ||| (if (p.getD k 0).testBit t then 2 ^ k else 0) = slotTo p k (t + 1) t := by
  refine Gf.or_bit _ hk fun j hj => ?_
  by_cases e : j = k
  · subst e; simp
  · simp [e]
theorem fillTo_next (f : Nat → Nat) (o : Nat) (p : List Nat) (k t : Nat) (ht : t < 8) : upd (fillTo f o p k t) (o + t) (slotTo p k (t + 1) t) = fillTo f o p k (t + 1) := by
  funext i
  unfold upd fillTo
  by_cases e : i = o + t
  · subst e; simp [ht]
  · rw [if_neg e]
    split
    · rename_i h
      refine Gf.bitsOf_congr fun j hj => ?_
      have h3 : i - o ≠ t := by omega
      have : (i - o < t + 1) ↔ (i - o < t) := by omega
      simp [this]
    · rfl

set_option maxRecDepth 100000 in
set_option maxHeartbeats 1000000 in
theorem fillSlots_any (f : Nat → Nat) (m o cap S : Nat) (p : List Nat) (pv : Value) (w : World) (hS : Blk w S 150 (wordsV (rowF m f))) (ho : o + 8 ≤ m) (hz : ∀ b, b < 8 → f (o + b) = 0)
    (hp : BsAt w pv p) (hne : ∀ b off n c, pv = .slice (some ⟨b, off, none⟩) n c → b ≠ S) (hb : Bytes p) (hl : p.length ≤ 64) :
    Calls Tryz.prog 98 #[.slice (some ⟨S, o, none⟩) 8 cap, pv] w fun e w' => e = .returned (.tuple #[]) ∧ Blk w' S 150 (wordsV (rowF m (filled f o p))) ∧ But S w w' := by
  obtain ⟨ao, pcap, rfl, hc⟩ := hp
  have HC : Hid (p = [] ∨ ∃ b off, ao = some ⟨b, off, none⟩ ∧ b < w.heap.size ∧ ∀ k, (h : k < p.length) → w.cell? ⟨b, off + k, none⟩ = some (.int .u8 (p[k] : Nat))) := hc
  have HNE : Hid (∀ b off n c, Value.slice ao p.length pcap = .slice (some ⟨b, off, none⟩) n c → b ≠ S) := hne
  clear hc hne
  go_enter Tryz.func98, Tryz.ntmps98
  go_wp2
  go_loopw [9] (fun i wr => ∃ k : Nat, k ≤ p.length ∧ i = .int .i64 k ∧ Blk wr S 150 (wordsV (rowF m (fillTo f o p k 0))) ∧ But S w wr) (fun i _ => p.length - (intOf i).toNat)
  case atStart => exact ⟨0, Nat.zero_le _, rfl, by rw [fillTo_start f o p hz]; exact hS, But.refl _ _⟩
  case round =>
    clear hS
    obtain ⟨k, hk, rfl, hW, hbut⟩ := hrel
    by_cases hlt : k < p.length
    · obtain ⟨b, off, rfl, hblt, hcl⟩ : ∃ b off, ao = some ⟨b, off, none⟩ ∧ b < w.heap.size ∧ ∀ k, (h : k < p.length) → w.cell? ⟨b, off + k, none⟩ = some (.int .u8 (p[k] : Nat)) := by
        rcases HC.out with h | h
        · rw [h] at hlt; simp at hlt
        · exact h
      have hne := HNE.out b off p.length pcap rfl
      have hc0 := hcl k hlt
      rw [← hbut.cell (p := ⟨b, off + k, none⟩) hne hblt] at hc0
      have hxb : p[k] < 256 := hb.at k hlt
      have hxe : p.getD k 0 = p[k] := by simp [hlt]
      generalize p[k] = x at hc0 hxb hxe
      have HXE : Hid (p.getD k 0 = x) := hxe
      clear hcl hxe
      go_wp2
      clear hc0
      go_loopw [14] (fun i wr => ∃ t : Nat, t ≤ 8 ∧ i = .int .i64 t ∧ Blk wr S 150 (wordsV (rowF m (fillTo f o p k t))) ∧ But S w wr) (fun i _ => 8 - (intOf i).toNat)
      case atStart => exact ⟨0, Nat.zero_le _, rfl, hW, hbut⟩
      case round =>
        clear hW hbut
        obtain ⟨t, ht, rfl, hW, hbut⟩ := hrel
        by_cases htlt : t < 8
        · have hc1 := hW.cell_some (k := o + t) (v := .int .u64 (slotTo p k t t : Nat)) (by rw [wordsV_at (by simp; omega), rowF_at]; simp [fillTo, htlt])
          have hf1 := hW.free (o + t)
          have hk64 : k < 64 := by omega
          have EV : Hid (bits .or .u64 (slotTo p k t t : Nat) (IntKind.u64.wrap (IntKind.u64.wrap (bits .and .u8 ((x : Int) / 2 ^ t) 1) * 2 ^ k)) = (slotTo p k (t + 1) t : Nat)) := by
            show _ = _
            rw [bit_word x t k hxb hk64, u64_or_nat _ _ (slotTo_lt _ _ _ _) (bit_lt _ _ hk64), ← HXE.out, slotTo_next p k t hk64]
          have HW : Hid (Blk wr S 150 (wordsV (rowF m (fillTo f o p k t)))) := hW
          generalize slotTo p k t t = old at hc1 EV
          clear hW
          go_wp2
          go_region
          go_wp2
          go_roundw
          case rel =>
            refine ⟨t + 1, by omega, by go_num, ?_, (hbut.setCell _ _).drew⟩
            refine (HW.out.set (o + t) _).drew.eq ?_
            rw [EV.out, wordsV_set, rowF_set, fillTo_next f o p k t htlt]
          case measure => simp [intOf]; omega
        · obtain rfl : t = 8 := by omega
          rw [fillTo_turn] at hW
          go_wp2
          go_roundw
          case rel => exact ⟨k + 1, by omega, by go_num, hW, hbut⟩
          case measure => simp [intOf]; omega
    · obtain rfl : k = p.length := by omega
      rw [fillTo_all] at hW
      go_wp2
      go_end0
      exact ⟨rfl, hW, hbut⟩
end Go.Proofs.YtokmllopbfmadaaGreatDoor.Plans

namespace Go.Proofs.YtokmllopbfmadaaGreatDoor.Plans
open Go.RowKit Mem FieldWalks Tab ByTab Planes
open Gf (Bytes)

/-- The byte at place k of eight words, behind t of its bits. -/
def byteTo (f : Nat → Nat) (o k t : Nat) : Nat := Gf.bitsOf 8 fun b => decide (b < t) && (f (o + b)).testBit k
def byteOf (f : Nat → Nat) (o k : Nat) : Nat := Gf.bitsOf 8 fun b => (f (o + b)).testBit k
theorem byteTo_lt (f : Nat → Nat) (o k t : Nat) : byteTo f o k t < 256 := Gf.bitsOf_lt 8 _
theorem byteTo_zero (f : Nat → Nat) (o k : Nat) : byteTo f o k 0 = 0 := by
  refine (Gf.eq_bitsOf (n := 8) (Nat.two_pow_pos 8) fun j _ => ?_).symm
  simp
theorem byteTo_all (f : Nat → Nat) (o k : Nat) : byteTo f o k 8 = byteOf f o k := Gf.bitsOf_congr fun j hj => by simp [hj]
theorem byteTo_next (f : Nat → Nat) (o k t : Nat) (ht : t < 8) : byteTo f o k t ||| (if (f (o + t)).testBit k then 2 ^ t else 0) = byteTo f o k (t + 1) := by
  refine Gf.or_bit _ ht fun j hj => ?_
  by_cases e : j = t
  · subst e; simp
  · have h4 : (j < t + 1) ↔ (j < t) := by omega
    simp [e, h4]
/-- The row of bytes behind k bytes from place s on. -/
def readTo (g f : Nat → Nat) (o s k : Nat) : Nat → Nat := fun i => if s ≤ i ∧ i < s + k then byteOf f o (i - s) else g i
theorem readTo_zero (g f : Nat → Nat) (o s : Nat) : readTo g f o s 0 = g := by
  funext i; unfold readTo; rw [if_neg (by omega)]
theorem readTo_next (g f : Nat → Nat) (o s k : Nat) : upd (readTo g f o s k) (s + k) (byteTo f o k 8) = readTo g f o s (k + 1) := by
  funext i
  unfold upd readTo
  by_cases e : i = s + k
  · subst e; rw [byteTo_all]; simp
  · rw [if_neg e]
    by_cases h : s ≤ i ∧ i < s + k
    · rw [if_pos h, if_pos (by omega)]
    · rw [if_neg h, if_neg (by omega)]
theorem upd_upd (f : Nat → Nat) (k x y : Nat) : upd (upd f k x) k y = upd f k y := by
  funext i; unfold upd; split <;> rfl
theorem upd_same (f : Nat → Nat) (k x : Nat) (h : f k = x) : upd f k x = f := by
  funext i; unfold upd; split
  · rename_i e; rw [e, h]
  · rfl

set_option maxRecDepth 100000 in
set_option maxHeartbeats 1000000 in
theorem readSlots_any (f g : Nat → Nat) (m o cap S R L s n rcap : Nat) (w : World) (hS : Blk w S 150 (wordsV (rowF m f))) (hR : Blk w R 5 (bytesV (rowF L g))) (ho : o + 8 ≤ m) (hf : ∀ i, i < m → f i < 18446744073709551616) (hs : s + n ≤ L) (hn : n ≤ 64)
    (hz : ∀ k, k < n → g (s + k) = 0) :
    Calls Tryz.prog 100 #[.slice (some ⟨S, o, none⟩) 8 cap, .slice (some ⟨R, s, none⟩) n rcap] w fun e w' => e = .returned (.tuple #[]) ∧ Blk w' R 5 (bytesV (rowF L (readTo g f o s n))) ∧ But R w w' := by
  have hSR : S ≠ R := hS.type_ne hR (by decide)
  have HS : Hid (Blk w S 150 (wordsV (rowF m f))) := hS
  have HF : Hid (∀ i, i < m → f i < 18446744073709551616) := hf
  have hSlt := hS.lt
  have HZ : Hid (∀ k, k < n → g (s + k) = 0) := hz
  clear hS hf hz
  go_enter Tryz.func100, Tryz.ntmps100
  go_wp2
  go_loopw [8] (fun i wr => ∃ k : Nat, k ≤ n ∧ i = .int .i64 k ∧ Blk wr R 5 (bytesV (rowF L (readTo g f o s k))) ∧ But R w wr) (fun i _ => n - (intOf i).toNat)
  case atStart => exact ⟨0, Nat.zero_le _, rfl, by rw [readTo_zero]; exact hR, But.refl _ _⟩
  case round =>
    clear hR
    obtain ⟨k, hk, rfl, hB, hbut⟩ := hrel
    by_cases hlt : k < n
    · go_wp2
      go_loopw [11] (fun i wr => ∃ t : Nat, t ≤ 8 ∧ i = .int .i64 t ∧ Blk wr R 5 (bytesV (rowF L (upd (readTo g f o s k) (s + k) (byteTo f o k t)))) ∧ But R w wr) (fun i _ => 8 - (intOf i).toNat)
      case atStart =>
        refine ⟨0, Nat.zero_le _, rfl, hB.eq ?_, hbut⟩
        rw [byteTo_zero, upd_same]
        unfold readTo
        rw [if_neg (by omega)]; exact HZ.out k hlt
      case round =>
        clear hB hbut
        obtain ⟨t, ht, rfl, hB, hbut⟩ := hrel
        by_cases htlt : t < 8
        · have hc1 := hB.cell_some (k := s + k) (v := .int .u8 (byteTo f o k t : Nat)) (by rw [bytesV_at (by simp; omega), rowF_at]; simp [upd])
          have hf1 := hB.free (s + k)
          have hcw := (hbut.blk HS.out hSR).cell_some (k := o + t) (v := .int .u64 (f (o + t) : Nat)) (by rw [wordsV_at (by simp; omega), rowF_at])
          have hWb := HF.out (o + t) (by omega)
          obtain ⟨W, hWe⟩ : ∃ W, f (o + t) = W := ⟨_, rfl⟩
          rw [hWe] at hcw hWb
          have HWB : Hid (W < 18446744073709551616) := hWb
          have HWE : Hid (f (o + t) = W) := hWe
          clear hWb hWe
          have EV : Hid (bits .or .u8 (byteTo f o k t : Nat) (bits .and .u64 ((W : Int) / 2 ^ k) 1 % 256 * 2 ^ t % 256) = (byteTo f o k (t + 1) : Nat)) := by
            show _ = _
            rw [← IntKind.wrap_u8', ← IntKind.wrap_u8', bit_byte W k t HWB.out htlt, u8_or_nat _ _ (byteTo_lt _ _ _ _) (bit_lt8 _ _ htlt), ← HWE.out, byteTo_next f o k t htlt]
          have HB : Hid (Blk wr R 5 (bytesV (rowF L (upd (readTo g f o s k) (s + k) (byteTo f o k t))))) := hB
          generalize byteTo f o k t = old at hc1 EV HB
          clear hB
          go_wp2
          go_region
          go_wp2
          go_roundw
          case rel =>
            refine ⟨t + 1, by omega, by go_num, ?_, (hbut.setCell _ _).drew⟩
            refine (HB.out.set (s + k) _).drew.eq ?_
            rw [EV.out, bytesV_set, rowF_set, upd_upd]
          case measure => simp [intOf]; omega
        · obtain rfl : t = 8 := by omega
          rw [readTo_next] at hB
          go_wp2
          go_roundw
          case rel => exact ⟨k + 1, by omega, by go_num, hB, hbut⟩
          case measure => simp [intOf]; omega
    · obtain rfl : k = n := by omega
      go_wp2
      go_end0
      exact ⟨rfl, hB, hbut⟩
end Go.Proofs.YtokmllopbfmadaaGreatDoor.Plans

namespace Go.Proofs.YtokmllopbfmadaaGreatDoor.Plans
open Go.RowKit Mem FieldWalks Tab ByTab Planes
open Gf (Bytes)

set_option maxRecDepth 100000 in
set_option maxHeartbeats 1000000 in
theorem runSteps_any (f : Nat → Nat) (m S cap : Nat) (ss : List Stp) (sv : Value) (w : World) (hS : Blk w S 150 (wordsV (rowF m f))) (hss : StepsAt w sv ss) (hok : ∀ k, (h : k < ss.length) → ss[k].ok m) (hn : ss.length ≤ 1000000) (hf : ∀ i, f i < 18446744073709551616) :
    Calls Tryz.prog 99 #[sv, .slice (some ⟨S, 0, none⟩) m cap] w fun e w' => e = .returned (.tuple #[]) ∧ Blk w' S 150 (wordsV (rowF m (runOn f ss))) ∧ But S w w' := by
  obtain ⟨ao, scap, rfl, hx⟩ := hss
  have HX : Hid (ss = [] ∨ ∃ g cur, ao = some ⟨g, 0, none⟩ ∧ w.heap[g]? = some (.cells cur 98 (0, 0)) ∧ ∀ k, (h : k < ss.length) → ∀ r, r < 3 → cur[k * 3 + r]? = (ss[k].cells)[r]?) := hx
  have HS : Hid (Blk w S 150 (wordsV (rowF m f))) := hS
  have HOK : Hid (∀ k, (h : k < ss.length) → ss[k].ok m) := hok
  have HF : Hid (∀ i, f i < 18446744073709551616) := hf
  clear hx hS hok hf
  go_enter Tryz.func99, Tryz.ntmps99
  go_wp2
  go_loopw [8] (fun i wr => ∃ k : Nat, k ≤ ss.length ∧ i = .int .i64 k ∧ Blk wr S 150 (wordsV (rowF m (runOn f (ss.take k)))) ∧ But S w wr) (fun i _ => ss.length - (intOf i).toNat)
  case atStart => exact ⟨0, Nat.zero_le _, rfl, HS.out, But.refl _ _⟩
  case round =>
    obtain ⟨k, hk, rfl, hB, hbut⟩ := hrel
    by_cases hlt : k < ss.length
    · obtain ⟨g, cur, rfl, hg, hcu⟩ : ∃ g cur, ao = some ⟨g, 0, none⟩ ∧ w.heap[g]? = some (.cells cur 98 (0, 0)) ∧ ∀ k, (h : k < ss.length) → ∀ r, r < 3 → cur[k * 3 + r]? = (ss[k].cells)[r]? := by
        rcases HX.out with h | h
        · rw [h] at hlt; simp at hlt
        · exact h
      have hgS : g ≠ S := Blk.type_ne (w := w) (vs := cur.toList) (by unfold Blk; rw [hg]) HS.out (by decide)
      have hg1 := (hbut.rest g hgS (lt_of_block hg)).trans hg
      have d0 := (cell_of_row wr g (k * 3 + 0) cur _ _ hg1).trans (hcu k hlt 0 (by decide))
      have d1 := (cell_of_row wr g (k * 3 + 1) cur _ _ hg1).trans (hcu k hlt 1 (by decide))
      have d2 := (cell_of_row wr g (k * 3 + 2) cur _ _ hg1).trans (hcu k hlt 2 (by decide))
      have hk1 := HOK.out k hlt
      have E : Hid (runOn f (ss.take (k + 1)) = step1 (runOn f (ss.take k)) ss[k]) := runOn_take f ss k hlt
      generalize ss[k] = s at d0 d1 d2 hk1 E
      obtain ⟨to, src, fresh⟩ := s
      simp only [Stp.cells, List.getElem?_cons_zero, List.getElem?_cons_succ, Nat.add_zero] at d0 d1 d2
      have hto : to < m := hk1.1
      have hsrc : src < m := hk1.2
      have HFK : Hid (∀ i, runOn f (ss.take k) i < 18446744073709551616) := runOn_lt _ _ HF.out
      generalize runOn f (ss.take k) = h at hB E HFK
      have ct := hB.cell_some (k := to) (v := .int .u64 (h to : Nat)) (by rw [wordsV_at (by simpa using hto), rowF_at])
      have cs := hB.cell_some (k := src) (v := .int .u64 (h src : Nat)) (by rw [wordsV_at (by simpa using hsrc), rowF_at])
      have ft := hB.free to
      have hSlt := hB.lt
      have HB : Hid (Blk wr S 150 (wordsV (rowF m h))) := hB
      have hn1 := hbut.size
      clear hB hg hg1 hcu hk1
      cases fresh
      · go_wp2
        go_region
        go_wp2
        go_roundw
        case rel =>
          refine ⟨k + 1, by omega, by go_num, ?_, ((hbut.setCell _ _).alloc _).drew⟩
          refine (((HB.out.set to _).alloc _).drew).eq ?_
          rw [u64_xor_nat _ _ (HFK.out _) (HFK.out _), wordsV_set, rowF_set, E.out]
          rfl
        case measure => simp [intOf]; omega
      · go_wp2
        go_region
        go_wp2
        go_roundw
        case rel =>
          refine ⟨k + 1, by omega, by go_num, ?_, ((hbut.setCell _ _).alloc _).drew⟩
          refine (((HB.out.set to _).alloc _).drew).eq ?_
          rw [wordsV_set, rowF_set, E.out]
          rfl
        case measure => simp [intOf]; omega
    · obtain rfl : k = ss.length := by omega
      rw [List.take_length] at hB
      go_wp2
      go_end0
      exact ⟨rfl, hB, hbut⟩
end Go.Proofs.YtokmllopbfmadaaGreatDoor.Plans

/- What the sums of slots are, as bytes. -/
namespace Go.Proofs.YtokmllopbfmadaaGreatDoor.Plans
open Gf (sumTo addTo Bytes)

theorem xs_in (f : Nat → Nat) (fct o c k x : Nat) (hfct : fct < 256) (hf : ∀ b, b < 8 → (f (o + b)).testBit k = x.testBit b) : ∀ b, b ≤ 8 → (xs f (turnIn fct c o b)).testBit k = (Gf.times fct (Gf.bitsOf b x.testBit)).testBit c
  | 0, _ => by rw [turnIn, xs_nil, Gf.bitsOf, Gf.times_zero fct hfct]; simp
  | b + 1, hb => by
    rw [turnIn, xs_append, Nat.testBit_xor, xs_in f fct o c k x hfct hf b (by omega), Gf.times_bits fct b hfct, Nat.testBit_xor]
    congr 1
    cases h1 : (Gf.times fct (2 ^ b)).testBit c
    · cases h2 : x.testBit b <;> simp [xs, h1]
    · have := hf b (by omega)
      rw [if_pos rfl, xs_one, this]
      cases h2 : x.testBit b <;> simp [h1]
/-- ████ The slots' sum is the bit of the sum. ████ -/
theorem xs_to (f : Nat → Nat) (row : List Nat) (ps : List (List Nat)) (L c k q : Nat) (hr : Bytes row) (hl : ∀ j, (h : j < ps.length) → ps[j].length = L) (hb : ∀ j, (h : j < ps.length) → Bytes ps[j])
    (hf : ∀ j, j < ps.length → ∀ b, b < 8 → (f (8 * j + b)).testBit k = ((ps.getD j []).getD q 0).testBit b) : ∀ j, j ≤ ps.length → (xs f (turnTo row c j)).testBit k = ((sumTo row ps L j).getD q 0).testBit c
  | 0, _ => by
    have : (List.replicate L 0).getD q 0 = 0 := by
      by_cases h : q < L
      · simp [h]
      · simp [List.getElem?_eq_none (show (List.replicate L 0).length ≤ q by simp; omega)]
    rw [turnTo, xs_nil, sumTo, this]; simp
  | j + 1, hj => by
    have hlt : j < ps.length := by omega
    have e2 : ps.getD j [] = ps[j] := by simp [hlt]
    have hs : (sumTo row ps L j).length = L := Gf.sumTo_length row ps L hl j (by omega)
    have hx : ps[j].getD q 0 < 256 := (hb j hlt).getD q
    have hfj := hf j hlt
    rw [e2] at hfj
    rw [turnTo, xs_append, Nat.testBit_xor, xs_to f row ps L c k q hr hl hb hf j (by omega), xs_in f _ _ c k _ (hr.getD j) hfj 8 (Nat.le_refl _), Gf.bitsOf_self (n := 8) hx, sumTo, e2,
      Planes.addTo_getD _ (hr.getD j) _ _ (by rw [hl j hlt, hs]), Nat.testBit_xor]
theorem byte_sum (f : Nat → Nat) (rows ps : List (List Nat)) (L k q i : Nat) (he : Ends rows ps.length) (hi : i < rows.length) (hr : Bytes (rows.getD i [])) (hl : ∀ j, (h : j < ps.length) → ps[j].length = L) (hb : ∀ j, (h : j < ps.length) → Bytes ps[j])
    (h0 : ∀ j, 8 * ps.length ≤ j → f j = 0) (hf : ∀ j, j < ps.length → ∀ b, b < 8 → (f (8 * j + b)).testBit k = ((ps.getD j []).getD q 0).testBit b) :
    byteOf (runOn f (planTo rows ps.length ps.length)) (8 * (ps.length + i)) k = (sumTo (rows.getD i []) ps L ps.length).getD q 0 := by
  have hs := Gf.sumTo_bytes (rows.getD i []) ps L hr ps.length
  refine (Gf.eq_bitsOf (n := 8) (hs.getD q) fun c hc => ?_).symm
  have e : 8 * (ps.length + i) + c = 8 * ps.length + (8 * i + c) := by omega
  rw [e, (run_plan f rows ps.length he h0 ps.length (Nat.le_refl _)).2 (8 * i + c) (by omega), show (8 * i + c) / 8 = i by omega, show (8 * i + c) % 8 = c by omega, xs_to f _ ps L c k q hr hl hb hf _ (Nat.le_refl _)]
end Go.Proofs.YtokmllopbfmadaaGreatDoor.Plans

namespace Go.Proofs.YtokmllopbfmadaaGreatDoor.Plans
open Go.RowKit Mem FieldWalks Tab ByTab Planes
open Gf (sumTo addTo Bytes)

/-- The rows of the sums: blocks of their own, one behind the other. -/
def rowsV (B L m : Nat) : List Value := (List.range m).map fun i => .slice (some ⟨B + 1 + i, 0, none⟩) L L
theorem rowsV_length (B L m : Nat) : (rowsV B L m).length = m := by simp [rowsV]
theorem rowsV_at {B L m i : Nat} (h : i < m) : (rowsV B L m)[i]? = some (.slice (some ⟨B + 1 + i, 0, none⟩) L L) := by simp [rowsV, h]
structure SumsSt (wx : World) (B m L : Nat) (g : Nat → Nat → Nat) : Prop where
  row : Blk wx B 85 (rowsV B L m)
  each : ∀ i, i < m → Blk wx (B + 1 + i) 5 (bytesV (rowF L (g i)))
theorem SumsSt.to {w w' : World} {B m L : Nat} {g : Nat → Nat → Nat} (h : SumsSt w B m L g) (hb : Below w.heap.size w w') : SumsSt w' B m L g := ⟨h.row.to hb, fun i hi => (h.each i hi).to hb⟩
theorem SumsSt.but {w w' : World} {B m L S : Nat} {g : Nat → Nat → Nat} {us : List Value} (h : SumsSt w B m L g) (hb : But S w w') (hS : Blk w S 150 us) : SumsSt w' B m L g :=
  ⟨hb.blk h.row (h.row.type_ne hS (by decide)), fun i hi => hb.blk (h.each i hi) ((h.each i hi).type_ne hS (by decide))⟩
theorem SumsSt.congr {w : World} {B m L : Nat} {g g' : Nat → Nat → Nat} (h : SumsSt w B m L g) (e : ∀ i, i < m → ∀ q, q < L → g i q = g' i q) : SumsSt w B m L g' :=
  ⟨h.row, fun i hi => (h.each i hi).eq (by rw [rowF_congr (e i hi)])⟩
/-- One row is written anew. -/
theorem SumsSt.put {w w' : World} {B m L i : Nat} {g : Nat → Nat → Nat} {g1 : Nat → Nat} (h : SumsSt w B m L g) (hb : But (B + 1 + i) w w') (hi : Blk w' (B + 1 + i) 5 (bytesV (rowF L g1))) : SumsSt w' B m L (fun k => if k = i then g1 else g k) := by
  refine ⟨hb.blk h.row (by omega), fun k hk => ?_⟩
  by_cases e : k = i
  · subst e; simp only [if_true]; exact hi
  · rw [if_neg e]; exact hb.blk (h.each k hk) (by omega)
theorem SumsSt.rows {w : World} {B L : Nat} {g : Nat → Nat → Nat} {rows ps : List (List Nat)} (h : SumsSt w B rows.length L g) (hl : ∀ j, (h : j < ps.length) → ps[j].length = L) (hg : ∀ i, i < rows.length → ∀ q, q < L → g i q = (sumTo (rows.getD i []) ps L ps.length).getD q 0) :
    RowsC w (.slice (some ⟨B, 0, none⟩) rows.length rows.length) (sums rows ps L) := by
  have hsl : (sums rows ps L).length = rows.length := by simp [sums]
  refine ⟨_, 0, by rw [hsl, Nat.add_zero], .inr ⟨B, 0, rfl, h.row.lt, fun k hk => ?_⟩⟩
  rw [hsl] at hk
  refine ⟨_, by rw [Nat.zero_add]; exact h.row.cell_some (rowsV_at hk), ?_⟩
  have e : (sums rows ps L)[k]'(by omega) = rowF L (g k) := by
    have hs : (sumTo rows[k] ps L ps.length).length = L := Gf.sumTo_length _ ps L hl _ (Nat.le_refl _)
    have e0 : rows.getD k [] = rows[k] := by simp [hk]
    simp only [sums, List.getElem_map]
    apply List.ext_getElem
    · simp [hs]
    · intro q h1 h2
      rw [rowF_at, hg k hk q (by omega), e0]
      simp [h1]
  rw [e]
  exact OwnAt.bsC ⟨B + 1 + k, by simp, h.each k hk⟩
/-- The slots of the pieces' parts: the first j are filled. -/
def fillF (ps : List (List Nat)) (st len j : Nat) : Nat → Nat := fun i => if i < 8 * j then slotOf (((ps.getD (i / 8) []).drop st).take len) (i % 8) else 0
theorem fillF_zero (ps : List (List Nat)) (st len : Nat) : fillF ps st len 0 = fun _ => 0 := by funext i; simp [fillF]
theorem fillF_next (ps : List (List Nat)) (st len j : Nat) : filled (fillF ps st len j) (8 * j) (((ps.getD j []).drop st).take len) = fillF ps st len (j + 1) := by
  funext i
  unfold filled fillF
  by_cases h : 8 * j ≤ i ∧ i < 8 * j + 8
  · rw [if_pos h, if_pos (by omega), show i / 8 = j by omega, show i - 8 * j = i % 8 by omega]
  · rw [if_neg h]
    by_cases h2 : i < 8 * j
    · rw [if_pos h2, if_pos (by omega)]
    · rw [if_neg h2, if_neg (by omega)]
theorem fillF_lt (ps : List (List Nat)) (st len j : Nat) : ∀ i, fillF ps st len j i < 18446744073709551616 := by
  intro i; unfold fillF; split
  · exact slotOf_lt _ _
  · omega
theorem fillF_bit (ps : List (List Nat)) (st len : Nat) (hlen : len ≤ 64) (k : Nat) (hk : k < len) (j : Nat) (hj : j < ps.length) (b : Nat) (hb : b < 8) : (fillF ps st len ps.length (8 * j + b)).testBit k = ((ps.getD j []).getD (st + k) 0).testBit b := by
  unfold fillF
  rw [if_pos (by omega), show (8 * j + b) / 8 = j by omega, show (8 * j + b) % 8 = b by omega, slotOf, Gf.bitsOf_testBit]
  have e : (((ps.getD j []).drop st).take len).getD k 0 = (ps.getD j []).getD (st + k) 0 := by
    generalize ps.getD j [] = p
    rw [List.getD_eq_getElem?_getD, List.getElem?_take_of_lt hk, List.getElem?_drop, ← List.getD_eq_getElem?_getD]
  rw [e]; simp [show k < 64 by omega]
/-- What the sums hold behind st places. -/
def sumF (rows ps : List (List Nat)) (L st : Nat) : Nat → Nat → Nat := fun i q => if q < st then (sumTo (rows.getD i []) ps L ps.length).getD q 0 else 0
theorem BsC.cut {w : World} {v : Value} {l : List Nat} (h : BsC w v l) (st en : Nat) (h1 : st < en) (h2 : en ≤ l.length) : ∃ b off ex, v = .slice (some ⟨b, off, none⟩) l.length (l.length + ex) ∧ b < w.heap.size ∧ BsAt w (.slice (some ⟨b, off + st, none⟩) (en - st) (l.length + ex - st)) ((l.drop st).take (en - st)) := by
  obtain ⟨ao, ex, rfl, hx⟩ := h
  rcases hx with rfl | ⟨b, off, rfl, hlt, hc⟩
  · simp at h2; omega
  · refine ⟨b, off, ex, rfl, hlt, some ⟨b, off + st, none⟩, l.length + ex - st, ?_, .inr ⟨b, off + st, rfl, hlt, fun k hk => ?_⟩⟩
    · rw [List.length_take, List.length_drop, Nat.min_eq_left (by omega)]
    · rw [List.length_take, List.length_drop] at hk
      rw [Nat.add_assoc, hc (st + k) (by omega)]
      simp
/-- What the sums hold while the places from st to en are written: the first i have them. -/
def sumG (rows ps : List (List Nat)) (L st en i : Nat) : Nat → Nat → Nat := fun k => if k < i then sumF rows ps L en k else sumF rows ps L st k
theorem sumG_zero (rows ps : List (List Nat)) (L st en : Nat) : sumG rows ps L st en 0 = sumF rows ps L st := by funext k; simp [sumG]
/-- The words that the plan leaves. -/
noncomputable def ran (rows ps : List (List Nat)) (st len : Nat) : Nat → Nat := runOn (fillF ps st len ps.length) (planTo rows ps.length ps.length)
theorem ran_lt (rows ps : List (List Nat)) (st len : Nat) : ∀ i, ran rows ps st len i < 18446744073709551616 := runOn_lt _ _ (fillF_lt _ _ _ _)
theorem sumG_next (rows ps : List (List Nat)) (L st en len i : Nat) (he : Ends rows ps.length) (hfit : Fit rows ps L) (h1 : st < en) (h3 : en ≤ st + 64) (hlen : len = en - st) (hi : i < rows.length) :
    ∀ k, k < rows.length → ∀ q, q < L → (if k = i then readTo (sumF rows ps L st i) (ran rows ps st len) (8 * (ps.length + i)) st (en - st) else sumG rows ps L st en i k) q = sumG rows ps L st en (i + 1) k q := by
  intro k hk q hq
  by_cases e : k = i
  · subst e
    have eg : sumG rows ps L st en (k + 1) k q = sumF rows ps L en k q := by unfold sumG; rw [if_pos (by omega)]
    rw [if_pos rfl, eg]
    by_cases hq1 : q < st
    · have e1 : readTo (sumF rows ps L st k) (ran rows ps st len) (8 * (ps.length + k)) st (en - st) q = sumF rows ps L st k q := by unfold readTo; rw [if_neg (by omega)]
      rw [e1]; unfold sumF; rw [if_pos hq1, if_pos (by omega)]
    · by_cases hq2 : q < en
      · have e0 : rows.getD k [] = rows[k] := by simp [hk]
        have e1 : readTo (sumF rows ps L st k) (ran rows ps st len) (8 * (ps.length + k)) st (en - st) q = byteOf (ran rows ps st len) (8 * (ps.length + k)) (q - st) := by unfold readTo; rw [if_pos (by omega)]
        have e2 : sumF rows ps L en k q = (sumTo (rows.getD k []) ps L ps.length).getD q 0 := by unfold sumF; rw [if_pos hq2]
        have := byte_sum (fillF ps st len ps.length) rows ps L (q - st) (st + (q - st)) k he hk (by rw [e0]; exact hfit.rbytes k hk) hfit.len hfit.pbytes (fun j hj => by unfold fillF; rw [if_neg (by omega)]) (fun j hj b hb => fillF_bit ps st len (by omega) (q - st) (by omega) j hj b hb)
        rw [show st + (q - st) = q by omega] at this
        rw [e1, e2]; exact this
      · have e1 : readTo (sumF rows ps L st k) (ran rows ps st len) (8 * (ps.length + k)) st (en - st) q = sumF rows ps L st k q := by unfold readTo; rw [if_neg (by omega)]
        rw [e1]; unfold sumF; rw [if_neg hq1, if_neg hq2]
  · rw [if_neg e]
    unfold sumG
    by_cases h : k < i
    · rw [if_pos h, if_pos (by omega)]
    · rw [if_neg h, if_neg (by omega)]
theorem sumG_all (rows ps : List (List Nat)) (L st en : Nat) (h3 : en ≤ st + 64) (h4 : en = L ∨ en = st + 64) : ∀ k, k < rows.length → ∀ q, q < L → sumG rows ps L st en rows.length k q = sumF rows ps L (st + 64) k q := by
  intro k hk q hq
  unfold sumG
  rw [if_pos hk]
  unfold sumF
  rcases h4 with h4 | h4
  · by_cases h : q < st + 64
    · rw [if_pos (by omega), if_pos h]
    · omega
  · rw [h4]
end Go.Proofs.YtokmllopbfmadaaGreatDoor.Plans

namespace Go.Proofs.YtokmllopbfmadaaGreatDoor.Plans
open Go.RowKit Mem FieldWalks Tab Planes

theorem bit_is (c n : Nat) (hc : c < 256) : bits .and .u8 ((c : Int) / 2 ^ n) 1 = if c.testBit n then 1 else 0 := by
  have hl : c / 2 ^ n < 256 := Nat.lt_of_le_of_lt (Nat.div_le_self _ _) hc
  rw [Gf.cast_shr, show (1 : Int) = ((1 : Nat) : Int) from rfl, u8_and_nat _ _ hl (by omega), nat_mask1, Gf.testBit_div]
  have hlt : c / 2 ^ n % 2 < 2 := Nat.mod_lt _ (by omega)
  generalize c / 2 ^ n % 2 = t at hlt ⊢
  rcases (show t = 0 ∨ t = 1 by omega) with rfl | rfl <;> rfl
theorem idx8 (f b : Nat) (hb : b < 8) (w : World) : (Instr.index 173 (.agg (bytesV (colsOf f)).toArray) (.int .i64 (b : Nat))).run Tryz.prog w = .ok (.int .u8 (Gf.times f (2 ^ b) : Nat)) w := by
  rcases (show b = 0 ∨ b = 1 ∨ b = 2 ∨ b = 3 ∨ b = 4 ∨ b = 5 ∨ b = 6 ∨ b = 7 by omega) with rfl | rfl | rfl | rfl | rfl | rfl | rfl | rfl <;> kernel_rfl

set_option maxRecDepth 100000 in
set_option maxHeartbeats 1000000 in
theorem turners_any (f bit o : Nat) (w : World) (hf : f < 256) (hbit : bit < 8) (ho : o ≤ 1000) :
    Calls Tryz.prog 118 #[.agg (bytesV (colsOf f)).toArray, .int .i64 bit, .int .i64 o] w fun e w' => ∃ v, e = .returned v ∧ w'.ownsRow w.heap.size 3 1 v (turnIn f bit o 8).length (intsV (turnIn f bit o 8)) ∧ Below w.heap.size w w' := by
  have HI : Hid (∀ b, b < 8 → ∀ w, (Instr.index 173 (.agg (bytesV (colsOf f)).toArray) (.int .i64 (b : Nat))).run Tryz.prog w = .ok (.int .u8 (Gf.times f (2 ^ b) : Nat)) w) := fun b hb w => idx8 f b hb w
  have HS : Hid ((Tryz.prog.info? 173).map (·.size) = some (bytesV (colsOf f)).toArray.size) := by show _ = _; rw [infoCols]; simp [colsOf]
  have HFX : Hid (∀ b, Gf.times f (2 ^ b) < 256) := fun b => Gf.times_lt _ _ hf
  have HB0 : Hid (Blk (w.alloc (.cells (bytesV (colsOf f)).toArray 173)) w.heap.size 173 (bytesV (colsOf f)).toArray.toList) := Blk.new w _ _
  generalize (bytesV (colsOf f)).toArray = cs at HI HS HB0 ⊢
  go_enter Tryz.func118, Tryz.ntmps118
  go_wp2_with (refine wpList_load_row rfl 173 _ rfl w.heap.size rfl 173 _ _ _ HB0.out Tryz.underlying173 rfl HS.out ?_)
  go_loopw [7, 11] (fun t i wr => ∃ b : Nat, b ≤ 8 ∧ i = .int .i64 b ∧ wr.ownsRow w.heap.size 3 1 t (turnIn f bit o b).length (intsV (turnIn f bit o b)) ∧ Below w.heap.size w wr) (fun _ i _ => 8 - (intOf i).toNat)
  case atStart => exact ⟨0, Nat.zero_le _, rfl, World.ownsRow_nil _ _ _ _, (Below.refl _ _).alloc (Nat.le_refl _) _⟩
  case round =>
    obtain ⟨b, hb, rfl, hown, hbel⟩ := hrel
    by_cases hlt : b < 8
    · have hix := HI.out b hlt
      have hxb := HFX.out b
      have HY : Hid ((Gf.times f (2 ^ b)).testBit bit = true → turnIn f bit o (b + 1) = turnIn f bit o b ++ [o + b]) := turn_yes f bit o b
      have HN : Hid ((Gf.times f (2 ^ b)).testBit bit = false → turnIn f bit o (b + 1) = turnIn f bit o b) := turn_no f bit o b
      have hle := turnIn_le f bit o b
      generalize Gf.times f (2 ^ b) = x at hix hxb HY HN
      have hbi := bit_is x bit hxb
      have hsq := hbel.size
      generalize turnIn f bit o b = l at hown HY HN hle
      obtain ⟨ta, tc, rfl⟩ := owns_form hown
      cases hx : x.testBit bit
      · rw [hx] at hbi
        simp only [Bool.false_eq_true, if_false] at hbi
        have HNN : Hid (turnIn f bit o (b + 1) = l) := HN.out hx
        clear hx
        go_wp2
        go_roundw
        case rel => exact ⟨b + 1, by omega, by go_num, by rw [HNN.out]; exact hown, hbel⟩
        case measure => simp [intOf]; omega
      · rw [hx] at hbi
        simp only [if_true] at hbi
        have HYY : Hid (intsV l ++ [.int .i64 ((o : Int) + (b : Int))] = intsV (turnIn f bit o (b + 1)) ∧ l.length + 1 = (turnIn f bit o (b + 1)).length) := by
          have e : ((o + b : Nat) : Int) = (o : Int) + (b : Int) := by omega
          show _ ∧ _
          rw [HY.out hx, ← e]; simp [intsV]
        clear hx
        go_wp2_with (at_builtin; refine wpList_append_row _ rfl _ _ 32 rfl w.heap.size 3 (.int .i64 0) 1 8 Tryz.underlying32 infoInt rfl (by decide) (by decide) _ _ _ rfl (by exact hown.alloc _) ⟨wr.heap.size, 0, none⟩ 1 [.int .i64 ((o : Int) + (b : Int))] rfl rfl (made_cells wr 3 _) (by simp [Value.oneCell']) (by omega) (by simp; omega) ?_; rw [HYY.out.1, HYY.out.2]; intro v' w' hown' hg hbel')
        have hb2 := hbel' _ _ (hbel.alloc hsq _) (Nat.le_refl _)
        clear hg hbel'
        go_roundw
        case rel => exact ⟨b + 1, by omega, by go_num, hown', hb2⟩
        case measure => simp [intOf]; omega
    · obtain rfl : b = 8 := by omega
      go_wp2
      go_ret
      exact ⟨_, rfl, hown, hbel⟩
end Go.Proofs.YtokmllopbfmadaaGreatDoor.Plans
