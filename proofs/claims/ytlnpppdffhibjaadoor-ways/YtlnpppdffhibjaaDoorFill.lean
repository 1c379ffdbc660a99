import Derived.Test.YtlnpppdffhibjaaDoorPlanMem
import Derived.Test.YtlnpppdffhibjaaDoorByPlanes
namespace Go.Proofs.YtlnpppdffhibjaaDoor.Plans
open Go.RowKit Mem FieldWalks Tab ByTab Planes
open Gf (Bytes)

/-- Bit b of the bytes, as a word: behind k bytes, and of the next where b is below t. -/
def slotTo (p : List Nat) (k t b : Nat) : Nat := Gf.bitsOf 64 fun i => (decide (i < k) || (decide (i = k) && decide (b < t))) && (p.getD i 0).testBit b
def slotOf (p : List Nat) (b : Nat) : Nat := Gf.bitsOf 64 fun i => (p.getD i 0).testBit b
def fillTo (f : Nat → Nat) (o : Nat) (p : List Nat) (k t : Nat) : Nat → Nat := fun i => if o ≤ i ∧ i < o + 8 then slotTo p k t (i - o) else f i
def filled (f : Nat → Nat) (o : Nat) (p : List Nat) : Nat → Nat := fun i => if o ≤ i ∧ i < o + 8 then slotOf p (i - o) else f i
theorem slotTo_lt (p : List Nat) (k t b : Nat) : slotTo p k t b < 18446744073709551616 := Gf.bitsOf_lt 64 _
theorem slotOf_lt (p : List Nat) (b : Nat) : slotOf p b < 18446744073709551616 := Gf.bitsOf_lt 64 _
theorem slotTo_zero (p : List Nat) (b : Nat) : slotTo p 0 0 b = 0 := by
  refine (Gf.eq_bitsOf (n := 64) (Nat.two_pow_pos 64) fun j _ => ?_).symm
  simp
theorem fillTo_start (f : Nat → Nat) (o : Nat) (p : List Nat) (hz : ∀ b, b < 8 → f (o + b) = 0) : fillTo f o p 0 0 = f := by
  funext i
  unfold fillTo
  split
  · rename_i h; rw [slotTo_zero, ← hz (i - o) (by omega)]; congr 1; omega
  · rfl
theorem slotTo_turn (p : List Nat) (k b : Nat) (hb : b < 8) : slotTo p k 8 b = slotTo p (k + 1) 0 b := by
  refine Gf.bitsOf_congr fun j hj => ?_
  by_cases h1 : j < k
  · simp [h1, show j < k + 1 by omega]
  · by_cases h2 : j = k
    · simp [h2, hb]
    · simp [h1, h2, show ¬ j < k + 1 by omega]
theorem fillTo_turn (f : Nat → Nat) (o : Nat) (p : List Nat) (k : Nat) : fillTo f o p k 8 = fillTo f o p (k + 1) 0 := by
  funext i
  unfold fillTo
  split
  · rename_i h; rw [slotTo_turn p k (i - o) (by omega)]
  · rfl
theorem fillTo_all (f : Nat → Nat) (o : Nat) (p : List Nat) : fillTo f o p p.length 0 = filled f o p := by
  funext i
  unfold fillTo filled
  split
  · refine Gf.bitsOf_congr fun j hj => ?_
    by_cases h1 : j < p.length
    · simp [h1]
    · simp [List.getElem?_eq_none (show p.length ≤ j by omega)]
  · rfl
theorem slotTo_next (p : List Nat) (k t : Nat) (hk : k < 64) : slotTo p k t t ||| (if (p.getD k 0).testBit t then 2 ^ k else 0) = slotTo p k (t + 1) t := by
  refine Gf.or_bit _ hk fun j hj => ?_
  by_cases e : j = k
  · subst e; simp
  · simp [e]
theorem fillTo_next (f : Nat → Nat) (o : Nat) (p : List Nat) (k t : Nat) (ht : t < 8) : upd (fillTo f o p k t) (o + t) (slotTo p k (t + 1) t) = fillTo f o p k (t + 1) := by
  funext i
  unfold upd fillTo
  by_cases e : i = o + t
  · subst e; simp [ht]
  · rw [if_neg e]
    split
    · rename_i h
      refine Gf.bitsOf_congr fun j hj => ?_
      have h3 : i - o ≠ t := by omega
      have : (i - o < t + 1) ↔ (i - o < t) := by omega
      simp [this]
    · rfl

set_option maxRecDepth 100000 in
set_option maxHeartbeats 1000000 in
theorem fillSlots_any (f : Nat → Nat) (m o cap S : Nat) (p : List Nat) (pv : Value) (w : World) (hS : Blk w S 138 (wordsV (rowF m f))) (ho : o + 8 ≤ m) (hz : ∀ b, b < 8 → f (o + b) = 0)
    (hp : BsAt w pv p) (hne : ∀ b off n c, pv = .slice (some ⟨b, off, none⟩) n c → b ≠ S) (hb : Bytes p) (hl : p.length ≤ 64) :
    Calls Tryd.prog 97 #[.slice (some ⟨S, o, none⟩) 8 cap, pv] w fun e w' => e = .returned (.tuple #[]) ∧ Blk w' S 138 (wordsV (rowF m (filled f o p))) ∧ But S w w' := by
  obtain ⟨ao, pcap, rfl, hc⟩ := hp
  have HC : Hid (p = [] ∨ ∃ b off, ao = some ⟨b, off, none⟩ ∧ b < w.heap.size ∧ ∀ k, (h : k < p.length) → w.cell? ⟨b, off + k, none⟩ = some (.int .u8 (p[k] : Nat))) := hc
  have HNE : Hid (∀ b off n c, Value.slice ao p.length pcap = .slice (some ⟨b, off, none⟩) n c → b ≠ S) := hne
  clear hc hne
  go_enter Tryd.func97, Tryd.ntmps97
  go_wp2
  go_loopw [9] (fun i wr => ∃ k : Nat, k ≤ p.length ∧ i = .int .i64 k ∧ Blk wr S 138 (wordsV (rowF m (fillTo f o p k 0))) ∧ But S w wr) (fun i _ => p.length - (intOf i).toNat)
  case atStart => exact ⟨0, Nat.zero_le _, rfl, by rw [fillTo_start f o p hz]; exact hS, But.refl _ _⟩
  case round =>
    clear hS
    obtain ⟨k, hk, rfl, hW, hbut⟩ := hrel
    by_cases hlt : k < p.length
    · obtain ⟨b, off, rfl, hblt, hcl⟩ : ∃ b off, ao = some ⟨b, off, none⟩ ∧ b < w.heap.size ∧ ∀ k, (h : k < p.length) → w.cell? ⟨b, off + k, none⟩ = some (.int .u8 (p[k] : Nat)) := by
        rcases HC.out with h | h
        · rw [h] at hlt; simp at hlt
        · exact h
      have hne := HNE.out b off p.length pcap rfl
      have hc0 := hcl k hlt
      rw [← hbut.cell (p := ⟨b, off + k, none⟩) hne hblt] at hc0
      have hxb : p[k] < 256 := hb.at k hlt
      have hxe : p.getD k 0 = p[k] := by simp [hlt]
      generalize p[k] = x at hc0 hxb hxe
      have HXE : Hid (p.getD k 0 = x) := hxe
      clear hcl hxe
      go_wp2
      clear hc0
      go_loopw [14] (fun i wr => ∃ t : Nat, t ≤ 8 ∧ i = .int .i64 t ∧ Blk wr S 138 (wordsV (rowF m (fillTo f o p k t))) ∧ But S w wr) (fun i _ => 8 - (intOf i).toNat)
      case atStart => exact ⟨0, Nat.zero_le _, rfl, hW, hbut⟩
      case round =>
        clear hW hbut
        obtain ⟨t, ht, rfl, hW, hbut⟩ := hrel
        by_cases htlt : t < 8
        · have hc1 := hW.cell_some (k := o + t) (v := .int .u64 (slotTo p k t t : Nat)) (by rw [wordsV_at (by simp; omega), rowF_at]; simp [fillTo, htlt])
          have hf1 := hW.free (o + t)
          have hk64 : k < 64 := by omega
          have EV : Hid (bits .or .u64 (slotTo p k t t : Nat) (IntKind.u64.wrap (IntKind.u64.wrap (bits .and .u8 ((x : Int) / 2 ^ t) 1) * 2 ^ k)) = (slotTo p k (t + 1) t : Nat)) := by
            show _ = _
            rw [bit_word x t k hxb hk64, u64_or_nat _ _ (slotTo_lt _ _ _ _) (bit_lt _ _ hk64), ← HXE.out, slotTo_next p k t hk64]
          have HW : Hid (Blk wr S 138 (wordsV (rowF m (fillTo f o p k t)))) := hW
          generalize slotTo p k t t = old at hc1 EV
          clear hW
          go_wp2
          go_region
          go_wp2
          go_roundw
          case rel =>
            refine ⟨t + 1, by omega, by go_num, ?_, (hbut.setCell _ _).drew⟩
            refine (HW.out.set (o + t) _).drew.eq ?_
            rw [EV.out, wordsV_set, rowF_set, fillTo_next f o p k t htlt]
          case measure => simp [intOf]; omega
        · obtain rfl : t = 8 := by omega
          rw [fillTo_turn] at hW
          go_wp2
          go_roundw
          case rel => exact ⟨k + 1, by omega, by go_num, hW, hbut⟩
          case measure => simp [intOf]; omega
    · obtain rfl : k = p.length := by omega
      rw [fillTo_all] at hW
      go_wp2
      go_end0
      exact ⟨rfl, hW, hbut⟩
end Go.Proofs.YtlnpppdffhibjaaDoor.Plans
