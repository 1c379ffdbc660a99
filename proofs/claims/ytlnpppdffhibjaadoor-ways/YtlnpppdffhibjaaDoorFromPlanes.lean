import Derived.Test.YtlnpppdffhibjaaDoorToPlanes
namespace Go.Proofs.YtlnpppdffhibjaaDoor.Planes
open Go.RowKit Mem FieldWalks Tab ByTab
open Gf (Bytes)

/-- A byte out of the words. -/
def byteTo (ws : List Nat) (k t : Nat) : Nat := Gf.bitsOf 8 fun b => decide (b < t) && (ws.getD (k / 8) 0).testBit (8 * b + k % 8)
def bytesOf (ws : List Nat) (L : Nat) : List Nat := (List.range L).map fun k => byteTo ws k 8
theorem byteTo_zero (ws : List Nat) (k : Nat) : byteTo ws k 0 = 0 := by
  refine (Gf.eq_bitsOf (n := 8) (Nat.two_pow_pos 8) fun j _ => ?_).symm
  simp
theorem byteTo_lt (ws : List Nat) (k t : Nat) : byteTo ws k t < 256 := Gf.bitsOf_lt 8 _
theorem byteTo_next (ws : List Nat) (k t : Nat) (ht : t < 8) : byteTo ws k t ||| (if (ws.getD (k / 8) 0).testBit (8 * t + k % 8) then 2 ^ t else 0) = byteTo ws k (t + 1) := by
  refine Gf.or_bit _ ht fun j hj => ?_
  by_cases e : j = t
  · subst e; simp
  · have h4 : (j < t + 1) ↔ (j < t) := by omega
    simp [e, h4]
theorem bytesOf_words (p : List Nat) (n : Nat) (hb : Bytes p) (hn : p.length ≤ 8 * n) : bytesOf (wordsOf p n) p.length = p := by
  apply List.ext_getElem
  · simp [bytesOf]
  · intro k h1 h2
    have hk8 : k / 8 < n := by omega
    have hw : (wordsOf p n).getD (k / 8) 0 = wordAt p (k / 8) := by simp [wordsOf, hk8]
    have hpk : p.getD k 0 = p[k] := by simp [h2]
    simp only [bytesOf, List.getElem_map, List.getElem_range]
    refine (Gf.eq_bitsOf (n := 8) (hb.at k h2) fun b hb8 => ?_).symm
    rw [hw, wordAt, Gf.planes, Gf.bitsOf_testBit, show (8 * b + k % 8) % 8 = k % 8 by omega, show (8 * b + k % 8) / 8 = b by omega, show 8 * (k / 8) + k % 8 = k by omega, hpk]
    simp [hb8, show 8 * b + k % 8 < 64 by omega]
theorem bit_byte (W m t : Nat) (hW : W < 18446744073709551616) (ht : t < 8) : IntKind.u8.wrap (IntKind.u8.wrap (bits .and .u64 ((W : Int) / 2 ^ m) 1) * 2 ^ t) = ((if W.testBit m then 2 ^ t else 0 : Nat) : Int) := by
  have h1 : bits .and .u64 ((W : Int) / 2 ^ m) 1 = if W.testBit m then 1 else 0 := by
    have hl : W / 2 ^ m < 18446744073709551616 := Nat.lt_of_le_of_lt (Nat.div_le_self _ _) hW
    rw [Gf.cast_shr, show (1 : Int) = ((1 : Nat) : Int) from rfl, u64_and_nat _ _ hl (by omega), nat_mask1, Gf.testBit_div]
    have hlt : W / 2 ^ m % 2 < 2 := Nat.mod_lt _ (by omega)
    generalize W / 2 ^ m % 2 = t at hlt ⊢
    rcases (show t = 0 ∨ t = 1 by omega) with rfl | rfl <;> rfl
  rw [h1]
  have hp : (2 : Nat) ^ t < 256 := Gf.two_lt t ht
  split
  · rw [IntKind.wrap_u8', IntKind.wrap_u8']
    have e : ((2 : Int) ^ t) = ((2 ^ t : Nat) : Int) := by simp
    rw [e, show (1 : Int) % 256 = 1 from rfl, Int.one_mul]
    generalize 2 ^ t = u at hp ⊢
    omega
  · rw [IntKind.wrap_u8', IntKind.wrap_u8']; simp
theorem bit_lt8 (b : Bool) (t : Nat) (ht : t < 8) : (if b then 2 ^ t else 0) < 256 := by
  split
  · exact Gf.two_lt t ht
  · omega

set_option maxRecDepth 100000 in
set_option maxHeartbeats 1000000 in
theorem fromPlanes_any (ws : List Nat) (n L c : Nat) (w : World) (hc : Blk w c 138 (wordsV ws)) (hn : ws.length = n) (hL : L ≤ 8 * n) (hl : L ≤ 1000) (hw : ∀ x, x ∈ ws → x < 18446744073709551616) :
    Calls Tryd.prog 94 #[.slice (some ⟨c, 0, none⟩) n n, .int .i64 L] w fun e w' => ∃ b, w.heap.size ≤ b ∧ e = .returned (.slice (some ⟨b, 0, none⟩) L L) ∧ Blk w' b 5 (bytesV (bytesOf ws L)) ∧ Below w.heap.size w w' := by
  have hmk := fun w => make_bytes L (by omega) w
  have HC : Hid (Blk w c 138 (wordsV ws)) := hc
  have hclt := hc.lt
  have HW : Hid (∀ x, x ∈ ws → x < 18446744073709551616) := hw
  clear hc hw
  go_enter Tryd.func94, Tryd.ntmps94
  go_wp2
  go_loopw [11] (fun i wr => ∃ k : Nat, k ≤ L ∧ i = .int .i64 k ∧ Blk wr w.heap.size 5 (bytesV (mix (bytesOf ws L) (List.replicate L 0) k)) ∧ Below w.heap.size w wr) (fun i _ => L - (intOf i).toNat)
  case atStart => exact ⟨0, Nat.zero_le _, rfl, by rw [mix_zero]; exact made_bytes w L, (Below.refl _ _).alloc (Nat.le_refl _) _⟩
  case round =>
    obtain ⟨k, hk, rfl, hB, hbel⟩ := hrel
    by_cases hlt : k < L
    · have hk8 : k / 8 < ws.length := by omega
      have hcw := (HC.out.to hbel).cell_some (k := k / 8) (wordsV_at hk8)
      have hWb : ws[k / 8] < 18446744073709551616 := HW.out _ (List.getElem_mem hk8)
      have hWe : ws.getD (k / 8) 0 = ws[k / 8] := by simp [hk8]
      generalize ws[k / 8] = W at hcw hWb hWe
      have HWB : Hid (W < 18446744073709551616) := hWb
      have HWE : Hid (ws.getD (k / 8) 0 = W) := hWe
      have hki : (k : Int) / 8 < (n : Int) := by omega
      have HCW : Hid (w.cell? ⟨c, k / 8, none⟩ = some (.int .u64 W)) := by show _ = _; rw [← hbel.cell (p := ⟨c, k / 8, none⟩) hclt]; exact hcw
      clear hWb hWe hcw
      go_wp2
      go_loopw [14] (fun i wr => ∃ t : Nat, t ≤ 8 ∧ i = .int .i64 t ∧ Blk wr w.heap.size 5 (bytesV ((mix (bytesOf ws L) (List.replicate L 0) k).set k (byteTo ws k t))) ∧ Below w.heap.size w wr) (fun i _ => 8 - (intOf i).toNat)
      case atStart =>
        refine ⟨0, Nat.zero_le _, rfl, hB.eq ?_, hbel⟩
        rw [byteTo_zero, mix_stay (by simp [bytesOf]) (by simpa using hlt) (List.getElem_replicate _)]
      case round =>
        clear hB hbel
        obtain ⟨t, ht, rfl, hB, hbel⟩ := hrel
        by_cases htlt : t < 8
        · have hc1 := hB.cell_some (k := k) (v := .int .u8 (byteTo ws k t : Nat)) (by rw [bytesV_at (by rw [List.length_set, mix_length (by simp [bytesOf])]; simpa using hlt)]; simp)
          have hf1 := hB.free k
          have hcw := HCW.out
          rw [← hbel.cell (p := ⟨c, k / 8, none⟩) hclt] at hcw
          obtain ⟨m, hm⟩ : ∃ m, m = 8 * t + k % 8 := ⟨_, rfl⟩
          have em : 8 * (t : Int) + (k : Int) % 8 = (m : Int) := by omega
          have hm64 : m < 64 := by omega
          have EV : Hid (bits .or .u8 (byteTo ws k t : Nat) (bits .and .u64 ((W : Int) / 2 ^ m) 1 % 256 * 2 ^ t % 256) = (byteTo ws k (t + 1) : Nat)) := by
            show _ = _
            rw [← IntKind.wrap_u8', ← IntKind.wrap_u8', bit_byte W m t HWB.out htlt, u8_or_nat _ _ (byteTo_lt _ _ _) (bit_lt8 _ _ htlt), ← HWE.out, hm, byteTo_next ws k t htlt]
          have HB : Hid (Blk wr w.heap.size 5 (bytesV ((mix (bytesOf ws L) (List.replicate L 0) k).set k (byteTo ws k t)))) := hB
          generalize byteTo ws k t = old at hc1 EV
          clear hB hm
          go_wp2
          go_region
          go_wp2
          go_roundw
          case rel =>
            refine ⟨t + 1, by omega, by go_num, ?_, (hbel.setCell (Nat.le_refl _) _).drew⟩
            refine (HB.out.set k _).drew.eq ?_
            rw [EV.out, bytesV_set, List.set_set]
          case measure => simp [intOf]; omega
        · obtain rfl : t = 8 := by omega
          go_wp2
          go_roundw
          case rel =>
            refine ⟨k + 1, by omega, by go_num, hB.eq ?_, hbel⟩
            rw [← mix_set (k := k) (new := bytesOf ws L) (old := List.replicate L 0) (by simp [bytesOf]) (by simpa using hlt)]
            simp [bytesOf]
          case measure => simp [intOf]; omega
    · obtain rfl : k = L := by omega
      have e := mix_all (new := bytesOf ws k) (old := List.replicate k 0) (by simp [bytesOf])
      simp only [List.length_replicate] at e
      rw [e] at hB
      go_wp2
      go_ret
      exact ⟨w.heap.size, Nat.le_refl _, rfl, hB, hbel⟩
end Go.Proofs.YtlnpppdffhibjaaDoor.Planes
