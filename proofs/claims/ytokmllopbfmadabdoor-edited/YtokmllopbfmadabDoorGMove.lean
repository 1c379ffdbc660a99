import Derived.Test.YtokmllopbfmadabDoorGSpoilMath
import Derived.Test.YtokmllopbfmadabDoorGByTables
namespace Go.Proofs.YtokmllopbfmadabDoor.Planes
open Go.RowKit Mem FieldWalks Tab

theorem moved_step (f W n : Nat) (hW : W < 18446744073709551616) :
    Value.int .u64 (bits .xor .u64 (Gf.moved f W n : Nat) (IntKind.u64.wrap ((Gf.moves (Gf.times f (2 ^ n)) : Nat) * bits .and .u64 ((W : Int) / 2 ^ (8 * n)) 255))) = .int .u64 (Gf.moved f W (n + 1) : Nat) := by
  have hl : W / 2 ^ (8 * n) < 18446744073709551616 := Nat.lt_of_le_of_lt (Nat.div_le_self _ _) hW
  have e1 : bits .and .u64 ((W : Int) / 2 ^ (8 * n)) 255 = ((W / 2 ^ (8 * n) % 256 : Nat) : Int) := by
    rw [Gf.cast_shr, show (255 : Int) = ((255 : Nat) : Int) from rfl, u64_and_nat _ _ hl (by omega), nat_mask8]
  have hp : W / 2 ^ (8 * n) % 256 < 256 := Nat.mod_lt _ (by omega)
  have hm : Gf.moves (Gf.times f (2 ^ n)) * (W / 2 ^ (8 * n) % 256) < 18446744073709551616 := by
    rw [Gf.moves_mul _ _ hp]; exact Gf.bitsOf_lt 64 _
  rw [e1, Gf.moved]
  have e2 : IntKind.u64.wrap ((Gf.moves (Gf.times f (2 ^ n)) : Nat) * ((W / 2 ^ (8 * n) % 256 : Nat) : Int)) = ((Gf.moves (Gf.times f (2 ^ n)) * (W / 2 ^ (8 * n) % 256) : Nat) : Int) := by
    rw [← Int.natCast_mul, IntKind.wrap_u64]
    generalize Gf.moves (Gf.times f (2 ^ n)) * (W / 2 ^ (8 * n) % 256) = t at hm ⊢
    omega
  rw [e2, u64_xor_nat _ _ (Gf.moved_lt f W n) hm]

set_option maxRecDepth 100000 in
set_option maxHeartbeats 400000 in
theorem movePlanes_any (f W : Nat) (hW : W < 18446744073709551616) (w : World) :
    Calls Tryd.prog 80 #[.agg (wordsV (movesOf f)).toArray, .int .u64 W] w fun e w' => e = .returned (.int .u64 (Gf.moved f W 8 : Nat)) ∧ Below w.heap.size w w' := by
  have hn := Blk.new w (wordsV (movesOf f)).toArray 128
  have HN : Hid (Blk (w.alloc (.cells (wordsV (movesOf f)).toArray 128)) w.heap.size 128 (wordsV (movesOf f))) := hn
  have HW : Hid (W < 18446744073709551616) := hW
  clear hn hW
  go_enter Tryd.func80, Tryd.ntmps80
  go_wp2
  go_loop [5, 8] (fun s i => ∃ k : Nat, k ≤ 8 ∧ i = .int .i64 k ∧ s = .int .u64 (Gf.moved f W k : Nat)) (fun _ i => 8 - (intOf i).toNat)
  case atStart => exact ⟨0, Nat.zero_le _, rfl, rfl⟩
  case round =>
    obtain ⟨k, hk, rfl, rfl⟩ := hrel
    by_cases hlt : k < 8
    · have hc := HN.out.cell_some (k := k) (v := .int .u64 (Gf.moves (Gf.times f (2 ^ k)) : Nat)) (by rw [wordsV_at (by simp [movesOf]; omega)]; simp [movesOf])
      have HST : Hid _ := moved_step f W k HW.out
      generalize Gf.moves (Gf.times f (2 ^ k)) = mk at hc HST
      generalize Gf.moved f W k = old at HST ⊢
      go_wp2
      go_round
      case rel => exact ⟨k + 1, by omega, by go_num, HST.out⟩
      case measure => simp [intOf]; omega
    · obtain rfl : k = 8 := by omega
      go_wp2
      go_ret
      exact ⟨rfl, (Below.refl _ _).alloc (Nat.le_refl _) _⟩
end Go.Proofs.YtokmllopbfmadabDoor.Planes

namespace Go.Proofs.YtokmllopbfmadabDoor.Planes
open Go.RowKit Mem FieldWalks Tab ByTab
open Gf (Bytes)

theorem infoWord : (Tryd.prog.info? 119).map (fun i => (i.zero, i.size, i.bytes)) = some (some (.int .u64 0), 1, 8) := by kernel_rfl
theorem make_words (n : Nat) (hn : n ≤ 100000) (w : World) :
    (Instr.makeSlice 113 (.int .i64 (n : Int)) (.int .i64 (n : Int))).run Tryd.prog w = .ok (.slice (some ⟨w.heap.size, 0, none⟩) n n) (w.alloc (.cells (madeCells #[.int .u64 0] n) 119)) :=
  run_make_row' 113 119 (.int .u64 0) 8 Tryd.underlying113 infoWord rfl .i64 .i64 n (by omega) (by omega) w
theorem made_words (w : World) (n : Nat) : Blk (w.alloc (.cells (madeCells #[.int .u64 0] n) 119)) w.heap.size 119 (wordsV (List.replicate n 0)) := by
  refine (Blk.new w _ _).eq ?_
  rw [toList_madeCells_one]; simp [wordsV]

/-- The words of a piece. -/
def wordAt (p : List Nat) (i : Nat) : Nat := Gf.planes fun q => p.getD (8 * i + q) 0
def wordsOf (p : List Nat) (n : Nat) : List Nat := (List.range n).map (wordAt p)
/-- The word i behind k bytes and b bits of the next. -/
def wordTo (p : List Nat) (k b i : Nat) : Nat :=
  Gf.bitsOf 64 fun j => (decide (8 * i + j % 8 < k) || (decide (8 * i + j % 8 = k) && decide (j / 8 < b))) && (p.getD (8 * i + j % 8) 0).testBit (j / 8)
def wordsTo (p : List Nat) (n k b : Nat) : List Nat := (List.range n).map (wordTo p k b)
theorem wordsTo_length (p : List Nat) (n k b : Nat) : (wordsTo p n k b).length = n := by simp [wordsTo]
theorem wordTo_lt (p : List Nat) (k b i : Nat) : wordTo p k b i < 18446744073709551616 := Gf.bitsOf_lt 64 _
theorem wordsTo_start (p : List Nat) (n : Nat) : wordsTo p n 0 0 = List.replicate n 0 := by
  apply List.ext_getElem
  · simp [wordsTo]
  · intro i h1 h2
    simp only [wordsTo, List.getElem_map, List.getElem_range, List.getElem_replicate]
    refine (Gf.eq_bitsOf (n := 64) (Nat.two_pow_pos 64) fun j _ => ?_).symm
    simp
theorem wordsTo_turn (p : List Nat) (n k : Nat) : wordsTo p n k 8 = wordsTo p n (k + 1) 0 := by
  unfold wordsTo
  refine List.map_congr_left fun i _ => Gf.bitsOf_congr fun j hj => ?_
  have h8 : j / 8 < 8 := by omega
  by_cases h1 : 8 * i + j % 8 < k
  · simp [h1, show 8 * i + j % 8 < k + 1 by omega]
  · by_cases h2 : 8 * i + j % 8 = k
    · simp [h2, h8]
    · simp [h1, h2, show ¬ 8 * i + j % 8 < k + 1 by omega]
theorem wordsTo_all (p : List Nat) (n : Nat) : wordsTo p n p.length 0 = wordsOf p n := by
  unfold wordsTo wordsOf
  refine List.map_congr_left fun i _ => ?_
  unfold wordTo wordAt Gf.planes
  refine Gf.bitsOf_congr fun j hj => ?_
  by_cases h1 : 8 * i + j % 8 < p.length
  · simp [h1]
  · simp [List.getElem?_eq_none (show p.length ≤ 8 * i + j % 8 by omega)]
theorem wordTo_next (p : List Nat) (k b : Nat) (hb : b < 8) : wordTo p k b (k / 8) ||| (if (p.getD k 0).testBit b then 2 ^ (8 * b + k % 8) else 0) = wordTo p k (b + 1) (k / 8) := by
  refine Gf.or_bit _ (by omega) fun j hj => ?_
  by_cases e : j = 8 * b + k % 8
  · subst e
    rw [show (8 * b + k % 8) % 8 = k % 8 by omega, show (8 * b + k % 8) / 8 = b by omega, show 8 * (k / 8) + k % 8 = k by omega]
    simp
  · by_cases h2 : 8 * (k / 8) + j % 8 = k
    · have h3 : j / 8 ≠ b := by omega
      have h4 : (j / 8 < b + 1) ↔ (j / 8 < b) := by omega
      simp [h2, e, h4]
    · simp [h2, e]
theorem wordsTo_next (p : List Nat) (n k b : Nat) : (wordsTo p n k b).set (k / 8) (wordTo p k (b + 1) (k / 8)) = wordsTo p n k (b + 1) := by
  apply List.ext_getElem
  · simp [wordsTo]
  · intro i h1 h2
    simp only [wordsTo, List.length_map, List.length_range] at h2
    rw [List.getElem_set]
    split
    · rename_i e; subst e; simp [wordsTo]
    · rename_i e
      simp only [wordsTo, List.getElem_map, List.getElem_range]
      refine Gf.bitsOf_congr fun j hj => ?_
      have : 8 * i + j % 8 ≠ k := by omega
      simp [this]

set_option maxRecDepth 100000 in
set_option maxHeartbeats 1000000 in
theorem toPlanes_any (p : List Nat) (pv : Value) (w : World) (hp : BsAt w pv p) (hb : Bytes p) (hl : p.length ≤ 1000) :
    Calls Tryd.prog 66 #[pv] w fun e w' => ∃ c, w.heap.size ≤ c ∧ e = .returned (.slice (some ⟨c, 0, none⟩) ((p.length + 7) / 8) ((p.length + 7) / 8)) ∧ Blk w' c 119 (wordsV (wordsOf p ((p.length + 7) / 8))) ∧ Below w.heap.size w w' := by
  obtain ⟨ao, cap, rfl, hc⟩ := hp
  obtain ⟨n, hn⟩ : ∃ n, n = (p.length + 7) / 8 := ⟨_, rfl⟩
  have en : ((p.length : Int) + 7) / 8 = (n : Int) := by rw [hn]; omega
  have hmk := fun w => make_words n (by omega) w
  have HN : Hid (n = (p.length + 7) / 8) := hn
  have HC : Hid (p = [] ∨ ∃ b off, ao = some ⟨b, off, none⟩ ∧ b < w.heap.size ∧ ∀ k, (h : k < p.length) → w.cell? ⟨b, off + k, none⟩ = some (.int .u8 (p[k] : Nat))) := hc
  rw [← hn]
  clear hc hn
  go_enter Tryd.func66, Tryd.ntmps66
  go_wp2
  go_loopw [14] (fun i wr => ∃ k : Nat, k ≤ p.length ∧ i = .int .i64 k ∧ Blk wr w.heap.size 119 (wordsV (wordsTo p n k 0)) ∧ Below w.heap.size w wr) (fun i _ => p.length - (intOf i).toNat)
  case atStart => exact ⟨0, Nat.zero_le _, rfl, by rw [wordsTo_start]; exact made_words w n, (Below.refl _ _).alloc (Nat.le_refl _) _⟩
  case round =>
    obtain ⟨k, hk, rfl, hW, hbel⟩ := hrel
    by_cases hlt : k < p.length
    · obtain ⟨b, off, rfl, hblt, hcl⟩ : ∃ b off, ao = some ⟨b, off, none⟩ ∧ b < w.heap.size ∧ ∀ k, (h : k < p.length) → w.cell? ⟨b, off + k, none⟩ = some (.int .u8 (p[k] : Nat)) := by
        rcases HC.out with h | h
        · rw [h] at hlt; simp at hlt
        · exact h
      have hc0 := hcl k hlt
      rw [← hbel.cell (p := ⟨b, off + k, none⟩) hblt] at hc0
      have hxb : p[k] < 256 := hb.at k hlt
      have hxe : p.getD k 0 = p[k] := by simp [hlt]
      generalize p[k] = x at hc0 hxb hxe
      have HXE : Hid (p.getD k 0 = x) := hxe
      have hkn : k / 8 < n := by have := HN.out; omega
      clear hcl hxe
      go_wp2
      clear hc0
      go_loopw [19] (fun i wr => ∃ t : Nat, t ≤ 8 ∧ i = .int .i64 t ∧ Blk wr w.heap.size 119 (wordsV (wordsTo p n k t)) ∧ Below w.heap.size w wr) (fun i _ => 8 - (intOf i).toNat)
      case atStart => exact ⟨0, Nat.zero_le _, rfl, hW, hbel⟩
      case round =>
        clear hW hbel
        obtain ⟨t, ht, rfl, hW, hbel⟩ := hrel
        by_cases htlt : t < 8
        · have hc1 := hW.cell_some (k := k / 8) (v := .int .u64 (wordTo p k t (k / 8) : Nat)) (by rw [wordsV_at (by rw [wordsTo_length]; exact hkn)]; simp [wordsTo])
          have hf1 := hW.free (k / 8)
          obtain ⟨m, hm⟩ : ∃ m, m = 8 * t + k % 8 := ⟨_, rfl⟩
          have em : 8 * (t : Int) + (k : Int) % 8 = (m : Int) := by omega
          have hm64 : m < 64 := by omega
          have EV : Hid (bits .or .u64 (wordTo p k t (k / 8) : Nat) (IntKind.u64.wrap (IntKind.u64.wrap (bits .and .u8 ((x : Int) / 2 ^ t) 1) * 2 ^ m)) = (wordTo p k (t + 1) (k / 8) : Nat)) := by
            show _ = _
            rw [bit_word x t m hxb hm64, u64_or_nat _ _ (wordTo_lt _ _ _ _) (bit_lt _ _ hm64), ← HXE.out, hm, wordTo_next p k t htlt]
          have HW : Hid (Blk wr w.heap.size 119 (wordsV (wordsTo p n k t))) := hW
          generalize wordTo p k t (k / 8) = old at hc1 EV
          have hk8 : (k : Int) / 8 < (n : Int) := by omega
          clear hW hm
          go_wp2
          go_region
          go_wp2
          go_roundw
          case rel =>
            refine ⟨t + 1, by omega, by go_num, ?_, (hbel.setCell (Nat.le_refl _) _).drew⟩
            refine (HW.out.set (k / 8) _).drew.eq ?_
            rw [EV.out, wordsV_set, wordsTo_next p n k t]
          case measure => simp [intOf]; omega
        · obtain rfl : t = 8 := by omega
          rw [wordsTo_turn] at hW
          go_wp2
          go_roundw
          case rel => exact ⟨k + 1, by omega, by go_num, hW, hbel⟩
          case measure => simp [intOf]; omega
    · obtain rfl : k = p.length := by omega
      rw [wordsTo_all] at hW
      go_wp2
      go_ret
      exact ⟨w.heap.size, Nat.le_refl _, rfl, hW, hbel⟩
end Go.Proofs.YtokmllopbfmadabDoor.Planes

namespace Go.Proofs.YtokmllopbfmadabDoor.Planes
open Go.RowKit Mem FieldWalks Tab ByTab
open Gf (Bytes)

/-- A byte out of the words. -/
def byteTo (ws : List Nat) (k t : Nat) : Nat := Gf.bitsOf 8 fun b => decide (b < t) && (ws.getD (k / 8) 0).testBit (8 * b + k % 8)
def bytesOf (ws : List Nat) (L : Nat) : List Nat := (List.range L).map fun k => byteTo ws k 8
theorem byteTo_zero (ws : List Nat) (k : Nat) : byteTo ws k 0 = 0 := by
  refine (Gf.eq_bitsOf (n := 8) (Nat.two_pow_pos 8) fun j _ => ?_).symm
  simp
theorem byteTo_lt (ws : List Nat) (k t : Nat) : byteTo ws k t < 256 := Gf.bitsOf_lt 8 _
theorem byteTo_next (ws : List Nat) (k t : Nat) (ht : t < 8) : byteTo ws k t ||| (if (ws.getD (k / 8) 0).testBit (8 * t + k % 8) then 2 ^ t else 0) = byteTo ws k (t + 1) := by
  refine Gf.or_bit _ ht fun j hj => ?_
  by_cases e : j = t
  · subst e; simp
  · have h4 : (j < t + 1) ↔ (j < t) := by omega
    simp [e, h4]
theorem bytesOf_words (p : List Nat) (n : Nat) (hb : Bytes p) (hn : p.length ≤ 8 * n) : bytesOf (wordsOf p n) p.length = p := by
  apply List.ext_getElem
  · simp [bytesOf]
  · intro k h1 h2
    have hk8 : k / 8 < n := by omega
    have hw : (wordsOf p n).getD (k / 8) 0 = wordAt p (k / 8) := by simp [wordsOf, hk8]
    have hpk : p.getD k 0 = p[k] := by simp [h2]
    simp only [bytesOf, List.getElem_map, List.getElem_range]
    refine (Gf.eq_bitsOf (n := 8) (hb.at k h2) fun b hb8 => ?_).symm
    rw [hw, wordAt, Gf.planes, Gf.bitsOf_testBit, show (8 * b + k % 8) % 8 = k % 8 by omega, show (8 * b + k % 8) / 8 = b by omega, show 8 * (k / 8) + k % 8 = k by omega, hpk]
    simp [hb8, show 8 * b + k % 8 < 64 by omega]
theorem bit_byte (W m t : Nat) (hW : W < 18446744073709551616) (ht : t < 8) : IntKind.u8.wrap (IntKind.u8.wrap (bits .and .u64 ((W : Int) / 2 ^ m) 1) * 2 ^ t) = ((if W.testBit m then 2 ^ t else 0 : Nat) : Int) := by
  have h1 : bits .and .u64 ((W : Int) / 2 ^ m) 1 = if W.testBit m then 1 else 0 := by
    have hl : W / 2 ^ m < 18446744073709551616 := Nat.lt_of_le_of_lt (Nat.div_le_self _ _) hW
    rw [Gf.cast_shr, show (1 : Int) = ((1 : Nat) : Int) from rfl, u64_and_nat _ _ hl (by omega), nat_mask1, Gf.testBit_div]
    have hlt : W / 2 ^ m % 2 < 2 := Nat.mod_lt _ (by omega)
    generalize W / 2 ^ m % 2 = t at hlt ⊢
    rcases (show t = 0 ∨ t = 1 by omega) with rfl | rfl <;> rfl
  rw [h1]
  have hp : (2 : Nat) ^ t < 256 := Gf.two_lt t ht
  split
  · rw [IntKind.wrap_u8', IntKind.wrap_u8']
    have e : ((2 : Int) ^ t) = ((2 ^ t : Nat) : Int) := by simp
    rw [e, show (1 : Int) % 256 = 1 from rfl, Int.one_mul]
    generalize 2 ^ t = u at hp ⊢
    omega
  · rw [IntKind.wrap_u8', IntKind.wrap_u8']; simp
theorem bit_lt8 (b : Bool) (t : Nat) (ht : t < 8) : (if b then 2 ^ t else 0) < 256 := by
  split
  · exact Gf.two_lt t ht
  · omega

set_option maxRecDepth 100000 in
set_option maxHeartbeats 1000000 in
theorem fromPlanes_any (ws : List Nat) (n L c : Nat) (w : World) (hc : Blk w c 119 (wordsV ws)) (hn : ws.length = n) (hL : L ≤ 8 * n) (hl : L ≤ 1000) (hw : ∀ x, x ∈ ws → x < 18446744073709551616) :
    Calls Tryd.prog 67 #[.slice (some ⟨c, 0, none⟩) n n, .int .i64 L] w fun e w' => ∃ b, w.heap.size ≤ b ∧ e = .returned (.slice (some ⟨b, 0, none⟩) L L) ∧ Blk w' b 5 (bytesV (bytesOf ws L)) ∧ Below w.heap.size w w' := by
  have hmk := fun w => make_bytes L (by omega) w
  have HC : Hid (Blk w c 119 (wordsV ws)) := hc
  have hclt := hc.lt
  have HW : Hid (∀ x, x ∈ ws → x < 18446744073709551616) := hw
  clear hc hw
  go_enter Tryd.func67, Tryd.ntmps67
  go_wp2
  go_loopw [11] (fun i wr => ∃ k : Nat, k ≤ L ∧ i = .int .i64 k ∧ Blk wr w.heap.size 5 (bytesV (mix (bytesOf ws L) (List.replicate L 0) k)) ∧ Below w.heap.size w wr) (fun i _ => L - (intOf i).toNat)
  case atStart => exact ⟨0, Nat.zero_le _, rfl, by rw [mix_zero]; exact made_bytes w L, (Below.refl _ _).alloc (Nat.le_refl _) _⟩
  case round =>
    obtain ⟨k, hk, rfl, hB, hbel⟩ := hrel
    by_cases hlt : k < L
    · have hk8 : k / 8 < ws.length := by omega
      have hcw := (HC.out.to hbel).cell_some (k := k / 8) (wordsV_at hk8)
      have hWb : ws[k / 8] < 18446744073709551616 := HW.out _ (List.getElem_mem hk8)
      have hWe : ws.getD (k / 8) 0 = ws[k / 8] := by simp [hk8]
      generalize ws[k / 8] = W at hcw hWb hWe
      have HWB : Hid (W < 18446744073709551616) := hWb
      have HWE : Hid (ws.getD (k / 8) 0 = W) := hWe
      have hki : (k : Int) / 8 < (n : Int) := by omega
      have HCW : Hid (w.cell? ⟨c, k / 8, none⟩ = some (.int .u64 W)) := by show _ = _; rw [← hbel.cell (p := ⟨c, k / 8, none⟩) hclt]; exact hcw
      clear hWb hWe hcw
      go_wp2
      go_loopw [14] (fun i wr => ∃ t : Nat, t ≤ 8 ∧ i = .int .i64 t ∧ Blk wr w.heap.size 5 (bytesV ((mix (bytesOf ws L) (List.replicate L 0) k).set k (byteTo ws k t))) ∧ Below w.heap.size w wr) (fun i _ => 8 - (intOf i).toNat)
      case atStart =>
        refine ⟨0, Nat.zero_le _, rfl, hB.eq ?_, hbel⟩
        rw [byteTo_zero, mix_stay (by simp [bytesOf]) (by simpa using hlt) (List.getElem_replicate _)]
      case round =>
        clear hB hbel
        obtain ⟨t, ht, rfl, hB, hbel⟩ := hrel
        by_cases htlt : t < 8
        · have hc1 := hB.cell_some (k := k) (v := .int .u8 (byteTo ws k t : Nat)) (by rw [bytesV_at (by rw [List.length_set, mix_length (by simp [bytesOf])]; simpa using hlt)]; simp)
          have hf1 := hB.free k
          have hcw := HCW.out
          rw [← hbel.cell (p := ⟨c, k / 8, none⟩) hclt] at hcw
          obtain ⟨m, hm⟩ : ∃ m, m = 8 * t + k % 8 := ⟨_, rfl⟩
          have em : 8 * (t : Int) + (k : Int) % 8 = (m : Int) := by omega
          have hm64 : m < 64 := by omega
          have EV : Hid (bits .or .u8 (byteTo ws k t : Nat) (bits .and .u64 ((W : Int) / 2 ^ m) 1 % 256 * 2 ^ t % 256) = (byteTo ws k (t + 1) : Nat)) := by
            show _ = _
            rw [← IntKind.wrap_u8', ← IntKind.wrap_u8', bit_byte W m t HWB.out htlt, u8_or_nat _ _ (byteTo_lt _ _ _) (bit_lt8 _ _ htlt), ← HWE.out, hm, byteTo_next ws k t htlt]
          have HB : Hid (Blk wr w.heap.size 5 (bytesV ((mix (bytesOf ws L) (List.replicate L 0) k).set k (byteTo ws k t)))) := hB
          generalize byteTo ws k t = old at hc1 EV
          clear hB hm
          go_wp2
          go_region
          go_wp2
          go_roundw
          case rel =>
            refine ⟨t + 1, by omega, by go_num, ?_, (hbel.setCell (Nat.le_refl _) _).drew⟩
            refine (HB.out.set k _).drew.eq ?_
            rw [EV.out, bytesV_set, List.set_set]
          case measure => simp [intOf]; omega
        · obtain rfl : t = 8 := by omega
          go_wp2
          go_roundw
          case rel =>
            refine ⟨k + 1, by omega, by go_num, hB.eq ?_, hbel⟩
            rw [← mix_set (k := k) (new := bytesOf ws L) (old := List.replicate L 0) (by simp [bytesOf]) (by simpa using hlt)]
            simp [bytesOf]
          case measure => simp [intOf]; omega
    · obtain rfl : k = L := by omega
      have e := mix_all (new := bytesOf ws k) (old := List.replicate k 0) (by simp [bytesOf])
      simp only [List.length_replicate] at e
      rw [e] at hB
      go_wp2
      go_ret
      exact ⟨w.heap.size, Nat.le_refl _, rfl, hB, hbel⟩
end Go.Proofs.YtokmllopbfmadabDoor.Planes

/- Rows of words, as the rows of bytes. -/
namespace Go.Proofs.YtokmllopbfmadabDoor.Planes
open Go.RowKit Mem
/-- The slice v reads as these bytes. -/
def WsAt (w : World) (v : Value) (l : List Nat) : Prop :=
  ∃ ao cap, v = .slice ao l.length cap ∧ (l = [] ∨ ∃ b off, ao = some ⟨b, off, none⟩ ∧ b < w.heap.size ∧ ∀ k, (h : k < l.length) → w.cell? ⟨b, off + k, none⟩ = some (.int .u64 (l[k] : Nat)))
/-- The slice v reads as these rows of bytes. -/
def WRowsAt (w : World) (v : Value) (rows : List (List Nat)) : Prop :=
  ∃ ao cap, v = .slice ao rows.length cap ∧ (rows = [] ∨ ∃ b off, ao = some ⟨b, off, none⟩ ∧ b < w.heap.size ∧ ∀ k, (h : k < rows.length) → ∃ u, w.cell? ⟨b, off + k, none⟩ = some u ∧ WsAt w u rows[k])

section
variable {w w' : World} {v : Value}
theorem WsAt.to {l : List Nat} (h : WsAt w v l) (hb : Below w.heap.size w w') : WsAt w' v l := by
  obtain ⟨ao, cap, rfl, h⟩ := h
  refine ⟨ao, cap, rfl, ?_⟩
  rcases h with h | ⟨b, off, rfl, hlt, hc⟩
  · exact .inl h
  · exact .inr ⟨b, off, rfl, Nat.lt_of_lt_of_le hlt hb.size, fun k hk => by rw [hb.cell (p := ⟨b, off + k, none⟩) hlt]; exact hc k hk⟩
theorem WRowsAt.to {rows : List (List Nat)} (h : WRowsAt w v rows) (hb : Below w.heap.size w w') : WRowsAt w' v rows := by
  obtain ⟨ao, cap, rfl, h⟩ := h
  refine ⟨ao, cap, rfl, ?_⟩
  rcases h with h | ⟨b, off, rfl, hlt, hc⟩
  · exact .inl h
  · refine .inr ⟨b, off, rfl, Nat.lt_of_lt_of_le hlt hb.size, fun k hk => ?_⟩
    obtain ⟨u, hu, hr⟩ := hc k hk
    exact ⟨u, by rw [hb.cell (p := ⟨b, off + k, none⟩) hlt]; exact hu, hr.to hb⟩
theorem WsAt.of_blk {b : Nat} {t : TypeId} {l : List Nat} (h : Blk w b t (wordsV l)) (n cap : Nat) (hn : n = l.length) : WsAt w (.slice (some ⟨b, 0, none⟩) n cap) l := by
  subst hn
  exact ⟨_, _, rfl, .inr ⟨b, 0, rfl, h.lt, fun k hk => by rw [Nat.zero_add, h.cell k, wordsV_at hk]⟩⟩
theorem WsAt.pos {l : List Nat} (h : WsAt w v l) (hl : 0 < l.length) : ∃ b off cap, v = .slice (some ⟨b, off, none⟩) l.length cap ∧ b < w.heap.size ∧ ∀ k, (h : k < l.length) → w.cell? ⟨b, off + k, none⟩ = some (.int .u64 (l[k] : Nat)) := by
  obtain ⟨ao, cap, rfl, h1⟩ := h
  rcases h1 with h | ⟨b, off, rfl, hlt, hc⟩
  · subst h; simp at hl
  · exact ⟨b, off, cap, rfl, hlt, hc⟩
theorem WRowsAt.pos {rows : List (List Nat)} (h : WRowsAt w v rows) (hl : 0 < rows.length) : ∃ b off cap, v = .slice (some ⟨b, off, none⟩) rows.length cap ∧ b < w.heap.size ∧ ∀ k, (h : k < rows.length) → ∃ u, w.cell? ⟨b, off + k, none⟩ = some u ∧ WsAt w u rows[k] := by
  obtain ⟨ao, cap, rfl, h1⟩ := h
  rcases h1 with h | ⟨b, off, rfl, hlt, hc⟩
  · subst h; simp at hl
  · exact ⟨b, off, cap, rfl, hlt, hc⟩
end

/-- A row of bytes of the call's own: a block of its own, of just that length. -/
def OwnW (w : World) (u : Value) (l : List Nat) : Prop := ∃ b, u = .slice (some ⟨b, 0, none⟩) l.length l.length ∧ Blk w b 119 (wordsV l)
theorem OwnW.bs {w : World} {u : Value} {l : List Nat} (h : OwnW w u l) : WsAt w u l := by
  obtain ⟨b, rfl, hb⟩ := h
  exact WsAt.of_blk hb _ _ rfl
theorem OwnW.to {w w' : World} {u : Value} {l : List Nat} (h : OwnW w u l) (hb : Below w.heap.size w w') : OwnW w' u l := by
  obtain ⟨b, rfl, h⟩ := h
  exact ⟨b, rfl, h.to hb⟩

theorem OwnW.set {w : World} {u : Value} {l : List Nat} (h : OwnW w u l) {B : Nat} {t : TypeId} {us : List Value} (hB : Blk w B t us) (ht : 119 ≠ t) (k : Nat) (x : Value) : OwnW (w.setCell ⟨B, k, none⟩ x) u l := by
  obtain ⟨b, rfl, h⟩ := h
  exact ⟨b, rfl, h.other (h.type_ne hB ht) _⟩
/-- A row of rows that is being filled: the first i are made. -/
def FilledW (w : World) (B n i : Nat) (f : Nat → List Nat) : Prop := ∃ us : List Value, us.length = n ∧ Blk w B 113 us ∧ ∀ k, k < i → ∃ u, us[k]? = some u ∧ OwnW w u (f k)
theorem FilledW.to {w w' : World} {B n i : Nat} {f : Nat → List Nat} (h : FilledW w B n i f) (hb : Below w.heap.size w w') : FilledW w' B n i f := by
  obtain ⟨us, hl, hB, hf⟩ := h
  refine ⟨us, hl, hB.to hb, fun k hk => ?_⟩
  obtain ⟨u, hu, ho⟩ := hf k hk
  exact ⟨u, hu, ho.to hb⟩
theorem FilledW.lt {w : World} {B n i : Nat} {f : Nat → List Nat} (h : FilledW w B n i f) : B < w.heap.size := by
  obtain ⟨us, hl, hB, hf⟩ := h; exact hB.lt
theorem FilledW.cell {w : World} {B n i : Nat} {f : Nat → List Nat} (h : FilledW w B n i f) {k : Nat} (hk : k < n) : (∃ v, w.cell? ⟨B, k, none⟩ = some v) ∧ w.frozen? ⟨B, k, none⟩ = false := by
  obtain ⟨us, hl, hB, hf⟩ := h
  exact ⟨⟨us[k]'(by omega), hB.cell_some (by simp [show k < us.length by omega])⟩, hB.free k⟩
theorem FilledW.step {w : World} {B n i : Nat} {f : Nat → List Nat} (h : FilledW w B n i f) (hi : i < n) {u : Value} (ho : OwnW w u (f i)) : FilledW (w.setCell ⟨B, i, none⟩ u) B n (i + 1) f := by
  obtain ⟨us, hl, hB, hf⟩ := h
  refine ⟨us.set i u, by simpa using hl, hB.set i u, fun k hk => ?_⟩
  by_cases e : k = i
  · subst e
    exact ⟨u, by simp [show k < us.length by omega], ho.set hB (by decide) _ _⟩
  · obtain ⟨v, hv, hov⟩ := hf k (by omega)
    exact ⟨v, by rw [List.getElem?_set_ne (by omega)]; exact hv, hov.set hB (by decide) _ _⟩
theorem FilledW.zero {w : World} {B n : Nat} {us : List Value} (h : Blk w B 113 us) (hl : us.length = n) (f : Nat → List Nat) : FilledW w B n 0 f := ⟨us, hl, h, fun k hk => by omega⟩
theorem FilledW.row {w : World} {B n i : Nat} {f : Nat → List Nat} (h : FilledW w B n i f) {k : Nat} (hk : k < i) : ∃ u, w.cell? ⟨B, k, none⟩ = some u ∧ OwnW w u (f k) := by
  obtain ⟨us, hl, hB, hf⟩ := h
  obtain ⟨u, hu, ho⟩ := hf k hk
  exact ⟨u, hB.cell_some hu, ho⟩
theorem FilledW.rows {w : World} {B n : Nat} {f : Nat → List Nat} (h : FilledW w B n n f) {rows : List (List Nat)} (hr : rows.length = n) (he : ∀ k, (h : k < rows.length) → rows[k] = f k) : WRowsAt w (.slice (some ⟨B, 0, none⟩) n n) rows := by
  refine ⟨_, _, by rw [hr], .inr ⟨B, 0, rfl, h.lt, fun k hk => ?_⟩⟩
  obtain ⟨u, hu, ho⟩ := h.row (k := k) (by omega)
  exact ⟨u, by rw [Nat.zero_add]; exact hu, by rw [he k hk]; exact ho.bs⟩
end Go.Proofs.YtokmllopbfmadabDoor.Planes

namespace Go.Proofs.YtokmllopbfmadabDoor.Planes
open Go.RowKit Mem FieldWalks Tab ByTab
open Gf (Bytes sumTo addTo)

def Words (l : List Nat) : Prop := ∀ x, x ∈ l → x < 18446744073709551616
theorem Words.at {l : List Nat} (h : Words l) (k : Nat) (hk : k < l.length) : l[k] < 18446744073709551616 := h _ (List.getElem_mem hk)
def waddTo (f : Nat) (acc p : List Nat) : List Nat := List.zipWith (fun a x => a ^^^ Gf.moved f x 8) acc p
/-- The sum of the first j pieces' words, each moved by its factor. -/
def wsumTo (row : List Nat) (ps : List (List Nat)) (L : Nat) : Nat → List Nat
  | 0 => List.replicate L 0
  | j + 1 => waddTo (row.getD j 0) (wsumTo row ps L j) (ps.getD j [])
theorem wsumTo_length (row : List Nat) (ps : List (List Nat)) (L : Nat) (hl : ∀ j, (h : j < ps.length) → ps[j].length = L) : ∀ j, j ≤ ps.length → (wsumTo row ps L j).length = L
  | 0, _ => by simp [wsumTo]
  | j + 1, h => by
    have ih := wsumTo_length row ps L hl j (by omega)
    have hj : (ps.getD j []).length = L := by simp [show j < ps.length by omega, hl j (by omega)]
    rw [wsumTo, waddTo, List.length_zipWith]; omega
theorem wsumTo_words (row : List Nat) (ps : List (List Nat)) (L : Nat) : ∀ j, Words (wsumTo row ps L j)
  | 0 => by intro x hx; simp [wsumTo] at hx; omega
  | j + 1 => by
    intro x hx
    simp only [wsumTo, waddTo, List.mem_iff_getElem, List.getElem_zipWith, List.length_zipWith] at hx
    obtain ⟨k, hk, rfl⟩ := hx
    exact Nat.xor_lt_two_pow (n := 64) ((wsumTo_words row ps L j).at k (by omega)) (Gf.moved_lt _ _ _)
theorem wsumTo_next (row : List Nat) (ps : List (List Nat)) (L j k : Nat) (hj : j < ps.length) (hjr : j < row.length) (hk : k < ps[j].length) (h1 : k < (wsumTo row ps L j).length) (h2 : k < (wsumTo row ps L (j + 1)).length) :
    (wsumTo row ps L (j + 1))[k] = (wsumTo row ps L j)[k] ^^^ Gf.moved row[j] ps[j][k] 8 := by
  simp only [wsumTo, waddTo, List.getElem_zipWith]
  have e1 : row.getD j 0 = row[j] := by simp [hjr]
  have e2 : ps.getD j [] = ps[j] := by simp [hj]
  simp only [e1, e2]
theorem mix_words (a b : List Nat) (k : Nat) : wordsV (mix a b k) = mix (wordsV a) (wordsV b) k := by simp [wordsV, mix, List.map_take, List.map_drop]

theorem wround_facts (row : List Nat) (ps : List (List Nat)) (L j k f : Nat) (w wq : World) (S : Nat) (ao : Option Addr) (hlt : j < ps.length) (hrow : ps.length ≤ row.length) (hl : ∀ j, (h : j < ps.length) → ps[j].length = L)
    (_hb1 : Bytes row) (hb2 : ∀ j, (h : j < ps.length) → Words ps[j]) (hf : row[j] = f)
    (hx : ps[j] = [] ∨ ∃ b off, ao = some ⟨b, off, none⟩ ∧ b < w.heap.size ∧ ∀ k, (h : k < ps[j].length) → w.cell? ⟨b, off + k, none⟩ = some (.int .u64 (ps[j][k] : Nat)))
    (hk : k < L) (hbq : Below w.heap.size w wq) (hb : Blk wq S 119 (wordsV (mix (wsumTo row ps L (j + 1)) (wsumTo row ps L j) k))) :
    ∃ o x b off, ao = some ⟨b, off, none⟩ ∧ x < 18446744073709551616 ∧ wq.cell? ⟨b, off + k, none⟩ = some (.int .u64 (x : Nat)) ∧ wq.cell? ⟨S, k, none⟩ = some (.int .u64 (o : Nat)) ∧
      (wordsV (mix (wsumTo row ps L (j + 1)) (wsumTo row ps L j) k)).set k (.int .u64 (bits .xor .u64 (o : Nat) (Gf.moved f x 8 : Nat))) = wordsV (mix (wsumTo row ps L (j + 1)) (wsumTo row ps L j) (k + 1)) := by
  have hlj := hl j hlt
  have l0 : (wsumTo row ps L j).length = L := wsumTo_length row ps L hl _ (by omega)
  have l1 : (wsumTo row ps L (j + 1)).length = L := wsumTo_length row ps L hl _ (by omega)
  have le : (wsumTo row ps L (j + 1)).length = (wsumTo row ps L j).length := by omega
  rcases hx with h | ⟨b, off, rfl, hblt, hc⟩
  · rw [h] at hlj; simp at hlj; omega
  · refine ⟨(wsumTo row ps L j)[k]'(by omega), ps[j][k]'(by omega), b, off, rfl, (hb2 j hlt).at k _, ?_, ?_, ?_⟩
    · rw [hbq.cell (p := ⟨b, off + k, none⟩) hblt]; exact hc k (by omega)
    · refine hb.cell_some ?_
      simp [wordsV, mix_at le (show k < (wsumTo row ps L j).length by omega)]
    · rw [← hf, u64_xor_nat _ _ ((wsumTo_words row ps L j).at k _) (Gf.moved_lt _ _ _), ← wsumTo_next row ps L j k hlt (by omega) (by omega) (by omega) (by omega), wordsV_set, mix_set le (by omega)]

set_option maxRecDepth 100000 in
set_option maxHeartbeats 1000000 in
theorem sumOfWords_any (row : List Nat) (ps : List (List Nat)) (L : Nat) (rv pv : Value) (w : World) (ht : Table w) (hr : BsAt w rv row) (hp : WRowsAt w pv ps)
    (hne : 0 < ps.length) (hn : ps.length ≤ 100) (hl : ∀ j, (h : j < ps.length) → ps[j].length = L) (hrow : ps.length ≤ row.length) (hb1 : Bytes row) (hb2 : ∀ j, (h : j < ps.length) → Words ps[j]) (hL : L ≤ 1000) :
    Calls Tryd.prog 68 #[rv, pv] w fun e w' => ∃ b, w.heap.size ≤ b ∧ e = .returned (.slice (some ⟨b, 0, none⟩) L L) ∧ Blk w' b 119 (wordsV (wsumTo row ps L ps.length)) ∧ Below w.heap.size w w' := by
  obtain ⟨rb, roff, rcap, rfl, hrlt, hrc⟩ := hr.pos (by omega)
  obtain ⟨pb, poff, pcap, rfl, hplt, hpc⟩ := hp.pos hne
  obtain ⟨u0, hu0, ao0, cap0, rfl, hx0⟩ := hpc 0 hne
  rw [hl 0 hne, Nat.add_zero] at hu0
  have hmk := fun w => make_words L (by omega) w
  have HPC : Hid (∀ k, (h : k < ps.length) → ∃ u, w.cell? ⟨pb, poff + k, none⟩ = some u ∧ WsAt w u ps[k]) := hpc
  have HRC : Hid (∀ k, (h : k < row.length) → w.cell? ⟨rb, roff + k, none⟩ = some (.int .u8 (row[k] : Nat))) := hrc
  have HL : Hid (∀ j, (h : j < ps.length) → ps[j].length = L) := hl
  clear hpc hrc hl hx0
  go_enter Tryd.func68, Tryd.ntmps68
  go_wp2
  clear hu0
  go_loopw [18] (fun i wr => ∃ j : Nat, j ≤ ps.length ∧ i = .int .i64 j ∧ Blk wr w.heap.size 119 (wordsV (wsumTo row ps L j)) ∧ Below w.heap.size w wr) (fun i _ => ps.length - (intOf i).toNat)
  case atStart => exact ⟨0, Nat.zero_le _, rfl, made_words w L, (Below.refl _ _).alloc (Nat.le_refl _) _⟩
  case round =>
    obtain ⟨j, hj, rfl, hb, hbel⟩ := hrel
    by_cases hlt : j < ps.length
    · obtain ⟨u, hu, hbs⟩ := HPC.out j hlt
      have hrj := HRC.out j (by omega)
      have hbs' := hbs
      obtain ⟨ao, cap, rfl, hx⟩ := hbs'
      rw [HL.out j hlt] at hu
      rw [← hbel.cell (p := ⟨pb, poff + j, none⟩) hplt] at hu
      rw [← hbel.cell (p := ⟨rb, roff + j, none⟩) hrlt] at hrj
      have hf : row[j] < 256 := hb1.at j (by omega)
      generalize hfe : row[j] = f at hrj hf
      have HFE : Hid (row[j] = f) := hfe
      have HX : Hid (ps[j] = [] ∨ ∃ b off, ao = some ⟨b, off, none⟩ ∧ b < w.heap.size ∧ ∀ k, (h : k < ps[j].length) → w.cell? ⟨b, off + k, none⟩ = some (.int .u64 (ps[j][k] : Nat))) := hx
      have HB : Hid (Blk wr w.heap.size 119 (wordsV (wsumTo row ps L j))) := hb
      clear hfe hx hbs hb
      go_wp2_with fail
      refine (planeMoves_any f hf _ (table_to ht hbel)).mono ?_
      rintro e w1 ⟨rfl, hw1⟩
      have HS : Hid ((Tryd.prog.info? 128).map (·.size) = some (wordsV (movesOf f)).toArray.size) := by show _ = _; rw [infoMoves]; simp [movesOf]
      go_wp2_with (refine wpList_store_row rfl 128 _ _ rfl w1.heap.size _ rfl rfl 128 _ (heap_alloc_new w1 _) HS.out (by simp [movesOf]) (wordsV_one _) ?_)
      have hsz1 := hbel.size
      have hsz2 := hw1.size
      have hS := HB.out.lt
      go_loopw [30] (fun i wq => ∃ k : Nat, k ≤ L ∧ i = .int .i64 k ∧ Blk wq w.heap.size 119 (wordsV (mix (wsumTo row ps L (j + 1)) (wsumTo row ps L j) k)) ∧ Blk wq w1.heap.size 128 (wordsV (movesOf f)) ∧ Below w.heap.size w wq) (fun i _ => L - (intOf i).toNat)
      case atStart =>
        refine ⟨0, Nat.zero_le _, rfl, ?_, ?_, ?_⟩
        · rw [mix_zero]; exact ((HB.out.to hw1).alloc _).row_other (by omega) _
        · exact (Blk.new w1 _ _).row _
        · exact below_row (((hbel.trans (hw1.mono hsz1))).alloc (by omega) _) (by omega) _
      case round =>
        obtain ⟨k, hk, rfl, hb, hT, hbq⟩ := hrel
        by_cases hklt : k < L
        · obtain ⟨o, x, b, off, rfl, hxb, hcx, hcs, hset⟩ := wround_facts row ps L j k f w wr w.heap.size ao hlt hrow HL.out hb1 hb2 HFE.out HX.out hklt hbq hb
          have hfs := hb.free k
          have HXB : Hid (x < 18446744073709551616) := hxb
          clear hxb
          have HSET : Hid _ := hset
          have HBQ : Hid _ := hb
          have HTQ : Hid _ := hT
          have hSlt := hb.lt
          have hTlt := hT.lt
          have hne : w1.heap.size ≠ w.heap.size := by omega
          have hr0 : wr.drew.rangeAt w1.heap.size 0 (wordsV (movesOf f)) := range_blk hT
          have hsz : (Tryd.prog.info? 128).map (·.size) = some (wordsV (movesOf f)).length := by rw [infoMoves]; simp [movesOf]
          have HR0 : Hid _ := hr0
          have HSZ : Hid _ := hsz
          clear hset hb hT hu hrj HX hr0 hsz
          go_wp2_with fail
          refine wp_region_held (S := fun wx => wx.rangeAt w1.heap.size 0 (wordsV (movesOf f))) rfl ?_
          refine wpAnyH_take (i := 0) (v := .slice (some ⟨w.heap.size, 0, none⟩) L L) rfl (by kernel_rfl) (by kernel_rfl) (by kernel_rfl) (fun _ _ _ h => h) (Or.inl ⟨by rfl, fun w _ => by go_simp⟩) HR0.out ?_
          refine wpAnyH_take (i := 1) (v := .int .i64 k) rfl (by kernel_rfl) (by kernel_rfl) (by kernel_rfl) (fun _ _ _ h => h) (Or.inl ⟨by rfl, fun w _ => by go_simp⟩) HR0.out ?_
          refine wpAnyH_take (i := 4) (v := .agg (wordsV (movesOf f)).toArray) rfl (by kernel_rfl) (by kernel_rfl) (by kernel_rfl) (fun _ _ _ h => h) (yieldsIf_load_mid (by rfl) _ _ rfl _ _ rfl _ _ (fun w h => h) Tryd.underlying128 rfl HSZ.out) HR0.out ?_
          refine wpAnyH_take (i := 2) (v := .pointer (some ⟨w.heap.size, k, none⟩)) rfl (by kernel_rfl) (by kernel_rfl) (by kernel_rfl) (fun _ _ _ h => h) (Or.inl ⟨by rfl, fun w _ => by go_simp⟩) HR0.out ?_
          refine wpAnyH_take (i := 5) (v := .int .u64 x) rfl (by kernel_rfl) (by kernel_rfl) (by kernel_rfl) (fun _ _ _ h => h) (Or.inl ⟨by rfl, fun w _ => by go_simp⟩) HR0.out ?_
          simp only [Act.put, List.setIfInBounds_toArray]
          refine wpAnyH_ready (rs := [3, 6]) (by kernel_rfl) (by simp) ?_
          refine AllReadyH.cons rfl (fun K hK => ?_) (AllReadyH.cons rfl (fun K hK => ?_) AllReadyH.nil)
          · go_simp
            refine hK.out _ _ HR0.out (fun _ => ?_)
            clear hK K
            refine wpAnyH_ready (rs := [6]) (by kernel_rfl) (by simp) ?_
            refine AllReadyH.cons rfl (fun K hK => ?_) AllReadyH.nil
            go_simp
            refine (movePlanes_any f x HXB.out _).mono ?_
            rintro e w2 ⟨rfl, hw2⟩
            have c3 := (hw2.cell (p := ⟨w.heap.size, k, none⟩) (by exact hSlt)).trans hcs
            have f3 := (hw2.frozen (p := ⟨w.heap.size, k, none⟩) (by exact hSlt)).trans hfs
            have HR2 : Hid _ := range_to HR0.out hw2 hTlt
            dsimp only
            refine hK.out _ _ HR2.out (fun _ => ?_)
            clear hK K
            refine wpAnyH_take (i := 7) (v := .int .u64 (bits .xor .u64 (o : Nat) (Gf.moved f x 8 : Nat))) rfl (by kernel_rfl) (by kernel_rfl) (by kernel_rfl) (fun _ _ _ h => h) (Or.inl ⟨by rfl, fun w _ => by go_simp⟩) HR2.out ?_
            refine wpAnyH_take (i := 8) (v := .pointer (some ⟨w.heap.size, k, none⟩)) rfl (by kernel_rfl) (by kernel_rfl) (by kernel_rfl) (fun _ _ _ h => h) (Or.inl ⟨by rfl, fun w _ => by go_simp⟩) HR2.out ?_
            simp only [Act.put, List.setIfInBounds_toArray]
            refine wpAnyH_ready (rs := [9]) (by kernel_rfl) (by simp) ?_
            refine AllReadyH.cons rfl (fun K hK => ?_) AllReadyH.nil
            go_simp
            refine hK.out _ _ (range_set HR2.out hne _) (fun _ => ?_)
            clear hK K
            refine wpAnyH_done (by kernel_rfl) ?_ _
            go_wp2
            go_roundw
            case rel =>
              refine ⟨k + 1, by omega, by go_num, ?_, ?_, ?_⟩
              · exact ((Blk.below (w := wr.drew) HBQ.out hw2 (by exact hSlt)).set k _).eq HSET.out
              · exact (Blk.below (w := wr.drew) HTQ.out hw2 (by exact hTlt)).other hne _
              · exact (hbq.drew.trans (hw2.mono (by show _ ≤ wr.heap.size; omega))).setCell (Nat.le_refl _) _
            case measure => simp [intOf]; omega
          · go_simp
            refine (movePlanes_any f x HXB.out _).mono ?_
            rintro e w2 ⟨rfl, hw2⟩
            have c3 := (hw2.cell (p := ⟨w.heap.size, k, none⟩) (by exact hSlt)).trans hcs
            have f3 := (hw2.frozen (p := ⟨w.heap.size, k, none⟩) (by exact hSlt)).trans hfs
            have HR2 : Hid _ := range_to HR0.out hw2 hTlt
            dsimp only
            refine hK.out _ _ HR2.out (fun _ => ?_)
            clear hK K
            refine wpAnyH_ready (rs := [3]) (by kernel_rfl) (by simp) ?_
            refine AllReadyH.cons rfl (fun K hK => ?_) AllReadyH.nil
            go_simp
            refine hK.out _ _ HR2.out (fun _ => ?_)
            clear hK K
            refine wpAnyH_take (i := 7) (v := .int .u64 (bits .xor .u64 (o : Nat) (Gf.moved f x 8 : Nat))) rfl (by kernel_rfl) (by kernel_rfl) (by kernel_rfl) (fun _ _ _ h => h) (Or.inl ⟨by rfl, fun w _ => by go_simp⟩) HR2.out ?_
            refine wpAnyH_take (i := 8) (v := .pointer (some ⟨w.heap.size, k, none⟩)) rfl (by kernel_rfl) (by kernel_rfl) (by kernel_rfl) (fun _ _ _ h => h) (Or.inl ⟨by rfl, fun w _ => by go_simp⟩) HR2.out ?_
            simp only [Act.put, List.setIfInBounds_toArray]
            refine wpAnyH_ready (rs := [9]) (by kernel_rfl) (by simp) ?_
            refine AllReadyH.cons rfl (fun K hK => ?_) AllReadyH.nil
            go_simp
            refine hK.out _ _ (range_set HR2.out hne _) (fun _ => ?_)
            clear hK K
            refine wpAnyH_done (by kernel_rfl) ?_ _
            go_wp2
            go_roundw
            case rel =>
              refine ⟨k + 1, by omega, by go_num, ?_, ?_, ?_⟩
              · exact ((Blk.below (w := wr.drew) HBQ.out hw2 (by exact hSlt)).set k _).eq HSET.out
              · exact (Blk.below (w := wr.drew) HTQ.out hw2 (by exact hTlt)).other hne _
              · exact (hbq.drew.trans (hw2.mono (by show _ ≤ wr.heap.size; omega))).setCell (Nat.le_refl _) _
            case measure => simp [intOf]; omega
        · obtain rfl : k = L := by omega
          go_wp2
          go_roundw
          case rel =>
            refine ⟨j + 1, by omega, by go_num, ?_, hbq⟩
            refine hb.eq ?_
            have l0 : (wsumTo row ps k j).length = k := wsumTo_length row ps k HL.out _ (by omega)
            have l1 : (wsumTo row ps k (j + 1)).length = k := wsumTo_length row ps k HL.out _ (by omega)
            have e := mix_all (show (wsumTo row ps k (j + 1)).length = (wsumTo row ps k j).length by omega)
            rw [l0] at e
            rw [e]
          case measure => simp [intOf]; omega
    · obtain rfl : j = ps.length := by omega
      go_wp2
      go_ret
      exact ⟨w.heap.size, Nat.le_refl _, rfl, hb, hbel⟩
end Go.Proofs.YtokmllopbfmadabDoor.Planes
