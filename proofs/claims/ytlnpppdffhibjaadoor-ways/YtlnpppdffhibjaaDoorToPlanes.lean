import Derived.Test.YtlnpppdffhibjaaDoorMove
import Derived.Test.YtlnpppdffhibjaaDoorByTables
namespace Go.Proofs.YtlnpppdffhibjaaDoor.Planes
open Go.RowKit Mem FieldWalks Tab ByTab
open Gf (Bytes)

theorem infoWord : (Tryd.prog.info? 138).map (fun i => (i.zero, i.size, i.bytes)) = some (some (.int .u64 0), 1, 8) := by kernel_rfl
theorem make_words (n : Nat) (hn : n ≤ 100000) (w : World) :
    (Instr.makeSlice 126 (.int .i64 (n : Int)) (.int .i64 (n : Int))).run Tryd.prog w = .ok (.slice (some ⟨w.heap.size, 0, none⟩) n n) (w.alloc (.cells (madeCells #[.int .u64 0] n) 138)) :=
  run_make_row' 126 138 (.int .u64 0) 8 Tryd.underlying126 infoWord rfl .i64 .i64 n (by omega) (by omega) w
theorem made_words (w : World) (n : Nat) : Blk (w.alloc (.cells (madeCells #[.int .u64 0] n) 138)) w.heap.size 138 (wordsV (List.replicate n 0)) := by
  refine (Blk.new w _ _).eq ?_
  rw [toList_madeCells_one]; simp [wordsV]

/-- The words of a piece. -/
def wordAt (p : List Nat) (i : Nat) : Nat := Gf.planes fun q => p.getD (8 * i + q) 0
def wordsOf (p : List Nat) (n : Nat) : List Nat := (List.range n).map (wordAt p)
/-- The word i behind k bytes and b bits of the next. -/
def wordTo (p : List Nat) (k b i : Nat) : Nat :=
  Gf.bitsOf 64 fun j => (decide (8 * i + j % 8 < k) || (decide (8 * i + j % 8 = k) && decide (j / 8 < b))) && (p.getD (8 * i + j % 8) 0).testBit (j / 8)
def wordsTo (p : List Nat) (n k b : Nat) : List Nat := (List.range n).map (wordTo p k b)
theorem wordsTo_length (p : List Nat) (n k b : Nat) : (wordsTo p n k b).length = n := by simp [wordsTo]
theorem wordTo_lt (p : List Nat) (k b i : Nat) : wordTo p k b i < 18446744073709551616 := Gf.bitsOf_lt 64 _
theorem wordsTo_start (p : List Nat) (n : Nat) : wordsTo p n 0 0 = List.replicate n 0 := by
  apply List.ext_getElem
  · simp [wordsTo]
  · intro i h1 h2
    simp only [wordsTo, List.getElem_map, List.getElem_range, List.getElem_replicate]
    refine (Gf.eq_bitsOf (n := 64) (Nat.two_pow_pos 64) fun j _ => ?_).symm
    simp
theorem wordsTo_turn (p : List Nat) (n k : Nat) : wordsTo p n k 8 = wordsTo p n (k + 1) 0 := by
  unfold wordsTo
  refine List.map_congr_left fun i _ => Gf.bitsOf_congr fun j hj => ?_
  have h8 : j / 8 < 8 := by omega
  by_cases h1 : 8 * i + j % 8 < k
  · simp [h1, show 8 * i + j % 8 < k + 1 by omega]
  · by_cases h2 : 8 * i + j % 8 = k
    · simp [h2, h8]
    · simp [h1, h2, show ¬ 8 * i + j % 8 < k + 1 by omega]
theorem wordsTo_all (p : List Nat) (n : Nat) : wordsTo p n p.length 0 = wordsOf p n := by
  unfold wordsTo wordsOf
  refine List.map_congr_left fun i _ => ?_
  unfold wordTo wordAt Gf.planes
  refine Gf.bitsOf_congr fun j hj => ?_
  by_cases h1 : 8 * i + j % 8 < p.length
  · simp [h1]
  · simp [List.getElem?_eq_none (show p.length ≤ 8 * i + j % 8 by omega)]
theorem wordTo_next (p : List Nat) (k b : Nat) (hb : b < 8) : wordTo p k b (k / 8) ||| (if (p.getD k 0).testBit b then 2 ^ (8 * b + k % 8) else 0) = wordTo p k (b + 1) (k / 8) := by
  refine Gf.or_bit _ (by omega) fun j hj => ?_
  by_cases e : j = 8 * b + k % 8
  · subst e
    rw [show (8 * b + k % 8) % 8 = k % 8 by omega, show (8 * b + k % 8) / 8 = b by omega, show 8 * (k / 8) + k % 8 = k by omega]
    simp
  · by_cases h2 : 8 * (k / 8) + j % 8 = k
    · have h3 : j / 8 ≠ b := by omega
      have h4 : (j / 8 < b + 1) ↔ (j / 8 < b) := by omega
      simp [h2, e, h4]
    · simp [h2, e]
theorem wordsTo_next (p : List Nat) (n k b : Nat) : (wordsTo p n k b).set (k / 8) (wordTo p k (b + 1) (k / 8)) = wordsTo p n k (b + 1) := by
  apply List.ext_getElem
  · simp [wordsTo]
  · intro i h1 h2
    simp only [wordsTo, List.length_map, List.length_range] at h2
    rw [List.getElem_set]
    split
    · rename_i e; subst e; simp [wordsTo]
    · rename_i e
      simp only [wordsTo, List.getElem_map, List.getElem_range]
      refine Gf.bitsOf_congr fun j hj => ?_
      have : 8 * i + j % 8 ≠ k := by omega
      simp [this]

set_option maxRecDepth 100000 in
set_option maxHeartbeats 1000000 in
theorem toPlanes_any (p : List Nat) (pv : Value) (w : World) (hp : BsAt w pv p) (hb : Bytes p) (hl : p.length ≤ 1000) :
    Calls Tryd.prog 93 #[pv] w fun e w' => ∃ c, w.heap.size ≤ c ∧ e = .returned (.slice (some ⟨c, 0, none⟩) ((p.length + 7) / 8) ((p.length + 7) / 8)) ∧ Blk w' c 138 (wordsV (wordsOf p ((p.length + 7) / 8))) ∧ Below w.heap.size w w' := by
  obtain ⟨ao, cap, rfl, hc⟩ := hp
  obtain ⟨n, hn⟩ : ∃ n, n = (p.length + 7) / 8 := ⟨_, rfl⟩
  have en : ((p.length : Int) + 7) / 8 = (n : Int) := by rw [hn]; omega
  have hmk := fun w => make_words n (by omega) w
  have HN : Hid (n = (p.length + 7) / 8) := hn
  have HC : Hid (p = [] ∨ ∃ b off, ao = some ⟨b, off, none⟩ ∧ b < w.heap.size ∧ ∀ k, (h : k < p.length) → w.cell? ⟨b, off + k, none⟩ = some (.int .u8 (p[k] : Nat))) := hc
  rw [← hn]
  clear hc hn
  go_enter Tryd.func93, Tryd.ntmps93
  go_wp2
  go_loopw [14] (fun i wr => ∃ k : Nat, k ≤ p.length ∧ i = .int .i64 k ∧ Blk wr w.heap.size 138 (wordsV (wordsTo p n k 0)) ∧ Below w.heap.size w wr) (fun i _ => p.length - (intOf i).toNat)
  case atStart => exact ⟨0, Nat.zero_le _, rfl, by rw [wordsTo_start]; exact made_words w n, (Below.refl _ _).alloc (Nat.le_refl _) _⟩
  case round =>
    obtain ⟨k, hk, rfl, hW, hbel⟩ := hrel
    by_cases hlt : k < p.length
    · obtain ⟨b, off, rfl, hblt, hcl⟩ : ∃ b off, ao = some ⟨b, off, none⟩ ∧ b < w.heap.size ∧ ∀ k, (h : k < p.length) → w.cell? ⟨b, off + k, none⟩ = some (.int .u8 (p[k] : Nat)) := by
        rcases HC.out with h | h
        · rw [h] at hlt; simp at hlt
        · exact h
      have hc0 := hcl k hlt
      rw [← hbel.cell (p := ⟨b, off + k, none⟩) hblt] at hc0
      have hxb : p[k] < 256 := hb.at k hlt
      have hxe : p.getD k 0 = p[k] := by simp [hlt]
      generalize p[k] = x at hc0 hxb hxe
      have HXE : Hid (p.getD k 0 = x) := hxe
      have hkn : k / 8 < n := by have := HN.out; omega
      clear hcl hxe
      go_wp2
      clear hc0
      go_loopw [19] (fun i wr => ∃ t : Nat, t ≤ 8 ∧ i = .int .i64 t ∧ Blk wr w.heap.size 138 (wordsV (wordsTo p n k t)) ∧ Below w.heap.size w wr) (fun i _ => 8 - (intOf i).toNat)
      case atStart => exact ⟨0, Nat.zero_le _, rfl, hW, hbel⟩
      case round =>
        clear hW hbel
        obtain ⟨t, ht, rfl, hW, hbel⟩ := hrel
        by_cases htlt : t < 8
        · have hc1 := hW.cell_some (k := k / 8) (v := .int .u64 (wordTo p k t (k / 8) : Nat)) (by rw [wordsV_at (by rw [wordsTo_length]; exact hkn)]; simp [wordsTo])
          have hf1 := hW.free (k / 8)
          obtain ⟨m, hm⟩ : ∃ m, m = 8 * t + k % 8 := ⟨_, rfl⟩
          have em : 8 * (t : Int) + (k : Int) % 8 = (m : Int) := by omega
          have hm64 : m < 64 := by omega
          have EV : Hid (bits .or .u64 (wordTo p k t (k / 8) : Nat) (IntKind.u64.wrap (IntKind.u64.wrap (bits .and .u8 ((x : Int) / 2 ^ t) 1) * 2 ^ m)) = (wordTo p k (t + 1) (k / 8) : Nat)) := by
            show _ = _
            rw [bit_word x t m hxb hm64, u64_or_nat _ _ (wordTo_lt _ _ _ _) (bit_lt _ _ hm64), ← HXE.out, hm, wordTo_next p k t htlt]
          have HW : Hid (Blk wr w.heap.size 138 (wordsV (wordsTo p n k t))) := hW
          generalize wordTo p k t (k / 8) = old at hc1 EV
          have hk8 : (k : Int) / 8 < (n : Int) := by omega
          clear hW hm
          go_wp2
          go_region
          go_wp2
          go_roundw
          case rel =>
            refine ⟨t + 1, by omega, by go_num, ?_, (hbel.setCell (Nat.le_refl _) _).drew⟩
            refine (HW.out.set (k / 8) _).drew.eq ?_
            rw [EV.out, wordsV_set, wordsTo_next p n k t]
          case measure => simp [intOf]; omega
        · obtain rfl : t = 8 := by omega
          rw [wordsTo_turn] at hW
          go_wp2
          go_roundw
          case rel => exact ⟨k + 1, by omega, by go_num, hW, hbel⟩
          case measure => simp [intOf]; omega
    · obtain rfl : k = p.length := by omega
      rw [wordsTo_all] at hW
      go_wp2
      go_ret
      exact ⟨w.heap.size, Nat.le_refl _, rfl, hW, hbel⟩
end Go.Proofs.YtlnpppdffhibjaaDoor.Planes
