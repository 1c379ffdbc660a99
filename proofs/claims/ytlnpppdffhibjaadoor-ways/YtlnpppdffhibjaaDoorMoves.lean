import Derived.Test.YtlnpppdffhibjaaDoorCols
import Derived.RegionTactic
namespace Go.Proofs.YtlnpppdffhibjaaDoor.Planes
open Go.RowKit Mem FieldWalks Tab

def wordsV (l : List Nat) : List Value := l.map fun (n : Nat) => Value.int .u64 (n : Int)
@[simp] theorem wordsV_length (l : List Nat) : (wordsV l).length = l.length := by simp [wordsV]
theorem wordsV_at {l : List Nat} {k : Nat} (h : k < l.length) : (wordsV l)[k]? = some (.int .u64 (l[k] : Nat)) := by simp [wordsV, h]
theorem wordsV_set (l : List Nat) (k n : Nat) : (wordsV l).set k (.int .u64 (n : Int)) = wordsV (l.set k n) := by simp [wordsV, List.map_set]
theorem wordsV_one (l : List Nat) : (wordsV l).toArray.all (·.oneCell') = true := by
  rw [Array.all_eq_true_iff_forall_mem]; intro v hv; simp [wordsV] at hv; obtain ⟨n, _, rfl⟩ := hv; rfl

theorem index_col (f k : Nat) (hk : k < 8) (w : World) : (Instr.index 143 (.agg (bytesV (colsOf f)).toArray) (.int .i64 (k : Int))).run Tryd.prog w = .ok (.int .u8 (Gf.times f (2 ^ k) : Nat)) w := by
  rcases (show k = 0 ∨ k = 1 ∨ k = 2 ∨ k = 3 ∨ k = 4 ∨ k = 5 ∨ k = 6 ∨ k = 7 by omega) with rfl | rfl | rfl | rfl | rfl | rfl | rfl | rfl <;> kernel_rfl
def movesOf (f : Nat) : List Nat := (List.range 8).map fun b => Gf.moves (Gf.times f (2 ^ b))
/-- The moves of one column, behind n of its bits. -/
def movesTo (c n : Nat) : Nat := Gf.bitsOf 64 fun j => decide (j % 8 = 0) && (decide (j / 8 < n) && c.testBit (j / 8))
theorem movesTo_zero (c : Nat) : movesTo c 0 = 0 := by
  refine (Gf.eq_bitsOf (n := 64) (Nat.two_pow_pos 64) fun j _ => ?_).symm
  simp
theorem movesTo_all (c : Nat) : movesTo c 8 = Gf.moves c := Gf.bitsOf_congr fun j hj => by simp [show j / 8 < 8 by omega]
theorem movesTo_lt (c n : Nat) : movesTo c n < 18446744073709551616 := Gf.bitsOf_lt 64 _
theorem movesTo_next (c n : Nat) (hn : n < 8) : movesTo c n ||| (if c.testBit n then 2 ^ (8 * n) else 0) = movesTo c (n + 1) := by
  refine Gf.or_bit (c.testBit n) (by omega) fun i hi => ?_
  by_cases e : i = 8 * n
  · subst e; simp [show 8 * n / 8 = n by omega]
  · by_cases h8 : i % 8 = 0
    · have h1 : i / 8 ≠ n := by omega
      have : (i / 8 < n + 1) ↔ (i / 8 < n) := by omega
      simp [h8, e, this]
    · simp [h8, e]
theorem mix_stay {new old : List Nat} {b x : Nat} (h : new.length = old.length) (hb : b < old.length) (hx : old[b] = x) : (mix new old b).set b x = mix new old b := by
  apply List.ext_getElem?
  intro i
  by_cases e : i = b
  · subst e
    rw [mix_at h hb, hx, List.getElem?_set_self (by rw [mix_length h]; exact hb)]
  · rw [List.getElem?_set_ne (by omega)]
/-- A bit, as the walk spells it, moved up in a word. -/
theorem bit_word (c n m : Nat) (hc : c < 256) (hm : m < 64) : IntKind.u64.wrap (IntKind.u64.wrap (bits .and .u8 ((c : Int) / 2 ^ n) 1) * 2 ^ m) = ((if c.testBit n then 2 ^ m else 0 : Nat) : Int) := by
  have h1 : bits .and .u8 ((c : Int) / 2 ^ n) 1 = if c.testBit n then 1 else 0 := by
    have hl : c / 2 ^ n < 256 := Nat.lt_of_le_of_lt (Nat.div_le_self _ _) hc
    rw [Gf.cast_shr, show (1 : Int) = ((1 : Nat) : Int) from rfl, u8_and_nat _ _ hl (by omega), nat_mask1, Gf.testBit_div]
    have hlt : c / 2 ^ n % 2 < 2 := Nat.mod_lt _ (by omega)
    generalize c / 2 ^ n % 2 = t at hlt ⊢
    rcases (show t = 0 ∨ t = 1 by omega) with rfl | rfl <;> rfl
  rw [h1]
  have hp : (2 : Nat) ^ m < 2 ^ 64 := Nat.pow_lt_pow_right (by omega) hm
  split
  · rw [IntKind.wrap_u64, IntKind.wrap_u64]
    have e : ((2 : Int) ^ m) = ((2 ^ m : Nat) : Int) := by simp
    rw [e, show (1 : Int) % 18446744073709551616 = 1 from rfl, Int.one_mul]
    generalize 2 ^ m = t at hp ⊢
    omega
  · rw [IntKind.wrap_u64, IntKind.wrap_u64]; simp

theorem bit_lt (b : Bool) (m : Nat) (hm : m < 64) : (if b then 2 ^ m else 0) < 18446744073709551616 := by
  split
  · have h : 2 ^ m < 2 ^ 64 := Nat.pow_lt_pow_right (by omega) hm
    exact h
  · omega
theorem zeros_get (n b : Nat) (h : b < (zeros n).length) : (zeros n)[b] = 0 := by unfold zeros; exact List.getElem_replicate _
theorem infoMoves : (Tryd.prog.info? 139).map (·.size) = some 8 := by kernel_rfl

set_option maxRecDepth 100000 in
set_option maxHeartbeats 400000 in
theorem planeMoves_any (f : Nat) (hf : f < 256) (w : World) (ht : Table w) :
    Calls Tryd.prog 106 #[.int .u8 f] w fun e w' => e = .returned (.agg (wordsV (movesOf f)).toArray) ∧ Below w.heap.size w w' := by
  go_enter Tryd.func106, Tryd.ntmps106
  go_wp2_with fail
  refine (columns_any f hf _ (table_to ht ((Below.refl _ _).alloc (Nat.le_refl _) _ |>.alloc (by simp) _))).mono ?_
  rintro e w1 ⟨rfl, hw1⟩
  go_wp2
  have hbel : Below w.heap.size w w1 := ((Below.refl _ _).alloc (Nat.le_refl _) _ |>.alloc (by simp) _).trans (hw1.mono (by simp; omega))
  have hA : Blk w1 w.heap.size 139 (wordsV (zeros 8)) := ((Blk.new w _ _).alloc _).to hw1
  have hM : Blk w1 (w.heap.size + 1) 139 (wordsV (zeros 8)) := (Blk.new1 w _ _ _).to hw1
  clear hw1
  go_loopw [9] (fun i wr => ∃ b : Nat, b ≤ 8 ∧ i = .int .i64 b ∧ Blk wr w.heap.size 139 (wordsV (zeros 8)) ∧ Blk wr (w.heap.size + 1) 139 (wordsV (mix (movesOf f) (zeros 8) b)) ∧ Below w.heap.size w wr) (fun i _ => 8 - (intOf i).toNat)
  case atStart => exact ⟨0, Nat.zero_le _, rfl, hA, by rw [mix_zero]; exact hM, hbel⟩
  case round =>
    clear hA hM hbel
    obtain ⟨b, hb, rfl, hA, hM, hbel⟩ := hrel
    by_cases hlt : b < 8
    · have hix := fun w => index_col f b hlt w
      obtain ⟨col, hcol⟩ : ∃ col, col = Gf.times f (2 ^ b) := ⟨_, rfl⟩
      have hcb : col < 256 := by rw [hcol]; exact Gf.times_lt _ _ hf
      have HC : Hid (col = Gf.times f (2 ^ b)) := hcol
      rw [← hcol] at hix
      clear hcol
      go_wp2
      clear hix
      go_loopw [13] (fun i wr => ∃ t : Nat, t ≤ 8 ∧ i = .int .i64 t ∧ Blk wr w.heap.size 139 (wordsV (zeros 8)) ∧ Blk wr (w.heap.size + 1) 139 (wordsV ((mix (movesOf f) (zeros 8) b).set b (movesTo col t))) ∧ Below w.heap.size w wr) (fun i _ => 8 - (intOf i).toNat)
      case atStart =>
        refine ⟨0, Nat.zero_le _, rfl, hA, hM.eq ?_, hbel⟩
        rw [movesTo_zero, mix_stay (by simp [movesOf, zeros]) (by simpa [zeros] using hlt) (zeros_get _ _ _)]
      case round =>
        clear hA hM hbel
        obtain ⟨t, ht', rfl, hA, hM, hbel⟩ := hrel
        by_cases htlt : t < 8
        · have hll : ((mix (movesOf f) (zeros 8) b).set b (movesTo col t)).length = 8 := by rw [List.length_set, mix_length (by simp [movesOf, zeros])]; simp [zeros]
          have hc1 := hM.cell_some (k := b) (v := .int .u64 (movesTo col t : Nat)) (by rw [wordsV_at (by omega)]; simp)
          have hf1 := hM.free b
          have HA : Hid (Blk wr w.heap.size 139 (wordsV (zeros 8))) := hA
          have HM : Hid (Blk wr (w.heap.size + 1) 139 (wordsV ((mix (movesOf f) (zeros 8) b).set b (movesTo col t)))) := hM
          clear hA hM hll
          have EV : Hid (bits .or .u64 (movesTo col t : Nat) (IntKind.u64.wrap (IntKind.u64.wrap (bits .and .u8 ((col : Int) / 2 ^ t) 1) * 2 ^ (8 * t))) = (movesTo col (t + 1) : Nat)) := by
            show _ = _
            rw [bit_word col t (8 * t) hcb (by omega), u64_or_nat _ _ (movesTo_lt col t) (bit_lt _ _ (by omega)), movesTo_next col t htlt]
          generalize movesTo col t = old at hc1 EV
          go_wp2
          go_region
          go_wp2
          go_roundw
          case rel =>
            refine ⟨t + 1, by omega, by go_num, (HA.out.other (by show _ ≠ w.heap.size + 1; omega) _).drew, ?_, (hbel.setCell (by show _ ≤ w.heap.size + 1; omega) _).drew⟩
            refine (HM.out.set b _).drew.eq ?_
            rw [EV.out, wordsV_set, List.set_set]
          case measure => simp [intOf]; omega
        · obtain rfl : t = 8 := by omega
          go_wp2
          go_roundw
          case rel =>
            refine ⟨b + 1, by omega, by go_num, hA, hM.eq ?_, hbel⟩
            rw [movesTo_all, HC.out, ← mix_set (k := b) (new := movesOf f) (old := zeros 8) (by simp [movesOf, zeros]) (by simpa [zeros] using hlt)]
            simp [movesOf]
          case measure => simp [intOf]; omega
    · obtain rfl : b = 8 := by omega
      have e := mix_all (new := movesOf f) (old := zeros 8) (by simp [movesOf, zeros])
      rw [show (zeros 8).length = 8 from rfl] at e
      rw [e] at hM
      have HS : Hid ((Tryd.prog.info? 139).map (·.size) = some (wordsV (movesOf f)).toArray.size) := by show _ = _; rw [infoMoves]; simp [movesOf]
      have HA : Hid (Blk wr w.heap.size 139 (wordsV (zeros 8))) := hA
      have HM : Hid (Blk wr (w.heap.size + 1) 139 (wordsV (movesOf f))) := hM
      clear hA hM e
      go_wp2_with (first | refine wpList_load_row rfl 139 _ rfl (w.heap.size + 1) rfl 139 _ _ _ HM.out Tryd.underlying139 rfl HS.out ?_ | refine wpList_store_row rfl 139 _ _ rfl w.heap.size _ rfl rfl 139 _ HA.out HS.out (by simp [movesOf, zeros]) (wordsV_one _) ?_)
      have hr := HA.out.row (wordsV (movesOf f)).toArray
      refine bodyPost_ret (v := .agg (wordsV (movesOf f)).toArray) (results_cell_row (p := 2) (ty := 139) (by kernel_rfl) _ _ w.heap.size 139 _ (0, 0) _ rfl hr Tryd.underlying139 rfl HS.out) rfl ⟨rfl, ?_⟩
      exact below_row hbel (Nat.le_refl _) _
end Go.Proofs.YtlnpppdffhibjaaDoor.Planes
