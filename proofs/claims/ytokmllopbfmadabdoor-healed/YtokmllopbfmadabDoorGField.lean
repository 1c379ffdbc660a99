import Derived.Test.YtokmllopbfmadabDoorChecked
import Derived.WalkKit
import Derived.ProofKit
import Derived.WalkLawsBesides
import Derived.Test.YtokmllopbfmadabDoorGGf
import Derived.BigQuiet
import Derived.Deep.QuietTactic
import Derived.Test.YtokmllopbfmadabDoorGMem
import Derived.Deep.OwnRows
import Derived.BigRegion
import Derived.Deep.RegionHeld3
namespace Go.Proofs.YtokmllopbfmadabDoor.FieldWalks
open Go.RowKit

set_option maxHeartbeats 400000 in
theorem product_any (a b : Nat) (ha : a < 256) (hb : b < 256) (w : World) :
    Calls Tryd.prog 51 #[.int .u8 a, .int .u8 b] w fun e w' => e = .returned (.int .u16 (Gf.prodTo a b 8 : Nat)) ∧ w' = w := by
  go_enter Tryd.func51, Tryd.ntmps51
  go_wp2
  go_loop [5, 7] (fun s i => ∃ k : Nat, k ≤ 8 ∧ i = .int .i64 k ∧ s = .int .u16 (Gf.prodTo a b k : Nat)) (fun _ i => 8 - (intOf i).toNat)
  case atStart => exact ⟨0, Nat.zero_le _, rfl, rfl⟩
  case round =>
    obtain ⟨k, hk, rfl, rfl⟩ := hrel
    by_cases hlt : k < 8
    · go_wp2
      all_goals
        go_round
        case rel => exact ⟨k + 1, by omega, by go_num, by first | exact Gf.prod_yes a b k ha hb hlt ‹_› | exact Gf.prod_no a b k hb ‹_›⟩
        case measure => simp [intOf]; omega
    · obtain rfl : k = 8 := by omega
      go_wp2
      go_ret
      exact ⟨rfl, rfl⟩

/-- The seven numbers of the table, in the cells of its block. -/
def Table (w : World) : Prop := ∀ k, k < 7 → w.cell? ⟨0, k, none⟩ = some (.int .u8 (Gf.high k : Nat))

set_option maxHeartbeats 400000 in
theorem remainder_any (p : Nat) (hp : p < 65536) (w : World) (ht : Table w) :
    Calls Tryd.prog 50 #[.int .u16 p] w fun e w' => e = .returned (.int .u8 (Gf.remTo p 7 : Nat)) ∧ w' = w := by
  go_enter Tryd.func50, Tryd.ntmps50
  go_wp2
  go_loop [3, 8] (fun s i => ∃ k : Nat, k ≤ 7 ∧ i = .int .i64 k ∧ s = .int .u8 (Gf.remTo p k : Nat)) (fun _ i => 7 - (intOf i).toNat)
  case atStart => exact ⟨0, Nat.zero_le _, rfl, Gf.rem_start p hp⟩
  case round =>
    obtain ⟨k, hk, rfl, rfl⟩ := hrel
    by_cases hlt : k < 7
    · have hc := ht k hlt
      go_wp2
      all_goals
        go_round
        case rel => exact ⟨k + 1, by omega, by go_num, by first | exact Gf.rem_yes p k hp hlt ‹_› | exact Gf.rem_no p k hp ‹_›⟩
        case measure => simp [intOf]; omega
    · obtain rfl : k = 7 := by omega
      go_wp2
      go_ret
      exact ⟨rfl, rfl⟩

set_option maxHeartbeats 400000 in
theorem mul_any (a b : Nat) (ha : a < 256) (hb : b < 256) (w : World) (ht : Table w) :
    Calls Tryd.prog 39 #[.int .u8 a, .int .u8 b] w fun e w' => e = .returned (.int .u8 (Gf.times a b : Nat)) ∧ w' = w := by
  have e : Gf.remTo (Gf.prodTo a b 8) 7 = Gf.times a b := Gf.mul_eq a b ha hb
  have HE : Hid (Gf.remTo (Gf.prodTo a b 8) 7 = Gf.times a b) := e
  clear e
  go_enter Tryd.func39, Tryd.ntmps39
  go_wp2_with fail
  refine (product_any a b ha hb _).mono ?_
  rintro e w' ⟨rfl, rfl⟩
  go_wp2_with fail
  refine (remainder_any _ (Gf.prodTo_lt a b 8 ha (Nat.le_refl _)) _ ht).mono ?_
  rintro e w' ⟨rfl, rfl⟩
  go_wp2
  go_ret
  rw [HE.out]
  exact ⟨rfl, rfl⟩

set_option maxHeartbeats 400000 in
theorem inv_any (a : Nat) (ha : a < 256) (w : World) (ht : Table w) :
    Calls Tryd.prog 49 #[.int .u8 a] w fun e w' => e = .returned (.int .u8 (Gf.inv a : Nat)) ∧ w' = w := by
  go_enter Tryd.func49, Tryd.ntmps49
  go_wp2
  go_loop [3, 4, 6] (fun s p i => ∃ k : Nat, k ≤ 7 ∧ i = .int .i64 k ∧ s = .int .u8 ((Gf.invTo a k).1 : Nat) ∧ p = .int .u8 ((Gf.invTo a k).2 : Nat)) (fun _ _ i => 7 - (intOf i).toNat)
  case atStart => exact ⟨0, Nat.zero_le _, rfl, rfl, rfl⟩
  case round =>
    obtain ⟨k, hk, rfl, rfl, rfl⟩ := hrel
    have hl := Gf.invTo_lt a k ha
    by_cases hlt : k < 7
    · go_wp2_with fail
      refine (mul_any _ _ hl.2 hl.2 _ ht).mono ?_
      rintro e w' ⟨rfl, rfl⟩
      go_wp2_with fail
      refine (mul_any _ _ hl.1 (Gf.times_lt _ _ hl.2) _ ht).mono ?_
      rintro e w' ⟨rfl, rfl⟩
      go_wp2
      go_round
      case rel => exact ⟨k + 1, by omega, by go_num, rfl, rfl⟩
      case measure => simp [intOf]; omega
    · obtain rfl : k = 7 := by omega
      go_wp2
      go_ret
      exact ⟨rfl, rfl⟩

end Go.Proofs.YtokmllopbfmadabDoor.FieldWalks

namespace Go.Proofs.YtokmllopbfmadabDoor.Tab
open Go.RowKit Mem FieldWalks

/-- The table's lower and upper halves. -/
def low (f : Nat) : List Nat := (List.range 16).map fun i => Gf.times f i
def high (f : Nat) : List Nat := (List.range 16).map fun i => Gf.times f (i * 16)
def tab (f : Nat) : List Nat := low f ++ high f

theorem infoTab : (Tryd.prog.info? 144).map (·.size) = some 32 := by kernel_rfl
def zeros (n : Nat) : List Nat := List.replicate n 0
def part (f k : Nat) : List Nat := mix (low f) (zeros 16) k ++ mix (high f) (zeros 16) k
theorem part_length (f k : Nat) : (part f k).length = 32 := by
  simp [part, mix_length (new := low f) (old := zeros 16) (by simp [low, zeros]), mix_length (new := high f) (old := zeros 16) (by simp [high, zeros])]
  simp [zeros]
theorem part_step (f k : Nat) (hk : k < 16) : ((bytesV (part f k)).set k (.int .u8 (Gf.times f k : Nat))).set (16 + k) (.int .u8 (Gf.times f (k * 16) : Nat)) = bytesV (part f (k + 1)) := by
  have l1 : (low f).length = (zeros 16).length := by simp [low, zeros]
  have l2 : (high f).length = (zeros 16).length := by simp [high, zeros]
  have z : (zeros 16).length = 16 := by simp [zeros]
  have m1 := mix_length l1 k
  rw [bytesV_set, bytesV_set]
  unfold part
  have s1 := mix_set (k := k) l1 (by omega)
  have s2 := mix_set (k := k) l2 (by omega)
  rw [List.set_append_left _ _ (by omega), List.set_append_right _ _ (by simp; omega)]
  congr 2
  · rw [← s1]; simp [low]
  · have e : 16 + k - ((mix (low f) (zeros 16) k).set k (Gf.times f k)).length = k := by rw [List.length_set, m1, z]; omega
    rw [e, ← s2]; simp [high]
theorem part_all (f : Nat) : part f 16 = tab f := by
  have l1 : (low f).length = (zeros 16).length := by simp [low, zeros]
  have l2 : (high f).length = (zeros 16).length := by simp [high, zeros]
  have z : (zeros 16).length = 16 := by simp [zeros]
  have m1 := mix_all l1
  have m2 := mix_all l2
  rw [z] at m1 m2
  unfold part tab; rw [m1, m2]
theorem table_to {w w' : World} (h : Table w) (hb : Below w.heap.size w w') : Table w' := by
  intro k hk
  have h0 := h k hk
  rw [hb.cell (p := ⟨0, k, none⟩) (block_lt_of_cell h0)]
  exact h0

set_option maxRecDepth 100000 in
set_option maxHeartbeats 400000 in
theorem productsOf_any (f : Nat) (hf : f < 256) (w : World) (ht : Table w) :
    Calls Tryd.prog 83 #[.int .u8 f] w fun e w' => e = .returned (.agg (bytesV (tab f)).toArray) ∧ Below w.heap.size w w' := by
  go_enter Tryd.func83, Tryd.ntmps83
  go_wp2
  go_loopw [5] (fun i wr => ∃ k : Nat, k ≤ 16 ∧ i = .int .i64 k ∧ Blk wr w.heap.size 144 (bytesV (zeros 32)) ∧ Blk wr (w.heap.size + 1) 144 (bytesV (part f k)) ∧ Below w.heap.size w wr) (fun i _ => 16 - (intOf i).toNat)
  case atStart => exact ⟨0, Nat.zero_le _, rfl, (Blk.new w _ _).alloc _, Blk.new1 w _ _ _, (Below.refl _ _).alloc (Nat.le_refl _) _ |>.alloc (by simp) _⟩
  case round =>
    obtain ⟨k, hk, rfl, hb1, hb2, hbel⟩ := hrel
    by_cases hlt : k < 16
    · have hT := table_to ht hbel
      have hc1 := hb2.cell_some (k := k) (bytesV_at (by rw [part_length]; omega))
      have hc2 := hb2.cell_some (k := 16 + k) (bytesV_at (by rw [part_length]; omega))
      have hf1 := hb2.free k
      have hf2 := hb2.free (16 + k)
      have HB1 : Hid (Blk wr w.heap.size 144 (bytesV (zeros 32))) := hb1
      have HB2 : Hid (Blk wr (w.heap.size + 1) 144 (bytesV (part f k))) := hb2
      clear hb1 hb2
      go_wp2_with fail
      refine (mul_any f k hf (by omega) _ hT).mono ?_
      rintro e w' ⟨rfl, rfl⟩
      have hm := mul_any f (k * 16) hf (by omega) _ (table_to ht (hbel.setCell (p := ⟨w.heap.size + 1, k, none⟩) (by show _ ≤ w.heap.size + 1; omega) (.int .u8 (Gf.times f k : Nat))))
      rw [show ((k * 16 : Nat) : Int) = (k : Int) * 16 by omega] at hm
      go_wp2_with fail
      refine Calls.mono hm ?_
      rintro e w1 ⟨rfl, rfl⟩
      clear hm hT
      go_wp2
      go_roundw
      case rel =>
        refine ⟨k + 1, by omega, by go_num, ?_, ?_, ?_⟩
        · exact (HB1.out.other (by show _ ≠ w.heap.size + 1; omega) _).other (by show _ ≠ w.heap.size + 1; omega) _
        · exact ((HB2.out.set k _).set (16 + k) _).eq (part_step f k hlt)
        · exact (hbel.setCell (by show _ ≤ w.heap.size + 1; omega) _).setCell (by show _ ≤ w.heap.size + 1; omega) _
      case measure => simp [intOf]; omega
    · obtain rfl : k = 16 := by omega
      rw [part_all] at hb2
      have hsz : (Tryd.prog.info? 144).map (·.size) = some (bytesV (tab f)).toArray.size := by rw [infoTab]; simp [tab, low, high]
      have h1 := bytesV_one (tab f)
      have HB1 : Hid (Blk wr w.heap.size 144 (bytesV (zeros 32))) := hb1
      have HB2 : Hid (Blk wr (w.heap.size + 1) 144 (bytesV (tab f))) := hb2
      have H1 : Hid ((bytesV (tab f)).toArray.all (·.oneCell') = true) := h1
      have HS : Hid ((Tryd.prog.info? 144).map (·.size) = some (bytesV (tab f)).toArray.size) := hsz
      clear hb1 hb2 h1 hsz
      go_wp2_with (first | refine wpList_load_row rfl 144 _ rfl (w.heap.size + 1) rfl 144 _ _ _ HB2.out Tryd.underlying144 rfl HS.out ?_ | refine wpList_store_row rfl 144 _ _ rfl w.heap.size _ rfl rfl 144 _ HB1.out HS.out (by simp [tab, low, high, zeros]) H1.out ?_)
      have hr := HB1.out.row (bytesV (tab f)).toArray
      refine bodyPost_ret (v := .agg (bytesV (tab f)).toArray) (results_cell_row (p := 2) (ty := 144) (by kernel_rfl) _ _ w.heap.size 144 _ (0, 0) _ rfl hr Tryd.underlying144 rfl HS.out) rfl ⟨rfl, ?_⟩
      exact below_row hbel (Nat.le_refl _) _

theorem tab_low (f k : Nat) (hk : k < 16) : (bytesV (tab f))[k]? = some (.int .u8 (Gf.times f k : Nat)) := by
  rw [bytesV_at (by simp [tab, low, high]; omega)]; simp [tab, low, high, hk]
theorem tab_high (f k : Nat) (hk : k < 16) : (bytesV (tab f))[16 + k]? = some (.int .u8 (Gf.times f (k * 16) : Nat)) := by
  rw [bytesV_at (by simp [tab, low, high]; omega)]; simp [tab, low, high]
theorem halves : ∀ b, b < 256 → b % 16 ^^^ b / 16 * 16 = b := by decide +kernel
theorem times_halves (f b : Nat) (hf : f < 256) (hb : b < 256) : Gf.times f (b % 16) ^^^ Gf.times f (b / 16 * 16) = Gf.times f b := by
  rw [← Gf.times_xor_r f _ _ hf, halves b hb]

set_option maxRecDepth 100000 in
set_option maxHeartbeats 400000 in
theorem with_any (f b : Nat) (hf : f < 256) (hb : b < 256) (w : World) :
    Calls Tryd.prog 84 #[.agg (bytesV (tab f)).toArray, .int .u8 b] w fun e w' => e = .returned (.int .u8 (Gf.times f b : Nat)) ∧ Below w.heap.size w w' := by
  have e1 : bits .and .u8 (b : Int) 15 = ((b % 16 : Nat) : Int) := by
    rw [show (15 : Int) = ((15 : Nat) : Int) from rfl, u8_and_nat _ _ hb (by omega), nat_mask4]
  have hn := Blk.new w (bytesV (tab f)).toArray 144
  have c1 := hn.cell_some (tab_low f (b % 16) (by omega))
  have c2 := hn.cell_some (tab_high f (b / 16) (by omega))
  go_enter Tryd.func84, Tryd.ntmps84
  have l1 : (((b % 16 : Nat) : Int)) < 16 := by omega
  have l2 : (b : Int) / 16 < 16 := by omega
  go_wp2
  go_quiet (fail)
  go_wp2
  go_ret
  refine ⟨?_, below_drewN ((Below.refl _ _).alloc (Nat.le_refl _) _) _⟩
  show Ending.returned (.int .u8 (bits .xor .u8 (Gf.times f (b % 16) : Nat) (Gf.times f (b / 16 * 16) : Nat))) = _
  rw [u8_xor_nat _ _ (Gf.times_lt _ _ hf) (Gf.times_lt _ _ hf), times_halves f b hf hb]

/-- The table's number i, and the table written out: as a load of all its cells leaves it. -/
def tabAt (f i : Nat) : Nat := (tab f).getD i 0
def tabOut (f : Nat) : Value := .agg #[.int .u8 (tabAt f 0 : Nat), .int .u8 (tabAt f 1 : Nat), .int .u8 (tabAt f 2 : Nat), .int .u8 (tabAt f 3 : Nat), .int .u8 (tabAt f 4 : Nat), .int .u8 (tabAt f 5 : Nat), .int .u8 (tabAt f 6 : Nat), .int .u8 (tabAt f 7 : Nat), .int .u8 (tabAt f 8 : Nat), .int .u8 (tabAt f 9 : Nat), .int .u8 (tabAt f 10 : Nat), .int .u8 (tabAt f 11 : Nat), .int .u8 (tabAt f 12 : Nat), .int .u8 (tabAt f 13 : Nat), .int .u8 (tabAt f 14 : Nat), .int .u8 (tabAt f 15 : Nat), .int .u8 (tabAt f 16 : Nat), .int .u8 (tabAt f 17 : Nat), .int .u8 (tabAt f 18 : Nat), .int .u8 (tabAt f 19 : Nat), .int .u8 (tabAt f 20 : Nat), .int .u8 (tabAt f 21 : Nat), .int .u8 (tabAt f 22 : Nat), .int .u8 (tabAt f 23 : Nat), .int .u8 (tabAt f 24 : Nat), .int .u8 (tabAt f 25 : Nat), .int .u8 (tabAt f 26 : Nat), .int .u8 (tabAt f 27 : Nat), .int .u8 (tabAt f 28 : Nat), .int .u8 (tabAt f 29 : Nat), .int .u8 (tabAt f 30 : Nat), .int .u8 (tabAt f 31 : Nat)]
theorem out_eq (g : Nat → Nat) : (#[.int .u8 ((((List.range 16).map g ++ (List.range 16).map fun i => g (i * 16)).getD 0 0 : Nat) : Int), .int .u8 ((((List.range 16).map g ++ (List.range 16).map fun i => g (i * 16)).getD 1 0 : Nat) : Int), .int .u8 ((((List.range 16).map g ++ (List.range 16).map fun i => g (i * 16)).getD 2 0 : Nat) : Int), .int .u8 ((((List.range 16).map g ++ (List.range 16).map fun i => g (i * 16)).getD 3 0 : Nat) : Int), .int .u8 ((((List.range 16).map g ++ (List.range 16).map fun i => g (i * 16)).getD 4 0 : Nat) : Int), .int .u8 ((((List.range 16).map g ++ (List.range 16).map fun i => g (i * 16)).getD 5 0 : Nat) : Int), .int .u8 ((((List.range 16).map g ++ (List.range 16).map fun i => g (i * 16)).getD 6 0 : Nat) : Int), .int .u8 ((((List.range 16).map g ++ (List.range 16).map fun i => g (i * 16)).getD 7 0 : Nat) : Int), .int .u8 ((((List.range 16).map g ++ (List.range 16).map fun i => g (i * 16)).getD 8 0 : Nat) : Int), .int .u8 ((((List.range 16).map g ++ (List.range 16).map fun i => g (i * 16)).getD 9 0 : Nat) : Int), .int .u8 ((((List.range 16).map g ++ (List.range 16).map fun i => g (i * 16)).getD 10 0 : Nat) : Int), .int .u8 ((((List.range 16).map g ++ (List.range 16).map fun i => g (i * 16)).getD 11 0 : Nat) : Int), .int .u8 ((((List.range 16).map g ++ (List.range 16).map fun i => g (i * 16)).getD 12 0 : Nat) : Int), .int .u8 ((((List.range 16).map g ++ (List.range 16).map fun i => g (i * 16)).getD 13 0 : Nat) : Int), .int .u8 ((((List.range 16).map g ++ (List.range 16).map fun i => g (i * 16)).getD 14 0 : Nat) : Int), .int .u8 ((((List.range 16).map g ++ (List.range 16).map fun i => g (i * 16)).getD 15 0 : Nat) : Int), .int .u8 ((((List.range 16).map g ++ (List.range 16).map fun i => g (i * 16)).getD 16 0 : Nat) : Int), .int .u8 ((((List.range 16).map g ++ (List.range 16).map fun i => g (i * 16)).getD 17 0 : Nat) : Int), .int .u8 ((((List.range 16).map g ++ (List.range 16).map fun i => g (i * 16)).getD 18 0 : Nat) : Int), .int .u8 ((((List.range 16).map g ++ (List.range 16).map fun i => g (i * 16)).getD 19 0 : Nat) : Int), .int .u8 ((((List.range 16).map g ++ (List.range 16).map fun i => g (i * 16)).getD 20 0 : Nat) : Int), .int .u8 ((((List.range 16).map g ++ (List.range 16).map fun i => g (i * 16)).getD 21 0 : Nat) : Int), .int .u8 ((((List.range 16).map g ++ (List.range 16).map fun i => g (i * 16)).getD 22 0 : Nat) : Int), .int .u8 ((((List.range 16).map g ++ (List.range 16).map fun i => g (i * 16)).getD 23 0 : Nat) : Int), .int .u8 ((((List.range 16).map g ++ (List.range 16).map fun i => g (i * 16)).getD 24 0 : Nat) : Int), .int .u8 ((((List.range 16).map g ++ (List.range 16).map fun i => g (i * 16)).getD 25 0 : Nat) : Int), .int .u8 ((((List.range 16).map g ++ (List.range 16).map fun i => g (i * 16)).getD 26 0 : Nat) : Int), .int .u8 ((((List.range 16).map g ++ (List.range 16).map fun i => g (i * 16)).getD 27 0 : Nat) : Int), .int .u8 ((((List.range 16).map g ++ (List.range 16).map fun i => g (i * 16)).getD 28 0 : Nat) : Int), .int .u8 ((((List.range 16).map g ++ (List.range 16).map fun i => g (i * 16)).getD 29 0 : Nat) : Int), .int .u8 ((((List.range 16).map g ++ (List.range 16).map fun i => g (i * 16)).getD 30 0 : Nat) : Int), .int .u8 ((((List.range 16).map g ++ (List.range 16).map fun i => g (i * 16)).getD 31 0 : Nat) : Int)] : Array Value) = (bytesV ((List.range 16).map g ++ (List.range 16).map fun i => g (i * 16))).toArray := rfl
theorem tabOut_eq (f : Nat) : tabOut f = .agg (bytesV (tab f)).toArray := congrArg Value.agg (out_eq (fun i => Gf.times f i))
theorem tab_cell {w : World} {T : Nat} {t : TypeId} {f : Nat} (h : Blk w T t (bytesV (tab f))) : ∀ i, i < 32 → w.cell? ⟨T, i, none⟩ = some (.int .u8 (tabAt f i : Nat)) := fun i hi => by
  refine h.cell_some ?_
  have : i < (tab f).length := by simp [tab, low, high]; omega
  rw [bytesV_at this, tabAt]; simp [this]
theorem with_out (f b : Nat) (hf : f < 256) (hb : b < 256) (w : World) :
    Calls Tryd.prog 84 #[.agg #[.int .u8 (tabAt f 0 : Nat), .int .u8 (tabAt f 1 : Nat), .int .u8 (tabAt f 2 : Nat), .int .u8 (tabAt f 3 : Nat), .int .u8 (tabAt f 4 : Nat), .int .u8 (tabAt f 5 : Nat), .int .u8 (tabAt f 6 : Nat), .int .u8 (tabAt f 7 : Nat), .int .u8 (tabAt f 8 : Nat), .int .u8 (tabAt f 9 : Nat), .int .u8 (tabAt f 10 : Nat), .int .u8 (tabAt f 11 : Nat), .int .u8 (tabAt f 12 : Nat), .int .u8 (tabAt f 13 : Nat), .int .u8 (tabAt f 14 : Nat), .int .u8 (tabAt f 15 : Nat), .int .u8 (tabAt f 16 : Nat), .int .u8 (tabAt f 17 : Nat), .int .u8 (tabAt f 18 : Nat), .int .u8 (tabAt f 19 : Nat), .int .u8 (tabAt f 20 : Nat), .int .u8 (tabAt f 21 : Nat), .int .u8 (tabAt f 22 : Nat), .int .u8 (tabAt f 23 : Nat), .int .u8 (tabAt f 24 : Nat), .int .u8 (tabAt f 25 : Nat), .int .u8 (tabAt f 26 : Nat), .int .u8 (tabAt f 27 : Nat), .int .u8 (tabAt f 28 : Nat), .int .u8 (tabAt f 29 : Nat), .int .u8 (tabAt f 30 : Nat), .int .u8 (tabAt f 31 : Nat)], .int .u8 b] w fun e w' => e = .returned (.int .u8 (Gf.times f b : Nat)) ∧ Below w.heap.size w w' := by
  have := with_any f b hf hb w
  rw [← tabOut_eq] at this
  exact this
end Go.Proofs.YtokmllopbfmadabDoor.Tab

namespace Go.Proofs.YtokmllopbfmadabDoor.ByTab
open Go.RowKit Mem FieldWalks Tab
open Gf (Bytes sumTo addTo)

theorem infoByte : (Tryd.prog.info? 5).map (fun i => (i.zero, i.size, i.bytes)) = some (some (.int .u8 0), 1, 1) := by kernel_rfl
theorem make_bytes (n : Nat) (hn : n ≤ 100000) (w : World) :
    (Instr.makeSlice 56 (.int .i64 (n : Int)) (.int .i64 (n : Int))).run Tryd.prog w = .ok (.slice (some ⟨w.heap.size, 0, none⟩) n n) (w.alloc (.cells (madeCells #[.int .u8 0] n) 5)) :=
  run_make_row' 56 5 (.int .u8 0) 1 Tryd.underlying56 infoByte rfl .i64 .i64 n (by omega) (by omega) w
theorem made_bytes (w : World) (n : Nat) : Blk (w.alloc (.cells (madeCells #[.int .u8 0] n) 5)) w.heap.size 5 (bytesV (List.replicate n 0)) := by
  refine (Blk.new w _ _).eq ?_
  rw [toList_madeCells_one]; simp [bytesV]

theorem load_tab (f T : Nat) (wq : World) (hT : Blk wq T 144 (bytesV (tab f))) :
    (Instr.loadAt 144 (.pointer (some ⟨T, 0, none⟩))).run Tryd.prog wq.drew = .ok (.agg (bytesV (tab f)).toArray) wq.drew :=
  run_loadAt_mid _ _ _ _ _ _ (fun i v hv => by rw [Nat.zero_add]; exact hT.cell_some hv) Tryd.underlying144 rfl (by rw [infoTab]; simp [tab, low, high])

theorem range_to {w w' : World} {T : Nat} {cs : List Value} (h : w.rangeAt T 0 cs) (hb : Below w.heap.size w w') (hT : T < w.heap.size) : w'.rangeAt T 0 cs := fun i v hv => by
  rw [hb.cell (p := ⟨T, 0 + i, none⟩) hT]; exact h i v hv
theorem range_set {w : World} {T : Nat} {cs : List Value} (h : w.rangeAt T 0 cs) {a : Addr} (ha : T ≠ a.block) (u : Value) : (w.setCell a u).rangeAt T 0 cs := fun i v hv => by
  rw [World.cell?_of_block (w := w) (Below.heap_setCell w a u T ha)]; exact h i v hv
theorem range_blk {w : World} {T : Nat} {t : TypeId} {cs : List Value} (h : Blk w T t cs) : w.rangeAt T 0 cs := fun i v hv => by rw [Nat.zero_add]; exact h.cell_some hv

theorem round_facts (row : List Nat) (ps : List (List Nat)) (L j k f : Nat) (w wq : World) (S : Nat) (ao : Option Addr) (hlt : j < ps.length) (hrow : ps.length ≤ row.length) (hl : ∀ j, (h : j < ps.length) → ps[j].length = L)
    (hb1 : Bytes row) (hb2 : ∀ j, (h : j < ps.length) → Bytes ps[j]) (hf : row[j] = f)
    (hx : ps[j] = [] ∨ ∃ b off, ao = some ⟨b, off, none⟩ ∧ b < w.heap.size ∧ ∀ k, (h : k < ps[j].length) → w.cell? ⟨b, off + k, none⟩ = some (.int .u8 (ps[j][k] : Nat)))
    (hk : k < L) (hbq : Below w.heap.size w wq) (hb : Blk wq S 5 (bytesV (mix (sumTo row ps L (j + 1)) (sumTo row ps L j) k))) :
    ∃ o x b off, ao = some ⟨b, off, none⟩ ∧ o < 256 ∧ x < 256 ∧ wq.cell? ⟨b, off + k, none⟩ = some (.int .u8 (x : Nat)) ∧ wq.cell? ⟨S, k, none⟩ = some (.int .u8 (o : Nat)) ∧
      (bytesV (mix (sumTo row ps L (j + 1)) (sumTo row ps L j) k)).set k (.int .u8 (bits .xor .u8 (o : Nat) (Gf.times f x : Nat))) = bytesV (mix (sumTo row ps L (j + 1)) (sumTo row ps L j) (k + 1)) := by
  have hlj := hl j hlt
  have l0 : (sumTo row ps L j).length = L := Gf.sumTo_length row ps L hl _ (by omega)
  have l1 : (sumTo row ps L (j + 1)).length = L := Gf.sumTo_length row ps L hl _ (by omega)
  have le : (sumTo row ps L (j + 1)).length = (sumTo row ps L j).length := by omega
  rcases hx with h | ⟨b, off, rfl, hblt, hc⟩
  · rw [h] at hlj; simp at hlj; omega
  · refine ⟨(sumTo row ps L j)[k]'(by omega), ps[j][k]'(by omega), b, off, rfl, (Gf.sumTo_bytes row ps L hb1 j).at k _, (hb2 j hlt).at k _, ?_, ?_, ?_⟩
    · rw [hbq.cell (p := ⟨b, off + k, none⟩) hblt]; exact hc k (by omega)
    · refine hb.cell_some ?_
      simp [bytesV, mix_at le (show k < (sumTo row ps L j).length by omega)]
    · have hfb : row[j] < 256 := hb1.at j (by omega)
      rw [← hf, u8_xor_nat _ _ ((Gf.sumTo_bytes row ps L hb1 j).at k _) (Gf.times_lt _ _ hfb), ← Gf.sumTo_next row ps L j k hlt (by omega) (by omega) (by omega) (by omega), bytesV_set, mix_set le (by omega)]

set_option maxRecDepth 100000 in
set_option maxHeartbeats 1000000 in
theorem sumByTables_any (row : List Nat) (ps : List (List Nat)) (L : Nat) (rv pv : Value) (w : World) (ht : Table w) (hr : BsAt w rv row) (hp : RowsAt w pv ps)
    (hne : 0 < ps.length) (hn : ps.length ≤ 100) (hl : ∀ j, (h : j < ps.length) → ps[j].length = L) (hrow : ps.length ≤ row.length) (hb1 : Bytes row) (hb2 : ∀ j, (h : j < ps.length) → Bytes ps[j]) (hL : L ≤ 1000) :
    Calls Tryd.prog 73 #[rv, pv] w fun e w' => ∃ b, w.heap.size ≤ b ∧ e = .returned (.slice (some ⟨b, 0, none⟩) L L) ∧ Blk w' b 5 (bytesV (sumTo row ps L ps.length)) ∧ Below w.heap.size w w' := by
  obtain ⟨rb, roff, rcap, rfl, hrlt, hrc⟩ := hr.pos (by omega)
  obtain ⟨pb, poff, pcap, rfl, hplt, hpc⟩ := hp.pos hne
  obtain ⟨u0, hu0, ao0, cap0, rfl, hx0⟩ := hpc 0 hne
  rw [hl 0 hne, Nat.add_zero] at hu0
  have hmk := fun w => make_bytes L (by omega) w
  have HPC : Hid (∀ k, (h : k < ps.length) → ∃ u, w.cell? ⟨pb, poff + k, none⟩ = some u ∧ BsAt w u ps[k]) := hpc
  have HRC : Hid (∀ k, (h : k < row.length) → w.cell? ⟨rb, roff + k, none⟩ = some (.int .u8 (row[k] : Nat))) := hrc
  have HL : Hid (∀ j, (h : j < ps.length) → ps[j].length = L) := hl
  clear hpc hrc hl hx0
  go_enter Tryd.func73, Tryd.ntmps73
  go_wp2
  clear hu0
  go_loopw [18] (fun i wr => ∃ j : Nat, j ≤ ps.length ∧ i = .int .i64 j ∧ Blk wr w.heap.size 5 (bytesV (sumTo row ps L j)) ∧ Below w.heap.size w wr) (fun i _ => ps.length - (intOf i).toNat)
  case atStart => exact ⟨0, Nat.zero_le _, rfl, made_bytes w L, (Below.refl _ _).alloc (Nat.le_refl _) _⟩
  case round =>
    obtain ⟨j, hj, rfl, hb, hbel⟩ := hrel
    by_cases hlt : j < ps.length
    · obtain ⟨u, hu, hbs⟩ := HPC.out j hlt
      have hrj := HRC.out j (by omega)
      have hbs' := hbs
      obtain ⟨ao, cap, rfl, hx⟩ := hbs'
      rw [HL.out j hlt] at hu
      rw [← hbel.cell (p := ⟨pb, poff + j, none⟩) hplt] at hu
      rw [← hbel.cell (p := ⟨rb, roff + j, none⟩) hrlt] at hrj
      have hf : row[j] < 256 := hb1.at j (by omega)
      generalize hfe : row[j] = f at hrj hf
      have HFE : Hid (row[j] = f) := hfe
      have HX : Hid (ps[j] = [] ∨ ∃ b off, ao = some ⟨b, off, none⟩ ∧ b < w.heap.size ∧ ∀ k, (h : k < ps[j].length) → w.cell? ⟨b, off + k, none⟩ = some (.int .u8 (ps[j][k] : Nat))) := hx
      have HB : Hid (Blk wr w.heap.size 5 (bytesV (sumTo row ps L j))) := hb
      clear hfe hx hbs hb
      go_wp2_with fail
      refine (productsOf_any f hf _ (table_to ht hbel)).mono ?_
      rintro e w1 ⟨rfl, hw1⟩
      have HS : Hid ((Tryd.prog.info? 144).map (·.size) = some (bytesV (tab f)).toArray.size) := by show _ = _; rw [infoTab]; simp [tab, low, high]
      go_wp2_with (refine wpList_store_row rfl 144 _ _ rfl w1.heap.size _ rfl rfl 144 _ (heap_alloc_new w1 _) HS.out (by simp [tab, low, high]) (bytesV_one _) ?_)
      have hsz1 := hbel.size
      have hsz2 := hw1.size
      have hS := HB.out.lt
      go_loopw [30] (fun i wq => ∃ k : Nat, k ≤ L ∧ i = .int .i64 k ∧ Blk wq w.heap.size 5 (bytesV (mix (sumTo row ps L (j + 1)) (sumTo row ps L j) k)) ∧ Blk wq w1.heap.size 144 (bytesV (tab f)) ∧ Below w.heap.size w wq) (fun i _ => L - (intOf i).toNat)
      case atStart =>
        refine ⟨0, Nat.zero_le _, rfl, ?_, ?_, ?_⟩
        · rw [mix_zero]; exact ((HB.out.to hw1).alloc _).row_other (by omega) _
        · exact (Blk.new w1 _ _).row _
        · exact below_row (((hbel.trans (hw1.mono hsz1))).alloc (by omega) _) (by omega) _
      case round =>
        obtain ⟨k, hk, rfl, hb, hT, hbq⟩ := hrel
        by_cases hklt : k < L
        · obtain ⟨o, x, b, off, rfl, ho, hxb, hcx, hcs, hset⟩ := round_facts row ps L j k f w wr w.heap.size ao hlt hrow HL.out hb1 hb2 HFE.out HX.out hklt hbq hb
          have hfs := hb.free k
          have HSET : Hid _ := hset
          have HBQ : Hid _ := hb
          have HTQ : Hid _ := hT
          have hSlt := hb.lt
          have hTlt := hT.lt
          have hne : w1.heap.size ≠ w.heap.size := by omega
          have hr0 : wr.drew.rangeAt w1.heap.size 0 (bytesV (tab f)) := range_blk hT
          have hsz : (Tryd.prog.info? 144).map (·.size) = some (bytesV (tab f)).length := by rw [infoTab]; simp [tab, low, high]
          have HR0 : Hid _ := hr0
          have HSZ : Hid _ := hsz
          clear hset hb hT hu hrj HX hr0 hsz
          go_wp2_with fail
          refine wp_region_held (S := fun wx => wx.rangeAt w1.heap.size 0 (bytesV (tab f))) rfl ?_
          refine wpAnyH_take (i := 0) (v := .slice (some ⟨w.heap.size, 0, none⟩) L L) rfl (by kernel_rfl) (by kernel_rfl) (by kernel_rfl) (fun _ _ _ h => h) (Or.inl ⟨by rfl, fun w _ => by go_simp⟩) HR0.out ?_
          refine wpAnyH_take (i := 1) (v := .int .i64 k) rfl (by kernel_rfl) (by kernel_rfl) (by kernel_rfl) (fun _ _ _ h => h) (Or.inl ⟨by rfl, fun w _ => by go_simp⟩) HR0.out ?_
          refine wpAnyH_take (i := 4) (v := .agg (bytesV (tab f)).toArray) rfl (by kernel_rfl) (by kernel_rfl) (by kernel_rfl) (fun _ _ _ h => h) (yieldsIf_load_mid (by rfl) _ _ rfl _ _ rfl _ _ (fun w h => h) Tryd.underlying144 rfl HSZ.out) HR0.out ?_
          refine wpAnyH_take (i := 2) (v := .pointer (some ⟨w.heap.size, k, none⟩)) rfl (by kernel_rfl) (by kernel_rfl) (by kernel_rfl) (fun _ _ _ h => h) (Or.inl ⟨by rfl, fun w _ => by go_simp⟩) HR0.out ?_
          refine wpAnyH_take (i := 5) (v := .int .u8 x) rfl (by kernel_rfl) (by kernel_rfl) (by kernel_rfl) (fun _ _ _ h => h) (Or.inl ⟨by rfl, fun w _ => by go_simp⟩) HR0.out ?_
          simp only [Act.put, List.setIfInBounds_toArray]
          refine wpAnyH_ready (rs := [3, 6]) (by kernel_rfl) (by simp) ?_
          refine AllReadyH.cons rfl (fun K hK => ?_) (AllReadyH.cons rfl (fun K hK => ?_) AllReadyH.nil)
          · go_simp
            refine hK.out _ _ HR0.out (fun _ => ?_)
            clear hK K
            refine wpAnyH_ready (rs := [6]) (by kernel_rfl) (by simp) ?_
            refine AllReadyH.cons rfl (fun K hK => ?_) AllReadyH.nil
            go_simp
            refine (with_any f x hf hxb _).mono ?_
            rintro e w2 ⟨rfl, hw2⟩
            have c3 := (hw2.cell (p := ⟨w.heap.size, k, none⟩) (by exact hSlt)).trans hcs
            have f3 := (hw2.frozen (p := ⟨w.heap.size, k, none⟩) (by exact hSlt)).trans hfs
            have HR2 : Hid _ := range_to HR0.out hw2 hTlt
            dsimp only
            refine hK.out _ _ HR2.out (fun _ => ?_)
            clear hK K
            refine wpAnyH_take (i := 7) (v := .int .u8 (bits .xor .u8 (o : Nat) (Gf.times f x : Nat))) rfl (by kernel_rfl) (by kernel_rfl) (by kernel_rfl) (fun _ _ _ h => h) (Or.inl ⟨by rfl, fun w _ => by go_simp⟩) HR2.out ?_
            refine wpAnyH_take (i := 8) (v := .pointer (some ⟨w.heap.size, k, none⟩)) rfl (by kernel_rfl) (by kernel_rfl) (by kernel_rfl) (fun _ _ _ h => h) (Or.inl ⟨by rfl, fun w _ => by go_simp⟩) HR2.out ?_
            simp only [Act.put, List.setIfInBounds_toArray]
            refine wpAnyH_ready (rs := [9]) (by kernel_rfl) (by simp) ?_
            refine AllReadyH.cons rfl (fun K hK => ?_) AllReadyH.nil
            go_simp
            refine hK.out _ _ (range_set HR2.out hne _) (fun _ => ?_)
            clear hK K
            refine wpAnyH_done (by kernel_rfl) ?_ _
            go_wp2
            go_roundw
            case rel =>
              refine ⟨k + 1, by omega, by go_num, ?_, ?_, ?_⟩
              · exact ((Blk.below (w := wr.drew) HBQ.out hw2 (by exact hSlt)).set k _).eq HSET.out
              · exact (Blk.below (w := wr.drew) HTQ.out hw2 (by exact hTlt)).other hne _
              · exact (hbq.drew.trans (hw2.mono (by show _ ≤ wr.heap.size; omega))).setCell (Nat.le_refl _) _
            case measure => simp [intOf]; omega
          · go_simp
            refine (with_any f x hf hxb _).mono ?_
            rintro e w2 ⟨rfl, hw2⟩
            have c3 := (hw2.cell (p := ⟨w.heap.size, k, none⟩) (by exact hSlt)).trans hcs
            have f3 := (hw2.frozen (p := ⟨w.heap.size, k, none⟩) (by exact hSlt)).trans hfs
            have HR2 : Hid _ := range_to HR0.out hw2 hTlt
            dsimp only
            refine hK.out _ _ HR2.out (fun _ => ?_)
            clear hK K
            refine wpAnyH_ready (rs := [3]) (by kernel_rfl) (by simp) ?_
            refine AllReadyH.cons rfl (fun K hK => ?_) AllReadyH.nil
            go_simp
            refine hK.out _ _ HR2.out (fun _ => ?_)
            clear hK K
            refine wpAnyH_take (i := 7) (v := .int .u8 (bits .xor .u8 (o : Nat) (Gf.times f x : Nat))) rfl (by kernel_rfl) (by kernel_rfl) (by kernel_rfl) (fun _ _ _ h => h) (Or.inl ⟨by rfl, fun w _ => by go_simp⟩) HR2.out ?_
            refine wpAnyH_take (i := 8) (v := .pointer (some ⟨w.heap.size, k, none⟩)) rfl (by kernel_rfl) (by kernel_rfl) (by kernel_rfl) (fun _ _ _ h => h) (Or.inl ⟨by rfl, fun w _ => by go_simp⟩) HR2.out ?_
            simp only [Act.put, List.setIfInBounds_toArray]
            refine wpAnyH_ready (rs := [9]) (by kernel_rfl) (by simp) ?_
            refine AllReadyH.cons rfl (fun K hK => ?_) AllReadyH.nil
            go_simp
            refine hK.out _ _ (range_set HR2.out hne _) (fun _ => ?_)
            clear hK K
            refine wpAnyH_done (by kernel_rfl) ?_ _
            go_wp2
            go_roundw
            case rel =>
              refine ⟨k + 1, by omega, by go_num, ?_, ?_, ?_⟩
              · exact ((Blk.below (w := wr.drew) HBQ.out hw2 (by exact hSlt)).set k _).eq HSET.out
              · exact (Blk.below (w := wr.drew) HTQ.out hw2 (by exact hTlt)).other hne _
              · exact (hbq.drew.trans (hw2.mono (by show _ ≤ wr.heap.size; omega))).setCell (Nat.le_refl _) _
            case measure => simp [intOf]; omega
        · obtain rfl : k = L := by omega
          go_wp2
          go_roundw
          case rel =>
            refine ⟨j + 1, by omega, by go_num, ?_, hbq⟩
            refine hb.eq ?_
            have l0 : (sumTo row ps k j).length = k := Gf.sumTo_length row ps k HL.out _ (by omega)
            have l1 : (sumTo row ps k (j + 1)).length = k := Gf.sumTo_length row ps k HL.out _ (by omega)
            have e := mix_all (show (sumTo row ps k (j + 1)).length = (sumTo row ps k j).length by omega)
            rw [l0] at e
            rw [e]
          case measure => simp [intOf]; omega
    · obtain rfl : j = ps.length := by omega
      go_wp2
      go_ret
      exact ⟨w.heap.size, Nat.le_refl _, rfl, hb, hbel⟩
end Go.Proofs.YtokmllopbfmadabDoor.ByTab
