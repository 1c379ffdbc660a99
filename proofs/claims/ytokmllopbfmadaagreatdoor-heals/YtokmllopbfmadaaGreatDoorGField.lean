import Derived.Test.YtokmllopbfmadaaGreatDoorChecked
import Derived.WalkKit
import Derived.ProofKit
import Derived.WalkLawsBesides
import Derived.Test.YtokmllopbfmadaaGreatDoorGPlanRun
import Derived.BigQuiet
import Derived.Deep.QuietTactic
import Derived.Test.YtokmllopbfmadaaGreatDoorGMem
import Derived.RegionTactic
namespace Go.Proofs.YtokmllopbfmadaaGreatDoor.FieldWalks
open Go.RowKit

set_option maxHeartbeats 400000 in
theorem product_any (a b : Nat) (ha : a < 256) (hb : b < 256) (w : World) :
    Calls Tryz.prog 71 #[.int .u8 a, .int .u8 b] w fun e w' => e = .returned (.int .u16 (Gf.prodTo a b 8 : Nat)) ∧ w' = w := by
  go_enter Tryz.func71, Tryz.ntmps71
  go_wp2
  go_loop [5, 7] (fun s i => ∃ k : Nat, k ≤ 8 ∧ i = .int .i64 k ∧ s = .int .u16 (Gf.prodTo a b k : Nat)) (fun _ i => 8 - (intOf i).toNat)
  case atStart => exact ⟨0, Nat.zero_le _, rfl, rfl⟩
  case round =>
    obtain ⟨k, hk, rfl, rfl⟩ := hrel
    by_cases hlt : k < 8
    · go_wp2
      all_goals
        go_round
        case rel => exact ⟨k + 1, by omega, by go_num, by first | exact Gf.prod_yes a b k ha hb hlt ‹_› | exact Gf.prod_no a b k hb ‹_›⟩
        case measure => simp [intOf]; omega
    · obtain rfl : k = 8 := by omega
      go_wp2
      go_ret
      exact ⟨rfl, rfl⟩

/-- The seven numbers of the table, in the cells of its block. -/
def Table (w : World) : Prop := ∀ k, k < 7 → w.cell? ⟨0, k, none⟩ = some (.int .u8 (Gf.high k : Nat))

set_option maxHeartbeats 400000 in
theorem remainder_any (p : Nat) (hp : p < 65536) (w : World) (ht : Table w) :
    Calls Tryz.prog 70 #[.int .u16 p] w fun e w' => e = .returned (.int .u8 (Gf.remTo p 7 : Nat)) ∧ w' = w := by
  go_enter Tryz.func70, Tryz.ntmps70
  go_wp2
  go_loop [3, 8] (fun s i => ∃ k : Nat, k ≤ 7 ∧ i = .int .i64 k ∧ s = .int .u8 (Gf.remTo p k : Nat)) (fun _ i => 7 - (intOf i).toNat)
  case atStart => exact ⟨0, Nat.zero_le _, rfl, Gf.rem_start p hp⟩
  case round =>
    obtain ⟨k, hk, rfl, rfl⟩ := hrel
    by_cases hlt : k < 7
    · have hc := ht k hlt
      go_wp2
      all_goals
        go_round
        case rel => exact ⟨k + 1, by omega, by go_num, by first | exact Gf.rem_yes p k hp hlt ‹_› | exact Gf.rem_no p k hp ‹_›⟩
        case measure => simp [intOf]; omega
    · obtain rfl : k = 7 := by omega
      go_wp2
      go_ret
      exact ⟨rfl, rfl⟩

set_option maxHeartbeats 400000 in
theorem mul_any (a b : Nat) (ha : a < 256) (hb : b < 256) (w : World) (ht : Table w) :
    Calls Tryz.prog 45 #[.int .u8 a, .int .u8 b] w fun e w' => e = .returned (.int .u8 (Gf.times a b : Nat)) ∧ w' = w := by
  have e : Gf.remTo (Gf.prodTo a b 8) 7 = Gf.times a b := Gf.mul_eq a b ha hb
  have HE : Hid (Gf.remTo (Gf.prodTo a b 8) 7 = Gf.times a b) := e
  clear e
  go_enter Tryz.func45, Tryz.ntmps45
  go_wp2_with fail
  refine (product_any a b ha hb _).mono ?_
  rintro e w' ⟨rfl, rfl⟩
  go_wp2_with fail
  refine (remainder_any _ (Gf.prodTo_lt a b 8 ha (Nat.le_refl _)) _ ht).mono ?_
  rintro e w' ⟨rfl, rfl⟩
  go_wp2
  go_ret
  rw [HE.out]
  exact ⟨rfl, rfl⟩

set_option maxHeartbeats 400000 in
theorem inv_any (a : Nat) (ha : a < 256) (w : World) (ht : Table w) :
    Calls Tryz.prog 69 #[.int .u8 a] w fun e w' => e = .returned (.int .u8 (Gf.inv a : Nat)) ∧ w' = w := by
  go_enter Tryz.func69, Tryz.ntmps69
  go_wp2
  go_loop [3, 4, 6] (fun s p i => ∃ k : Nat, k ≤ 7 ∧ i = .int .i64 k ∧ s = .int .u8 ((Gf.invTo a k).1 : Nat) ∧ p = .int .u8 ((Gf.invTo a k).2 : Nat)) (fun _ _ i => 7 - (intOf i).toNat)
  case atStart => exact ⟨0, Nat.zero_le _, rfl, rfl, rfl⟩
  case round =>
    obtain ⟨k, hk, rfl, rfl, rfl⟩ := hrel
    have hl := Gf.invTo_lt a k ha
    by_cases hlt : k < 7
    · go_wp2_with fail
      refine (mul_any _ _ hl.2 hl.2 _ ht).mono ?_
      rintro e w' ⟨rfl, rfl⟩
      go_wp2_with fail
      refine (mul_any _ _ hl.1 (Gf.times_lt _ _ hl.2) _ ht).mono ?_
      rintro e w' ⟨rfl, rfl⟩
      go_wp2
      go_round
      case rel => exact ⟨k + 1, by omega, by go_num, rfl, rfl⟩
      case measure => simp [intOf]; omega
    · obtain rfl : k = 7 := by omega
      go_wp2
      go_ret
      exact ⟨rfl, rfl⟩

set_option maxRecDepth 100000 in
set_option maxHeartbeats 400000 in
theorem times_any (a b : Nat) (ha : a < 256) (_hb : b < 256) (w : World) :
    Calls Tryz.prog 51 #[.int .i64 a, .int .i64 b] w fun e w' => e = .returned (.int .i64 (Gf.times a b : Nat)) ∧ w' = w := by
  go_enter Tryz.func51, Tryz.ntmps51
  go_wp2
  go_loop [5, 6] (fun s i => ∃ k : Nat, k ≤ 8 ∧ i = .int .i64 (7 - (k : Int)) ∧ s = .int .i64 (Gf.timesTo a b k : Nat)) (fun _ i => (intOf i + 1).toNat)
  case atStart => exact ⟨0, Nat.zero_le _, rfl, rfl⟩
  case round =>
    obtain ⟨k, hk, rfl, rfl⟩ := hrel
    have hl := Gf.timesTo_lt a b k ha
    by_cases hlt : k < 8
    · obtain ⟨m, hm⟩ : ∃ m : Nat, m = 7 - k := ⟨_, rfl⟩
      have em : (7 - (k : Int)) = (m : Int) := by omega
      have hm8 : m < 8 := by omega
      have HM : Hid (m = 7 - k) := hm
      rw [em]
      clear em hm
      have HS : Hid (Gf.timesTo a b (k + 1) = if b.testBit m then Gf.dbl (Gf.timesTo a b k) ^^^ a else Gf.dbl (Gf.timesTo a b k)) := by
        rw [HM.out]; rfl
      generalize Gf.timesTo a b k = t at *
      go_wp2
      all_goals
        go_round
        case rel =>
          refine ⟨k + 1, by omega, by have := HM.out; congr 1; omega, ?_⟩
          rw [HS.out]
          first
            | (rw [Gf.dbl_yes t hl ‹_›, Gf.i64_xor _ _ (Nat.lt_trans (Gf.dbl_lt t hl) (by omega)) (by omega), if_pos (by rw [← Gf.bit_i64]; assumption)])
            | (rw [Gf.dbl_yes t hl ‹_›, if_neg (by rw [← Gf.bit_i64]; simp only [Bool.not_eq_true]; assumption)])
            | (rw [Gf.dbl_no t ‹_›, Gf.i64_xor _ _ (Nat.lt_trans (Gf.dbl_lt t hl) (by omega)) (by omega), if_pos (by rw [← Gf.bit_i64]; assumption)])
            | (rw [Gf.dbl_no t ‹_›, if_neg (by rw [← Gf.bit_i64]; simp only [Bool.not_eq_true]; assumption)])
        case measure => simp [intOf]
    · obtain rfl : k = 8 := by omega
      go_wp2
      go_ret
      exact ⟨rfl, rfl⟩

set_option maxRecDepth 100000 in
set_option maxHeartbeats 400000 in
theorem over_any (a : Nat) (ha : a < 256) (h0 : a ≠ 0) (w : World) :
    Calls Tryz.prog 73 #[.int .i64 a] w fun e w' => e = .returned (.int .i64 (Gf.inv a : Nat)) ∧ w' = w := by
  have hi := Gf.inv_right a ha h0
  have hil := Gf.inv_lt a ha
  have hip := Gf.inv_pos a ha h0
  have HI : Hid (Gf.times a (Gf.inv a) = 1) := hi
  have HN : Hid (a ≠ 0) := h0
  clear hi h0
  go_enter Tryz.func73, Tryz.ntmps73
  go_wp2
  go_loop [3] (fun i => ∃ k : Nat, 1 ≤ k ∧ k ≤ Gf.inv a ∧ i = .int .i64 k) (fun i => 256 - (intOf i).toNat)
  case atStart => exact ⟨1, Nat.le_refl _, hip, rfl⟩
  case round =>
    obtain ⟨k, hk1, hk, rfl⟩ := hrel
    by_cases he : k = Gf.inv a
    · have ht : (((Gf.times a k : Nat) : Int) == 1) = true := by rw [he, HI.out]; rfl
      have HE : Hid (k = Gf.inv a) := he
      have hk2 : k < 256 := by omega
      clear he
      go_wp2_with fail
      refine (times_any a k ha hk2 _).mono ?_
      rintro e w' ⟨rfl, rfl⟩
      go_wp2
      go_ret
      rw [HE.out]
      exact ⟨rfl, rfl⟩
    · have hk2 : k < 256 := by omega
      have hk3 : k + 1 ≤ Gf.inv a := by omega
      have ht : (((Gf.times a k : Nat) : Int) == 1) = false := by
        rw [beq_eq_false_iff_ne]; intro h1
        exact he (Gf.inv_unique a k ha hk2 (by omega))
      clear he
      go_wp2_with fail
      refine (times_any a k ha hk2 _).mono ?_
      rintro e w' ⟨rfl, rfl⟩
      go_wp2
      go_round
      case rel => exact ⟨k + 1, by omega, hk3, by go_num⟩
      case measure => simp [intOf]; omega
end Go.Proofs.YtokmllopbfmadaaGreatDoor.FieldWalks

namespace Go.Proofs.YtokmllopbfmadaaGreatDoor.Tab
open Go.RowKit Mem FieldWalks

/-- The table's lower and upper halves. -/
def low (f : Nat) : List Nat := (List.range 16).map fun i => Gf.times f i
def high (f : Nat) : List Nat := (List.range 16).map fun i => Gf.times f (i * 16)
def tab (f : Nat) : List Nat := low f ++ high f

theorem infoTab : (Tryz.prog.info? 171).map (·.size) = some 32 := by kernel_rfl
def zeros (n : Nat) : List Nat := List.replicate n 0
def part (f k : Nat) : List Nat := mix (low f) (zeros 16) k ++ mix (high f) (zeros 16) k
theorem part_length (f k : Nat) : (part f k).length = 32 := by
  simp [part, mix_length (new := low f) (old := zeros 16) (by simp [low, zeros]), mix_length (new := high f) (old := zeros 16) (by simp [high, zeros])]
  simp [zeros]
theorem part_step (f k : Nat) (hk : k < 16) : ((bytesV (part f k)).set k (.int .u8 (Gf.times f k : Nat))).set (16 + k) (.int .u8 (Gf.times f (k * 16) : Nat)) = bytesV (part f (k + 1)) := by
  have l1 : (low f).length = (zeros 16).length := by simp [low, zeros]
  have l2 : (high f).length = (zeros 16).length := by simp [high, zeros]
  have z : (zeros 16).length = 16 := by simp [zeros]
  have m1 := mix_length l1 k
  rw [bytesV_set, bytesV_set]
  unfold part
  have s1 := mix_set (k := k) l1 (by omega)
  have s2 := mix_set (k := k) l2 (by omega)
  rw [List.set_append_left _ _ (by omega), List.set_append_right _ _ (by simp; omega)]
  congr 2
  · rw [← s1]; simp [low]
  · have e : 16 + k - ((mix (low f) (zeros 16) k).set k (Gf.times f k)).length = k := by rw [List.length_set, m1, z]; omega
    rw [e, ← s2]; simp [high]
theorem part_all (f : Nat) : part f 16 = tab f := by
  have l1 : (low f).length = (zeros 16).length := by simp [low, zeros]
  have l2 : (high f).length = (zeros 16).length := by simp [high, zeros]
  have z : (zeros 16).length = 16 := by simp [zeros]
  have m1 := mix_all l1
  have m2 := mix_all l2
  rw [z] at m1 m2
  unfold part tab; rw [m1, m2]
theorem table_to {w w' : World} (h : Table w) (hb : Below w.heap.size w w') : Table w' := by
  intro k hk
  have h0 := h k hk
  rw [hb.cell (p := ⟨0, k, none⟩) (block_lt_of_cell h0)]
  exact h0

set_option maxRecDepth 100000 in
set_option maxHeartbeats 400000 in
theorem productsOf_any (f : Nat) (hf : f < 256) (w : World) (ht : Table w) :
    Calls Tryz.prog 111 #[.int .u8 f] w fun e w' => e = .returned (.agg (bytesV (tab f)).toArray) ∧ Below w.heap.size w w' := by
  go_enter Tryz.func111, Tryz.ntmps111
  go_wp2
  go_loopw [5] (fun i wr => ∃ k : Nat, k ≤ 16 ∧ i = .int .i64 k ∧ Blk wr w.heap.size 171 (bytesV (zeros 32)) ∧ Blk wr (w.heap.size + 1) 171 (bytesV (part f k)) ∧ Below w.heap.size w wr) (fun i _ => 16 - (intOf i).toNat)
  case atStart => exact ⟨0, Nat.zero_le _, rfl, (Blk.new w _ _).alloc _, Blk.new1 w _ _ _, (Below.refl _ _).alloc (Nat.le_refl _) _ |>.alloc (by simp) _⟩
  case round =>
    obtain ⟨k, hk, rfl, hb1, hb2, hbel⟩ := hrel
    by_cases hlt : k < 16
    · have hT := table_to ht hbel
      have hc1 := hb2.cell_some (k := k) (bytesV_at (by rw [part_length]; omega))
      have hc2 := hb2.cell_some (k := 16 + k) (bytesV_at (by rw [part_length]; omega))
      have hf1 := hb2.free k
      have hf2 := hb2.free (16 + k)
      have HB1 : Hid (Blk wr w.heap.size 171 (bytesV (zeros 32))) := hb1
      have HB2 : Hid (Blk wr (w.heap.size + 1) 171 (bytesV (part f k))) := hb2
      clear hb1 hb2
      go_wp2_with fail
      refine (mul_any f k hf (by omega) _ hT).mono ?_
      rintro e w' ⟨rfl, rfl⟩
      have hm := mul_any f (k * 16) hf (by omega) _ (table_to ht (hbel.setCell (p := ⟨w.heap.size + 1, k, none⟩) (by show _ ≤ w.heap.size + 1; omega) (.int .u8 (Gf.times f k : Nat))))
      rw [show ((k * 16 : Nat) : Int) = (k : Int) * 16 by omega] at hm
      go_wp2_with fail
      refine Calls.mono hm ?_
      rintro e w1 ⟨rfl, rfl⟩
      clear hm hT
      go_wp2
      go_roundw
      case rel =>
        refine ⟨k + 1, by omega, by go_num, ?_, ?_, ?_⟩
        · exact (HB1.out.other (by show _ ≠ w.heap.size + 1; omega) _).other (by show _ ≠ w.heap.size + 1; omega) _
        · exact ((HB2.out.set k _).set (16 + k) _).eq (part_step f k hlt)
        · exact (hbel.setCell (by show _ ≤ w.heap.size + 1; omega) _).setCell (by show _ ≤ w.heap.size + 1; omega) _
      case measure => simp [intOf]; omega
    · obtain rfl : k = 16 := by omega
      rw [part_all] at hb2
      have hsz : (Tryz.prog.info? 171).map (·.size) = some (bytesV (tab f)).toArray.size := by rw [infoTab]; simp [tab, low, high]
      have h1 := bytesV_one (tab f)
      have HB1 : Hid (Blk wr w.heap.size 171 (bytesV (zeros 32))) := hb1
      have HB2 : Hid (Blk wr (w.heap.size + 1) 171 (bytesV (tab f))) := hb2
      have H1 : Hid ((bytesV (tab f)).toArray.all (·.oneCell') = true) := h1
      have HS : Hid ((Tryz.prog.info? 171).map (·.size) = some (bytesV (tab f)).toArray.size) := hsz
      clear hb1 hb2 h1 hsz
      go_wp2_with (first | refine wpList_load_row rfl 171 _ rfl (w.heap.size + 1) rfl 171 _ _ _ HB2.out Tryz.underlying171 rfl HS.out ?_ | refine wpList_store_row rfl 171 _ _ rfl w.heap.size _ rfl rfl 171 _ HB1.out HS.out (by simp [tab, low, high, zeros]) H1.out ?_)
      have hr := HB1.out.row (bytesV (tab f)).toArray
      refine bodyPost_ret (v := .agg (bytesV (tab f)).toArray) (results_cell_row (p := 2) (ty := 171) (by kernel_rfl) _ _ w.heap.size 171 _ (0, 0) _ rfl hr Tryz.underlying171 rfl HS.out) rfl ⟨rfl, ?_⟩
      exact below_row hbel (Nat.le_refl _) _

theorem tab_low (f k : Nat) (hk : k < 16) : (bytesV (tab f))[k]? = some (.int .u8 (Gf.times f k : Nat)) := by
  rw [bytesV_at (by simp [tab, low, high]; omega)]; simp [tab, low, high, hk]
theorem tab_high (f k : Nat) (hk : k < 16) : (bytesV (tab f))[16 + k]? = some (.int .u8 (Gf.times f (k * 16) : Nat)) := by
  rw [bytesV_at (by simp [tab, low, high]; omega)]; simp [tab, low, high]
theorem halves : ∀ b, b < 256 → b % 16 ^^^ b / 16 * 16 = b := by decide +kernel
theorem times_halves (f b : Nat) (hf : f < 256) (hb : b < 256) : Gf.times f (b % 16) ^^^ Gf.times f (b / 16 * 16) = Gf.times f b := by
  rw [← Gf.times_xor_r f _ _ hf, halves b hb]

set_option maxRecDepth 100000 in
set_option maxHeartbeats 400000 in
theorem with_any (f b : Nat) (hf : f < 256) (hb : b < 256) (w : World) :
    Calls Tryz.prog 112 #[.agg (bytesV (tab f)).toArray, .int .u8 b] w fun e w' => e = .returned (.int .u8 (Gf.times f b : Nat)) ∧ Below w.heap.size w w' := by
  have e1 : bits .and .u8 (b : Int) 15 = ((b % 16 : Nat) : Int) := by
    rw [show (15 : Int) = ((15 : Nat) : Int) from rfl, u8_and_nat _ _ hb (by omega), nat_mask4]
  have hn := Blk.new w (bytesV (tab f)).toArray 171
  have c1 := hn.cell_some (tab_low f (b % 16) (by omega))
  have c2 := hn.cell_some (tab_high f (b / 16) (by omega))
  go_enter Tryz.func112, Tryz.ntmps112
  have l1 : (((b % 16 : Nat) : Int)) < 16 := by omega
  have l2 : (b : Int) / 16 < 16 := by omega
  go_wp2
  go_quiet (fail)
  go_wp2
  go_ret
  refine ⟨?_, below_drewN ((Below.refl _ _).alloc (Nat.le_refl _) _) _⟩
  show Ending.returned (.int .u8 (bits .xor .u8 (Gf.times f (b % 16) : Nat) (Gf.times f (b / 16 * 16) : Nat))) = _
  rw [u8_xor_nat _ _ (Gf.times_lt _ _ hf) (Gf.times_lt _ _ hf), times_halves f b hf hb]

/-- The table's number i, and the table written out: as a load of all its cells leaves it. -/
def tabAt (f i : Nat) : Nat := (tab f).getD i 0
def tabOut (f : Nat) : Value := .agg #[.int .u8 (tabAt f 0 : Nat), .int .u8 (tabAt f 1 : Nat), .int .u8 (tabAt f 2 : Nat), .int .u8 (tabAt f 3 : Nat), .int .u8 (tabAt f 4 : Nat), .int .u8 (tabAt f 5 : Nat), .int .u8 (tabAt f 6 : Nat), .int .u8 (tabAt f 7 : Nat), .int .u8 (tabAt f 8 : Nat), .int .u8 (tabAt f 9 : Nat), .int .u8 (tabAt f 10 : Nat), .int .u8 (tabAt f 11 : Nat), .int .u8 (tabAt f 12 : Nat), .int .u8 (tabAt f 13 : Nat), .int .u8 (tabAt f 14 : Nat), .int .u8 (tabAt f 15 : Nat), .int .u8 (tabAt f 16 : Nat), .int .u8 (tabAt f 17 : Nat), .int .u8 (tabAt f 18 : Nat), .int .u8 (tabAt f 19 : Nat), .int .u8 (tabAt f 20 : Nat), .int .u8 (tabAt f 21 : Nat), .int .u8 (tabAt f 22 : Nat), .int .u8 (tabAt f 23 : Nat), .int .u8 (tabAt f 24 : Nat), .int .u8 (tabAt f 25 : Nat), .int .u8 (tabAt f 26 : Nat), .int .u8 (tabAt f 27 : Nat), .int .u8 (tabAt f 28 : Nat), .int .u8 (tabAt f 29 : Nat), .int .u8 (tabAt f 30 : Nat), .int .u8 (tabAt f 31 : Nat)]
theorem out_eq (g : Nat → Nat) : (#[.int .u8 ((((List.range 16).map g ++ (List.range 16).map fun i => g (i * 16)).getD 0 0 : Nat) : Int), .int .u8 ((((List.range 16).map g ++ (List.range 16).map fun i => g (i * 16)).getD 1 0 : Nat) : Int), .int .u8 ((((List.range 16).map g ++ (List.range 16).map fun i => g (i * 16)).getD 2 0 : Nat) : Int), .int .u8 ((((List.range 16).map g ++ (List.range 16).map fun i => g (i * 16)).getD 3 0 : Nat) : Int), .int .u8 ((((List.range 16).map g ++ (List.range 16).map fun i => g (i * 16)).getD 4 0 : Nat) : Int), .int .u8 ((((List.range 16).map g ++ (List.range 16).map fun i => g (i * 16)).getD 5 0 : Nat) : Int), .int .u8 ((((List.range 16).map g ++ (List.range 16).map fun i => g (i * 16)).getD 6 0 : Nat) : Int), .int .u8 ((((List.range 16).map g ++ (List.range 16).map fun i => g (i * 16)).getD 7 0 : Nat) : Int), .int .u8 ((((List.range 16).map g ++ (List.range 16).map fun i => g (i * 16)).getD 8 0 : Nat) : Int), .int .u8 ((((List.range 16).map g ++ (List.range 16).map fun i => g (i * 16)).getD 9 0 : Nat) : Int), .int .u8 ((((List.range 16).map g ++ (List.range 16).map fun i => g (i * 16)).getD 10 0 : Nat) : Int), .int .u8 ((((List.range 16).map g ++ (List.range 16).map fun i => g (i * 16)).getD 11 0 : Nat) : Int), .int .u8 ((((List.range 16).map g ++ (List.range 16).map fun i => g (i * 16)).getD 12 0 : Nat) : Int), .int .u8 ((((List.range 16).map g ++ (List.range 16).map fun i => g (i * 16)).getD 13 0 : Nat) : Int), .int .u8 ((((List.range 16).map g ++ (List.range 16).map fun i => g (i * 16)).getD 14 0 : Nat) : Int), .int .u8 ((((List.range 16).map g ++ (List.range 16).map fun i => g (i * 16)).getD 15 0 : Nat) : Int), .int .u8 ((((List.range 16).map g ++ (List.range 16).map fun i => g (i * 16)).getD 16 0 : Nat) : Int), .int .u8 ((((List.range 16).map g ++ (List.range 16).map fun i => g (i * 16)).getD 17 0 : Nat) : Int), .int .u8 ((((List.range 16).map g ++ (List.range 16).map fun i => g (i * 16)).getD 18 0 : Nat) : Int), .int .u8 ((((List.range 16).map g ++ (List.range 16).map fun i => g (i * 16)).getD 19 0 : Nat) : Int), .int .u8 ((((List.range 16).map g ++ (List.range 16).map fun i => g (i * 16)).getD 20 0 : Nat) : Int), .int .u8 ((((List.range 16).map g ++ (List.range 16).map fun i => g (i * 16)).getD 21 0 : Nat) : Int), .int .u8 ((((List.range 16).map g ++ (List.range 16).map fun i => g (i * 16)).getD 22 0 : Nat) : Int), .int .u8 ((((List.range 16).map g ++ (List.range 16).map fun i => g (i * 16)).getD 23 0 : Nat) : Int), .int .u8 ((((List.range 16).map g ++ (List.range 16).map fun i => g (i * 16)).getD 24 0 : Nat) : Int), .int .u8 ((((List.range 16).map g ++ (List.range 16).map fun i => g (i * 16)).getD 25 0 : Nat) : Int), .int .u8 ((((List.range 16).map g ++ (List.range 16).map fun i => g (i * 16)).getD 26 0 : Nat) : Int), .int .u8 ((((List.range 16).map g ++ (List.range 16).map fun i => g (i * 16)).getD 27 0 : Nat) : Int), .int .u8 ((((List.range 16).map g ++ (List.range 16).map fun i => g (i * 16)).getD 28 0 : Nat) : Int), .int .u8 ((((List.range 16).map g ++ (List.range 16).map fun i => g (i * 16)).getD 29 0 : Nat) : Int), .int .u8 ((((List.range 16).map g ++ (List.range 16).map fun i => g (i * 16)).getD 30 0 : Nat) : Int), .int .u8 ((((List.range 16).map g ++ (List.range 16).map fun i => g (i * 16)).getD 31 0 : Nat) : Int)] : Array Value) = (bytesV ((List.range 16).map g ++ (List.range 16).map fun i => g (i * 16))).toArray := rfl
theorem tabOut_eq (f : Nat) : tabOut f = .agg (bytesV (tab f)).toArray := congrArg Value.agg (out_eq (fun i => Gf.times f i))
theorem tab_cell {w : World} {T : Nat} {t : TypeId} {f : Nat} (h : Blk w T t (bytesV (tab f))) : ∀ i, i < 32 → w.cell? ⟨T, i, none⟩ = some (.int .u8 (tabAt f i : Nat)) := fun i hi => by
  refine h.cell_some ?_
  have : i < (tab f).length := by simp [tab, low, high]; omega
  rw [bytesV_at this, tabAt]; simp [this]
theorem with_out (f b : Nat) (hf : f < 256) (hb : b < 256) (w : World) :
    Calls Tryz.prog 112 #[.agg #[.int .u8 (tabAt f 0 : Nat), .int .u8 (tabAt f 1 : Nat), .int .u8 (tabAt f 2 : Nat), .int .u8 (tabAt f 3 : Nat), .int .u8 (tabAt f 4 : Nat), .int .u8 (tabAt f 5 : Nat), .int .u8 (tabAt f 6 : Nat), .int .u8 (tabAt f 7 : Nat), .int .u8 (tabAt f 8 : Nat), .int .u8 (tabAt f 9 : Nat), .int .u8 (tabAt f 10 : Nat), .int .u8 (tabAt f 11 : Nat), .int .u8 (tabAt f 12 : Nat), .int .u8 (tabAt f 13 : Nat), .int .u8 (tabAt f 14 : Nat), .int .u8 (tabAt f 15 : Nat), .int .u8 (tabAt f 16 : Nat), .int .u8 (tabAt f 17 : Nat), .int .u8 (tabAt f 18 : Nat), .int .u8 (tabAt f 19 : Nat), .int .u8 (tabAt f 20 : Nat), .int .u8 (tabAt f 21 : Nat), .int .u8 (tabAt f 22 : Nat), .int .u8 (tabAt f 23 : Nat), .int .u8 (tabAt f 24 : Nat), .int .u8 (tabAt f 25 : Nat), .int .u8 (tabAt f 26 : Nat), .int .u8 (tabAt f 27 : Nat), .int .u8 (tabAt f 28 : Nat), .int .u8 (tabAt f 29 : Nat), .int .u8 (tabAt f 30 : Nat), .int .u8 (tabAt f 31 : Nat)], .int .u8 b] w fun e w' => e = .returned (.int .u8 (Gf.times f b : Nat)) ∧ Below w.heap.size w w' := by
  have := with_any f b hf hb w
  rw [← tabOut_eq] at this
  exact this
end Go.Proofs.YtokmllopbfmadaaGreatDoor.Tab

namespace Go.Proofs.YtokmllopbfmadaaGreatDoor.Planes
open Go.RowKit Mem FieldWalks Tab

def colsOf (f : Nat) : List Nat := (List.range 8).map fun b => Gf.times f (2 ^ b)
theorem infoCols : (Tryz.prog.info? 173).map (·.size) = some 8 := by kernel_rfl

set_option maxRecDepth 100000 in
set_option maxHeartbeats 400000 in
theorem columns_any (f : Nat) (hf : f < 256) (w : World) (ht : Table w) :
    Calls Tryz.prog 113 #[.int .u8 f] w fun e w' => e = .returned (.agg (bytesV (colsOf f)).toArray) ∧ Below w.heap.size w w' := by
  go_enter Tryz.func113, Tryz.ntmps113
  go_wp2
  go_loopw [5] (fun i wr => ∃ k : Nat, k ≤ 8 ∧ i = .int .i64 k ∧ Blk wr w.heap.size 173 (bytesV (zeros 8)) ∧ Blk wr (w.heap.size + 1) 173 (bytesV (mix (colsOf f) (zeros 8) k)) ∧ Below w.heap.size w wr) (fun i _ => 8 - (intOf i).toNat)
  case atStart => exact ⟨0, Nat.zero_le _, rfl, (Blk.new w _ _).alloc _, Blk.new1 w _ _ _, (Below.refl _ _).alloc (Nat.le_refl _) _ |>.alloc (by simp) _⟩
  case round =>
    obtain ⟨k, hk, rfl, hb1, hb2, hbel⟩ := hrel
    by_cases hlt : k < 8
    · have hT := table_to ht hbel
      have hll : (mix (colsOf f) (zeros 8) k).length = 8 := by rw [mix_length (by simp [colsOf, zeros])]; simp [zeros]
      have hc1 := hb2.cell_some (k := k) (bytesV_at (by omega))
      generalize (mix (colsOf f) (zeros 8) k)[k]'(by omega) = old at hc1
      have hf1 := hb2.free k
      have HB1 : Hid (Blk wr w.heap.size 173 (bytesV (zeros 8))) := hb1
      have HB2 : Hid (Blk wr (w.heap.size + 1) 173 (bytesV (mix (colsOf f) (zeros 8) k))) := hb2
      obtain ⟨p, hp⟩ : ∃ p, p = 2 ^ k := ⟨_, rfl⟩
      have hpb : p < 256 := by rw [hp]; exact Gf.two_lt k hlt
      have ep : (2 : Int) ^ k = (p : Int) := by rw [hp]; simp
      have HP : Hid (p = 2 ^ k) := hp
      clear hb1 hb2 hll hp
      go_wp2_with fail
      refine (mul_any f p hf hpb _ hT).mono ?_
      rintro e w' ⟨rfl, rfl⟩
      clear hT
      go_wp2
      go_roundw
      case rel =>
        refine ⟨k + 1, by omega, by go_num, ?_, ?_, ?_⟩
        · exact HB1.out.other (by show _ ≠ w.heap.size + 1; omega) _
        · refine (HB2.out.set k _).eq ?_
          rw [bytesV_set, ← mix_set (k := k) (new := colsOf f) (old := zeros 8) (by simp [colsOf, zeros]) (by simpa [zeros] using hlt), HP.out]
          simp [colsOf]
        · exact hbel.setCell (by show _ ≤ w.heap.size + 1; omega) _
      case measure => simp [intOf]; omega
    · obtain rfl : k = 8 := by omega
      have e := mix_all (new := colsOf f) (old := zeros 8) (by simp [colsOf, zeros])
      rw [show (zeros 8).length = 8 from rfl] at e
      rw [e] at hb2
      have HS : Hid ((Tryz.prog.info? 173).map (·.size) = some (bytesV (colsOf f)).toArray.size) := by show _ = _; rw [infoCols]; simp [colsOf]
      have HB1 : Hid (Blk wr w.heap.size 173 (bytesV (zeros 8))) := hb1
      have HB2 : Hid (Blk wr (w.heap.size + 1) 173 (bytesV (colsOf f))) := hb2
      clear hb1 hb2 e
      go_wp2_with (first | refine wpList_load_row rfl 173 _ rfl (w.heap.size + 1) rfl 173 _ _ _ HB2.out Tryz.underlying173 rfl HS.out ?_ | refine wpList_store_row rfl 173 _ _ rfl w.heap.size _ rfl rfl 173 _ HB1.out HS.out (by simp [colsOf, zeros]) (bytesV_one _) ?_)
      have hr := HB1.out.row (bytesV (colsOf f)).toArray
      refine bodyPost_ret (v := .agg (bytesV (colsOf f)).toArray) (results_cell_row (p := 2) (ty := 173) (by kernel_rfl) _ _ w.heap.size 173 _ (0, 0) _ rfl hr Tryz.underlying173 rfl HS.out) rfl ⟨rfl, ?_⟩
      exact below_row hbel (Nat.le_refl _) _
end Go.Proofs.YtokmllopbfmadaaGreatDoor.Planes

namespace Go.Proofs.YtokmllopbfmadaaGreatDoor.Planes
open Go.RowKit Mem FieldWalks Tab

def wordsV (l : List Nat) : List Value := l.map fun (n : Nat) => Value.int .u64 (n : Int)
@[simp] theorem wordsV_length (l : List Nat) : (wordsV l).length = l.length := by simp [wordsV]
theorem wordsV_at {l : List Nat} {k : Nat} (h : k < l.length) : (wordsV l)[k]? = some (.int .u64 (l[k] : Nat)) := by simp [wordsV, h]
theorem wordsV_set (l : List Nat) (k n : Nat) : (wordsV l).set k (.int .u64 (n : Int)) = wordsV (l.set k n) := by simp [wordsV, List.map_set]
theorem wordsV_one (l : List Nat) : (wordsV l).toArray.all (·.oneCell') = true := by
  rw [Array.all_eq_true_iff_forall_mem]; intro v hv; simp [wordsV] at hv; obtain ⟨n, _, rfl⟩ := hv; rfl

theorem index_col (f k : Nat) (hk : k < 8) (w : World) : (Instr.index 173 (.agg (bytesV (colsOf f)).toArray) (.int .i64 (k : Int))).run Tryz.prog w = .ok (.int .u8 (Gf.times f (2 ^ k) : Nat)) w := by
  rcases (show k = 0 ∨ k = 1 ∨ k = 2 ∨ k = 3 ∨ k = 4 ∨ k = 5 ∨ k = 6 ∨ k = 7 by omega) with rfl | rfl | rfl | rfl | rfl | rfl | rfl | rfl <;> kernel_rfl
def movesOf (f : Nat) : List Nat := (List.range 8).map fun b => Gf.moves (Gf.times f (2 ^ b))
/-- The moves of one column, behind n of its bits. -/
def movesTo (c n : Nat) : Nat := Gf.bitsOf 64 fun j => decide (j % 8 = 0) && (decide (j / 8 < n) && c.testBit (j / 8))
theorem movesTo_zero (c : Nat) : movesTo c 0 = 0 := by
  refine (Gf.eq_bitsOf (n := 64) (Nat.two_pow_pos 64) fun j _ => ?_).symm
  simp
theorem movesTo_all (c : Nat) : movesTo c 8 = Gf.moves c := Gf.bitsOf_congr fun j hj => by simp [show j / 8 < 8 by omega]
theorem movesTo_lt (c n : Nat) : movesTo c n < 18446744073709551616 := Gf.bitsOf_lt 64 _
theorem movesTo_next (c n : Nat) (hn : n < 8) : movesTo c n ||| (if c.testBit n then 2 ^ (8 * n) else 0) = movesTo c (n + 1) := by
  refine Gf.or_bit (c.testBit n) (by omega) fun i hi => ?_
  by_cases e : i = 8 * n
  · subst e; simp [show 8 * n / 8 = n by omega]
  · by_cases h8 : i % 8 = 0
    · have h1 : i / 8 ≠ n := by omega
      have : (i / 8 < n + 1) ↔ (i / 8 < n) := by omega
      simp [h8, e, this]
    · simp [h8, e]
theorem mix_stay {new old : List Nat} {b x : Nat} (h : new.length = old.length) (hb : b < old.length) (hx : old[b] = x) : (mix new old b).set b x = mix new old b := by
  apply List.ext_getElem?
  intro i
  by_cases e : i = b
  · subst e
    rw [mix_at h hb, hx, List.getElem?_set_self (by rw [mix_length h]; exact hb)]
  · rw [List.getElem?_set_ne (by omega)]
/-- A bit, as the walk spells it, moved up in a word. -/
theorem bit_word (c n m : Nat) (hc : c < 256) (hm : m < 64) : IntKind.u64.wrap (IntKind.u64.wrap (bits .and .u8 ((c : Int) / 2 ^ n) 1) * 2 ^ m) = ((if c.testBit n then 2 ^ m else 0 : Nat) : Int) := by
  have h1 : bits .and .u8 ((c : Int) / 2 ^ n) 1 = if c.testBit n then 1 else 0 := by
    have hl : c / 2 ^ n < 256 := Nat.lt_of_le_of_lt (Nat.div_le_self _ _) hc
    rw [Gf.cast_shr, show (1 : Int) = ((1 : Nat) : Int) from rfl, u8_and_nat _ _ hl (by omega), nat_mask1, Gf.testBit_div]
    have hlt : c / 2 ^ n % 2 < 2 := Nat.mod_lt _ (by omega)
    generalize c / 2 ^ n % 2 = t at hlt ⊢
    rcases (show t = 0 ∨ t = 1 by omega) with rfl | rfl <;> rfl
  rw [h1]
  have hp : (2 : Nat) ^ m < 2 ^ 64 := Nat.pow_lt_pow_right (by omega) hm
  split
  · rw [IntKind.wrap_u64, IntKind.wrap_u64]
    have e : ((2 : Int) ^ m) = ((2 ^ m : Nat) : Int) := by simp
    rw [e, show (1 : Int) % 18446744073709551616 = 1 from rfl, Int.one_mul]
    generalize 2 ^ m = t at hp ⊢
    omega
  · rw [IntKind.wrap_u64, IntKind.wrap_u64]; simp

theorem bit_lt (b : Bool) (m : Nat) (hm : m < 64) : (if b then 2 ^ m else 0) < 18446744073709551616 := by
  split
  · have h : 2 ^ m < 2 ^ 64 := Nat.pow_lt_pow_right (by omega) hm
    exact h
  · omega
theorem zeros_get (n b : Nat) (h : b < (zeros n).length) : (zeros n)[b] = 0 := by unfold zeros; exact List.getElem_replicate _
theorem infoMoves : (Tryz.prog.info? 158).map (·.size) = some 8 := by kernel_rfl

set_option maxRecDepth 100000 in
set_option maxHeartbeats 400000 in
theorem planeMoves_any (f : Nat) (hf : f < 256) (w : World) (ht : Table w) :
    Calls Tryz.prog 107 #[.int .u8 f] w fun e w' => e = .returned (.agg (wordsV (movesOf f)).toArray) ∧ Below w.heap.size w w' := by
  go_enter Tryz.func107, Tryz.ntmps107
  go_wp2_with fail
  refine (columns_any f hf _ (table_to ht ((Below.refl _ _).alloc (Nat.le_refl _) _ |>.alloc (by simp) _))).mono ?_
  rintro e w1 ⟨rfl, hw1⟩
  go_wp2
  have hbel : Below w.heap.size w w1 := ((Below.refl _ _).alloc (Nat.le_refl _) _ |>.alloc (by simp) _).trans (hw1.mono (by simp; omega))
  have hA : Blk w1 w.heap.size 158 (wordsV (zeros 8)) := ((Blk.new w _ _).alloc _).to hw1
  have hM : Blk w1 (w.heap.size + 1) 158 (wordsV (zeros 8)) := (Blk.new1 w _ _ _).to hw1
  clear hw1
  go_loopw [9] (fun i wr => ∃ b : Nat, b ≤ 8 ∧ i = .int .i64 b ∧ Blk wr w.heap.size 158 (wordsV (zeros 8)) ∧ Blk wr (w.heap.size + 1) 158 (wordsV (mix (movesOf f) (zeros 8) b)) ∧ Below w.heap.size w wr) (fun i _ => 8 - (intOf i).toNat)
  case atStart => exact ⟨0, Nat.zero_le _, rfl, hA, by rw [mix_zero]; exact hM, hbel⟩
  case round =>
    clear hA hM hbel
    obtain ⟨b, hb, rfl, hA, hM, hbel⟩ := hrel
    by_cases hlt : b < 8
    · have hix := fun w => index_col f b hlt w
      obtain ⟨col, hcol⟩ : ∃ col, col = Gf.times f (2 ^ b) := ⟨_, rfl⟩
      have hcb : col < 256 := by rw [hcol]; exact Gf.times_lt _ _ hf
      have HC : Hid (col = Gf.times f (2 ^ b)) := hcol
      rw [← hcol] at hix
      clear hcol
      go_wp2
      clear hix
      go_loopw [13] (fun i wr => ∃ t : Nat, t ≤ 8 ∧ i = .int .i64 t ∧ Blk wr w.heap.size 158 (wordsV (zeros 8)) ∧ Blk wr (w.heap.size + 1) 158 (wordsV ((mix (movesOf f) (zeros 8) b).set b (movesTo col t))) ∧ Below w.heap.size w wr) (fun i _ => 8 - (intOf i).toNat)
      case atStart =>
        refine ⟨0, Nat.zero_le _, rfl, hA, hM.eq ?_, hbel⟩
        rw [movesTo_zero, mix_stay (by simp [movesOf, zeros]) (by simpa [zeros] using hlt) (zeros_get _ _ _)]
      case round =>
        clear hA hM hbel
        obtain ⟨t, ht', rfl, hA, hM, hbel⟩ := hrel
        by_cases htlt : t < 8
        · have hll : ((mix (movesOf f) (zeros 8) b).set b (movesTo col t)).length = 8 := by rw [List.length_set, mix_length (by simp [movesOf, zeros])]; simp [zeros]
          have hc1 := hM.cell_some (k := b) (v := .int .u64 (movesTo col t : Nat)) (by rw [wordsV_at (by omega)]; simp)
          have hf1 := hM.free b
          have HA : Hid (Blk wr w.heap.size 158 (wordsV (zeros 8))) := hA
          have HM : Hid (Blk wr (w.heap.size + 1) 158 (wordsV ((mix (movesOf f) (zeros 8) b).set b (movesTo col t)))) := hM
          clear hA hM hll
          have EV : Hid (bits .or .u64 (movesTo col t : Nat) (IntKind.u64.wrap (IntKind.u64.wrap (bits .and .u8 ((col : Int) / 2 ^ t) 1) * 2 ^ (8 * t))) = (movesTo col (t + 1) : Nat)) := by
            show _ = _
            rw [bit_word col t (8 * t) hcb (by omega), u64_or_nat _ _ (movesTo_lt col t) (bit_lt _ _ (by omega)), movesTo_next col t htlt]
          generalize movesTo col t = old at hc1 EV
          go_wp2
          go_region
          go_wp2
          go_roundw
          case rel =>
            refine ⟨t + 1, by omega, by go_num, (HA.out.other (by show _ ≠ w.heap.size + 1; omega) _).drew, ?_, (hbel.setCell (by show _ ≤ w.heap.size + 1; omega) _).drew⟩
            refine (HM.out.set b _).drew.eq ?_
            rw [EV.out, wordsV_set, List.set_set]
          case measure => simp [intOf]; omega
        · obtain rfl : t = 8 := by omega
          go_wp2
          go_roundw
          case rel =>
            refine ⟨b + 1, by omega, by go_num, hA, hM.eq ?_, hbel⟩
            rw [movesTo_all, HC.out, ← mix_set (k := b) (new := movesOf f) (old := zeros 8) (by simp [movesOf, zeros]) (by simpa [zeros] using hlt)]
            simp [movesOf]
          case measure => simp [intOf]; omega
    · obtain rfl : b = 8 := by omega
      have e := mix_all (new := movesOf f) (old := zeros 8) (by simp [movesOf, zeros])
      rw [show (zeros 8).length = 8 from rfl] at e
      rw [e] at hM
      have HS : Hid ((Tryz.prog.info? 158).map (·.size) = some (wordsV (movesOf f)).toArray.size) := by show _ = _; rw [infoMoves]; simp [movesOf]
      have HA : Hid (Blk wr w.heap.size 158 (wordsV (zeros 8))) := hA
      have HM : Hid (Blk wr (w.heap.size + 1) 158 (wordsV (movesOf f))) := hM
      clear hA hM e
      go_wp2_with (first | refine wpList_load_row rfl 158 _ rfl (w.heap.size + 1) rfl 158 _ _ _ HM.out Tryz.underlying158 rfl HS.out ?_ | refine wpList_store_row rfl 158 _ _ rfl w.heap.size _ rfl rfl 158 _ HA.out HS.out (by simp [movesOf, zeros]) (wordsV_one _) ?_)
      have hr := HA.out.row (wordsV (movesOf f)).toArray
      refine bodyPost_ret (v := .agg (wordsV (movesOf f)).toArray) (results_cell_row (p := 2) (ty := 158) (by kernel_rfl) _ _ w.heap.size 158 _ (0, 0) _ rfl hr Tryz.underlying158 rfl HS.out) rfl ⟨rfl, ?_⟩
      exact below_row hbel (Nat.le_refl _) _
end Go.Proofs.YtokmllopbfmadaaGreatDoor.Planes

namespace Go.Proofs.YtokmllopbfmadaaGreatDoor.Planes
open Go.RowKit Mem FieldWalks Tab

theorem moved_step (f W n : Nat) (hW : W < 18446744073709551616) :
    Value.int .u64 (bits .xor .u64 (Gf.moved f W n : Nat) (IntKind.u64.wrap ((Gf.moves (Gf.times f (2 ^ n)) : Nat) * bits .and .u64 ((W : Int) / 2 ^ (8 * n)) 255))) = .int .u64 (Gf.moved f W (n + 1) : Nat) := by
  have hl : W / 2 ^ (8 * n) < 18446744073709551616 := Nat.lt_of_le_of_lt (Nat.div_le_self _ _) hW
  have e1 : bits .and .u64 ((W : Int) / 2 ^ (8 * n)) 255 = ((W / 2 ^ (8 * n) % 256 : Nat) : Int) := by
    rw [Gf.cast_shr, show (255 : Int) = ((255 : Nat) : Int) from rfl, u64_and_nat _ _ hl (by omega), nat_mask8]
  have hp : W / 2 ^ (8 * n) % 256 < 256 := Nat.mod_lt _ (by omega)
  have hm : Gf.moves (Gf.times f (2 ^ n)) * (W / 2 ^ (8 * n) % 256) < 18446744073709551616 := by
    rw [Gf.moves_mul _ _ hp]; exact Gf.bitsOf_lt 64 _
  rw [e1, Gf.moved]
  have e2 : IntKind.u64.wrap ((Gf.moves (Gf.times f (2 ^ n)) : Nat) * ((W / 2 ^ (8 * n) % 256 : Nat) : Int)) = ((Gf.moves (Gf.times f (2 ^ n)) * (W / 2 ^ (8 * n) % 256) : Nat) : Int) := by
    rw [← Int.natCast_mul, IntKind.wrap_u64]
    generalize Gf.moves (Gf.times f (2 ^ n)) * (W / 2 ^ (8 * n) % 256) = t at hm ⊢
    omega
  rw [e2, u64_xor_nat _ _ (Gf.moved_lt f W n) hm]

set_option maxRecDepth 100000 in
set_option maxHeartbeats 400000 in
theorem movePlanes_any (f W : Nat) (hW : W < 18446744073709551616) (w : World) :
    Calls Tryz.prog 108 #[.agg (wordsV (movesOf f)).toArray, .int .u64 W] w fun e w' => e = .returned (.int .u64 (Gf.moved f W 8 : Nat)) ∧ Below w.heap.size w w' := by
  have hn := Blk.new w (wordsV (movesOf f)).toArray 158
  have HN : Hid (Blk (w.alloc (.cells (wordsV (movesOf f)).toArray 158)) w.heap.size 158 (wordsV (movesOf f))) := hn
  have HW : Hid (W < 18446744073709551616) := hW
  clear hn hW
  go_enter Tryz.func108, Tryz.ntmps108
  go_wp2
  go_loop [5, 8] (fun s i => ∃ k : Nat, k ≤ 8 ∧ i = .int .i64 k ∧ s = .int .u64 (Gf.moved f W k : Nat)) (fun _ i => 8 - (intOf i).toNat)
  case atStart => exact ⟨0, Nat.zero_le _, rfl, rfl⟩
  case round =>
    obtain ⟨k, hk, rfl, rfl⟩ := hrel
    by_cases hlt : k < 8
    · have hc := HN.out.cell_some (k := k) (v := .int .u64 (Gf.moves (Gf.times f (2 ^ k)) : Nat)) (by rw [wordsV_at (by simp [movesOf]; omega)]; simp [movesOf])
      have HST : Hid _ := moved_step f W k HW.out
      generalize Gf.moves (Gf.times f (2 ^ k)) = mk at hc HST
      generalize Gf.moved f W k = old at HST ⊢
      go_wp2
      go_round
      case rel => exact ⟨k + 1, by omega, by go_num, HST.out⟩
      case measure => simp [intOf]; omega
    · obtain rfl : k = 8 := by omega
      go_wp2
      go_ret
      exact ⟨rfl, (Below.refl _ _).alloc (Nat.le_refl _) _⟩
end Go.Proofs.YtokmllopbfmadaaGreatDoor.Planes
