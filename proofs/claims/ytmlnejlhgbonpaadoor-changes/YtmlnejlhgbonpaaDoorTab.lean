import Derived.Test.YtmlnejlhgbonpaaDoorField
import Derived.Test.YtmlnejlhgbonpaaDoorMem
import Derived.BigQuiet
import Derived.Deep.QuietTactic
namespace Go.Proofs.YtmlnejlhgbonpaaDoor.Tab
open Go.RowKit Mem FieldWalks

/-- The table's lower and upper halves. -/
def low (f : Nat) : List Nat := (List.range 16).map fun i => Gf.times f i
def high (f : Nat) : List Nat := (List.range 16).map fun i => Gf.times f (i * 16)
def tab (f : Nat) : List Nat := low f ++ high f

theorem infoTab : (Tryd.prog.info? 175).map (·.size) = some 32 := by kernel_rfl
def zeros (n : Nat) : List Nat := List.replicate n 0
def part (f k : Nat) : List Nat := mix (low f) (zeros 16) k ++ mix (high f) (zeros 16) k
theorem part_length (f k : Nat) : (part f k).length = 32 := by
  simp [part, mix_length (new := low f) (old := zeros 16) (by simp [low, zeros]), mix_length (new := high f) (old := zeros 16) (by simp [high, zeros])]
  simp [zeros]
theorem part_step (f k : Nat) (hk : k < 16) : ((bytesV (part f k)).set k (.int .u8 (Gf.times f k : Nat))).set (16 + k) (.int .u8 (Gf.times f (k * 16) : Nat)) = bytesV (part f (k + 1)) := by
  have l1 : (low f).length = (zeros 16).length := by simp [low, zeros]
  have l2 : (high f).length = (zeros 16).length := by simp [high, zeros]
  have z : (zeros 16).length = 16 := by simp [zeros]
  have m1 := mix_length l1 k
  rw [bytesV_set, bytesV_set]
  unfold part
  have s1 := mix_set (k := k) l1 (by omega)
  have s2 := mix_set (k := k) l2 (by omega)
  rw [List.set_append_left _ _ (by omega), List.set_append_right _ _ (by simp; omega)]
  congr 2
  · rw [← s1]; simp [low]
  · have e : 16 + k - ((mix (low f) (zeros 16) k).set k (Gf.times f k)).length = k := by rw [List.length_set, m1, z]; omega
    rw [e, ← s2]; simp [high]
theorem part_all (f : Nat) : part f 16 = tab f := by
  have l1 : (low f).length = (zeros 16).length := by simp [low, zeros]
  have l2 : (high f).length = (zeros 16).length := by simp [high, zeros]
  have z : (zeros 16).length = 16 := by simp [zeros]
  have m1 := mix_all l1
  have m2 := mix_all l2
  rw [z] at m1 m2
  unfold part tab; rw [m1, m2]
theorem table_to {w w' : World} (h : Table w) (hb : Below w.heap.size w w') : Table w' := by
  intro k hk
  have h0 := h k hk
  rw [hb.cell (p := ⟨0, k, none⟩) (block_lt_of_cell h0)]
  exact h0

set_option maxRecDepth 100000 in
set_option maxHeartbeats 400000 in
theorem productsOf_any (f : Nat) (hf : f < 256) (w : World) (ht : Table w) :
    Calls Tryd.prog 131 #[.int .u8 f] w fun e w' => e = .returned (.agg (bytesV (tab f)).toArray) ∧ Below w.heap.size w w' := by
  go_enter Tryd.func131, Tryd.ntmps131
  go_wp2
  go_loopw [5] (fun i wr => ∃ k : Nat, k ≤ 16 ∧ i = .int .i64 k ∧ Blk wr w.heap.size 175 (bytesV (zeros 32)) ∧ Blk wr (w.heap.size + 1) 175 (bytesV (part f k)) ∧ Below w.heap.size w wr) (fun i _ => 16 - (intOf i).toNat)
  case atStart => exact ⟨0, Nat.zero_le _, rfl, (Blk.new w _ _).alloc _, Blk.new1 w _ _ _, (Below.refl _ _).alloc (Nat.le_refl _) _ |>.alloc (by simp) _⟩
  case round =>
    obtain ⟨k, hk, rfl, hb1, hb2, hbel⟩ := hrel
    by_cases hlt : k < 16
    · have hT := table_to ht hbel
      have hc1 := hb2.cell_some (k := k) (bytesV_at (by rw [part_length]; omega))
      have hc2 := hb2.cell_some (k := 16 + k) (bytesV_at (by rw [part_length]; omega))
      have hf1 := hb2.free k
      have hf2 := hb2.free (16 + k)
      have HB1 : Hid (Blk wr w.heap.size 175 (bytesV (zeros 32))) := hb1
      have HB2 : Hid (Blk wr (w.heap.size + 1) 175 (bytesV (part f k))) := hb2
      clear hb1 hb2
      go_wp2_with fail
      refine (mul_any f k hf (by omega) _ hT).mono ?_
      rintro e w' ⟨rfl, rfl⟩
      have hm := mul_any f (k * 16) hf (by omega) _ (table_to ht (hbel.setCell (p := ⟨w.heap.size + 1, k, none⟩) (by show _ ≤ w.heap.size + 1; omega) (.int .u8 (Gf.times f k : Nat))))
      rw [show ((k * 16 : Nat) : Int) = (k : Int) * 16 by omega] at hm
      go_wp2_with fail
      refine Calls.mono hm ?_
      rintro e w1 ⟨rfl, rfl⟩
      clear hm hT
      go_wp2
      go_roundw
      case rel =>
        refine ⟨k + 1, by omega, by go_num, ?_, ?_, ?_⟩
        · exact (HB1.out.other (by show _ ≠ w.heap.size + 1; omega) _).other (by show _ ≠ w.heap.size + 1; omega) _
        · exact ((HB2.out.set k _).set (16 + k) _).eq (part_step f k hlt)
        · exact (hbel.setCell (by show _ ≤ w.heap.size + 1; omega) _).setCell (by show _ ≤ w.heap.size + 1; omega) _
      case measure => simp [intOf]; omega
    · obtain rfl : k = 16 := by omega
      rw [part_all] at hb2
      have hsz : (Tryd.prog.info? 175).map (·.size) = some (bytesV (tab f)).toArray.size := by rw [infoTab]; simp [tab, low, high]
      have h1 := bytesV_one (tab f)
      have HB1 : Hid (Blk wr w.heap.size 175 (bytesV (zeros 32))) := hb1
      have HB2 : Hid (Blk wr (w.heap.size + 1) 175 (bytesV (tab f))) := hb2
      have H1 : Hid ((bytesV (tab f)).toArray.all (·.oneCell') = true) := h1
      have HS : Hid ((Tryd.prog.info? 175).map (·.size) = some (bytesV (tab f)).toArray.size) := hsz
      clear hb1 hb2 h1 hsz
      go_wp2_with (first | refine wpList_load_row rfl 175 _ rfl (w.heap.size + 1) rfl 175 _ _ _ HB2.out Tryd.underlying175 rfl HS.out ?_ | refine wpList_store_row rfl 175 _ _ rfl w.heap.size _ rfl rfl 175 _ HB1.out HS.out (by simp [tab, low, high, zeros]) H1.out ?_)
      have hr := HB1.out.row (bytesV (tab f)).toArray
      refine bodyPost_ret (v := .agg (bytesV (tab f)).toArray) (results_cell_row (p := 2) (ty := 175) (by kernel_rfl) _ _ w.heap.size 175 _ (0, 0) _ rfl hr Tryd.underlying175 rfl HS.out) rfl ⟨rfl, ?_⟩
      exact below_row hbel (Nat.le_refl _) _

theorem tab_low (f k : Nat) (hk : k < 16) : (bytesV (tab f))[k]? = some (.int .u8 (Gf.times f k : Nat)) := by
  rw [bytesV_at (by simp [tab, low, high]; omega)]; simp [tab, low, high, hk]
theorem tab_high (f k : Nat) (hk : k < 16) : (bytesV (tab f))[16 + k]? = some (.int .u8 (Gf.times f (k * 16) : Nat)) := by
  rw [bytesV_at (by simp [tab, low, high]; omega)]; simp [tab, low, high]
theorem halves : ∀ b, b < 256 → b % 16 ^^^ b / 16 * 16 = b := by decide +kernel
theorem times_halves (f b : Nat) (hf : f < 256) (hb : b < 256) : Gf.times f (b % 16) ^^^ Gf.times f (b / 16 * 16) = Gf.times f b := by
  rw [← Gf.times_xor_r f _ _ hf, halves b hb]

set_option maxRecDepth 100000 in
set_option maxHeartbeats 400000 in
theorem with_any (f b : Nat) (hf : f < 256) (hb : b < 256) (w : World) :
    Calls Tryd.prog 132 #[.agg (bytesV (tab f)).toArray, .int .u8 b] w fun e w' => e = .returned (.int .u8 (Gf.times f b : Nat)) ∧ Below w.heap.size w w' := by
  have e1 : bits .and .u8 (b : Int) 15 = ((b % 16 : Nat) : Int) := by
    rw [show (15 : Int) = ((15 : Nat) : Int) from rfl, u8_and_nat _ _ hb (by omega), nat_mask4]
  have hn := Blk.new w (bytesV (tab f)).toArray 175
  have c1 := hn.cell_some (tab_low f (b % 16) (by omega))
  have c2 := hn.cell_some (tab_high f (b / 16) (by omega))
  go_enter Tryd.func132, Tryd.ntmps132
  have l1 : (((b % 16 : Nat) : Int)) < 16 := by omega
  have l2 : (b : Int) / 16 < 16 := by omega
  go_wp2
  go_quiet (fail)
  go_wp2
  go_ret
  refine ⟨?_, below_drewN ((Below.refl _ _).alloc (Nat.le_refl _) _) _⟩
  show Ending.returned (.int .u8 (bits .xor .u8 (Gf.times f (b % 16) : Nat) (Gf.times f (b / 16 * 16) : Nat))) = _
  rw [u8_xor_nat _ _ (Gf.times_lt _ _ hf) (Gf.times_lt _ _ hf), times_halves f b hf hb]

/-- The table's number i, and the table written out: as a load of all its cells leaves it. -/
def tabAt (f i : Nat) : Nat := (tab f).getD i 0
def tabOut (f : Nat) : Value := .agg #[.int .u8 (tabAt f 0 : Nat), .int .u8 (tabAt f 1 : Nat), .int .u8 (tabAt f 2 : Nat), .int .u8 (tabAt f 3 : Nat), .int .u8 (tabAt f 4 : Nat), .int .u8 (tabAt f 5 : Nat), .int .u8 (tabAt f 6 : Nat), .int .u8 (tabAt f 7 : Nat), .int .u8 (tabAt f 8 : Nat), .int .u8 (tabAt f 9 : Nat), .int .u8 (tabAt f 10 : Nat), .int .u8 (tabAt f 11 : Nat), .int .u8 (tabAt f 12 : Nat), .int .u8 (tabAt f 13 : Nat), .int .u8 (tabAt f 14 : Nat), .int .u8 (tabAt f 15 : Nat), .int .u8 (tabAt f 16 : Nat), .int .u8 (tabAt f 17 : Nat), .int .u8 (tabAt f 18 : Nat), .int .u8 (tabAt f 19 : Nat), .int .u8 (tabAt f 20 : Nat), .int .u8 (tabAt f 21 : Nat), .int .u8 (tabAt f 22 : Nat), .int .u8 (tabAt f 23 : Nat), .int .u8 (tabAt f 24 : Nat), .int .u8 (tabAt f 25 : Nat), .int .u8 (tabAt f 26 : Nat), .int .u8 (tabAt f 27 : Nat), .int .u8 (tabAt f 28 : Nat), .int .u8 (tabAt f 29 : Nat), .int .u8 (tabAt f 30 : Nat), .int .u8 (tabAt f 31 : Nat)]
theorem out_eq (g : Nat → Nat) : (#[.int .u8 ((((List.range 16).map g ++ (List.range 16).map fun i => g (i * 16)).getD 0 0 : Nat) : Int), .int .u8 ((((List.range 16).map g ++ (List.range 16).map fun i => g (i * 16)).getD 1 0 : Nat) : Int), .int .u8 ((((List.range 16).map g ++ (List.range 16).map fun i => g (i * 16)).getD 2 0 : Nat) : Int), .int .u8 ((((List.range 16).map g ++ (List.range 16).map fun i => g (i * 16)).getD 3 0 : Nat) : Int), .int .u8 ((((List.range 16).map g ++ (List.range 16).map fun i => g (i * 16)).getD 4 0 : Nat) : Int), .int .u8 ((((List.range 16).map g ++ (List.range 16).map fun i => g (i * 16)).getD 5 0 : Nat) : Int), .int .u8 ((((List.range 16).map g ++ (List.range 16).map fun i => g (i * 16)).getD 6 0 : Nat) : Int), .int .u8 ((((List.range 16).map g ++ (List.range 16).map fun i => g (i * 16)).getD 7 0 : Nat) : Int), .int .u8 ((((List.range 16).map g ++ (List.range 16).map fun i => g (i * 16)).getD 8 0 : Nat) : Int), .int .u8 ((((List.range 16).map g ++ (List.range 16).map fun i => g (i * 16)).getD 9 0 : Nat) : Int), .int .u8 ((((List.range 16).map g ++ (List.range 16).map fun i => g (i * 16)).getD 10 0 : Nat) : Int), .int .u8 ((((List.range 16).map g ++ (List.range 16).map fun i => g (i * 16)).getD 11 0 : Nat) : Int), .int .u8 ((((List.range 16).map g ++ (List.range 16).map fun i => g (i * 16)).getD 12 0 : Nat) : Int), .int .u8 ((((List.range 16).map g ++ (List.range 16).map fun i => g (i * 16)).getD 13 0 : Nat) : Int), .int .u8 ((((List.range 16).map g ++ (List.range 16).map fun i => g (i * 16)).getD 14 0 : Nat) : Int), .int .u8 ((((List.range 16).map g ++ (List.range 16).map fun i => g (i * 16)).getD 15 0 : Nat) : Int), .int .u8 ((((List.range 16).map g ++ (List.range 16).map fun i => g (i * 16)).getD 16 0 : Nat) : Int), .int .u8 ((((List.range 16).map g ++ (List.range 16).map fun i => g (i * 16)).getD 17 0 : Nat) : Int), .int .u8 ((((List.range 16).map g ++ (List.range 16).map fun i => g (i * 16)).getD 18 0 : Nat) : Int), .int .u8 ((((List.range 16).map g ++ (List.range 16).map fun i => g (i * 16)).getD 19 0 : Nat) : Int), .int .u8 ((((List.range 16).map g ++ (List.range 16).map fun i => g (i * 16)).getD 20 0 : Nat) : Int), .int .u8 ((((List.range 16).map g ++ (List.range 16).map fun i => g (i * 16)).getD 21 0 : Nat) : Int), .int .u8 ((((List.range 16).map g ++ (List.range 16).map fun i => g (i * 16)).getD 22 0 : Nat) : Int), .int .u8 ((((List.range 16).map g ++ (List.range 16).map fun i => g (i * 16)).getD 23 0 : Nat) : Int), .int .u8 ((((List.range 16).map g ++ (List.range 16).map fun i => g (i * 16)).getD 24 0 : Nat) : Int), .int .u8 ((((List.range 16).map g ++ (List.range 16).map fun i => g (i * 16)).getD 25 0 : Nat) : Int), .int .u8 ((((List.range 16).map g ++ (List.range 16).map fun i => g (i * 16)).getD 26 0 : Nat) : Int), .int .u8 ((((List.range 16).map g ++ (List.range 16).map fun i => g (i * 16)).getD 27 0 : Nat) : Int), .int .u8 ((((List.range 16).map g ++ (List.range 16).map fun i => g (i * 16)).getD 28 0 : Nat) : Int), .int .u8 ((((List.range 16).map g ++ (List.range 16).map fun i => g (i * 16)).getD 29 0 : Nat) : Int), .int .u8 ((((List.range 16).map g ++ (List.range 16).map fun i => g (i * 16)).getD 30 0 : Nat) : Int), .int .u8 ((((List.range 16).map g ++ (List.range 16).map fun i => g (i * 16)).getD 31 0 : Nat) : Int)] : Array Value) = (bytesV ((List.range 16).map g ++ (List.range 16).map fun i => g (i * 16))).toArray := rfl
theorem tabOut_eq (f : Nat) : tabOut f = .agg (bytesV (tab f)).toArray := congrArg Value.agg (out_eq (fun i => Gf.times f i))
theorem tab_cell {w : World} {T : Nat} {t : TypeId} {f : Nat} (h : Blk w T t (bytesV (tab f))) : ∀ i, i < 32 → w.cell? ⟨T, i, none⟩ = some (.int .u8 (tabAt f i : Nat)) := fun i hi => by
  refine h.cell_some ?_
  have : i < (tab f).length := by simp [tab, low, high]; omega
  rw [bytesV_at this, tabAt]; simp [this]
theorem with_out (f b : Nat) (hf : f < 256) (hb : b < 256) (w : World) :
    Calls Tryd.prog 132 #[.agg #[.int .u8 (tabAt f 0 : Nat), .int .u8 (tabAt f 1 : Nat), .int .u8 (tabAt f 2 : Nat), .int .u8 (tabAt f 3 : Nat), .int .u8 (tabAt f 4 : Nat), .int .u8 (tabAt f 5 : Nat), .int .u8 (tabAt f 6 : Nat), .int .u8 (tabAt f 7 : Nat), .int .u8 (tabAt f 8 : Nat), .int .u8 (tabAt f 9 : Nat), .int .u8 (tabAt f 10 : Nat), .int .u8 (tabAt f 11 : Nat), .int .u8 (tabAt f 12 : Nat), .int .u8 (tabAt f 13 : Nat), .int .u8 (tabAt f 14 : Nat), .int .u8 (tabAt f 15 : Nat), .int .u8 (tabAt f 16 : Nat), .int .u8 (tabAt f 17 : Nat), .int .u8 (tabAt f 18 : Nat), .int .u8 (tabAt f 19 : Nat), .int .u8 (tabAt f 20 : Nat), .int .u8 (tabAt f 21 : Nat), .int .u8 (tabAt f 22 : Nat), .int .u8 (tabAt f 23 : Nat), .int .u8 (tabAt f 24 : Nat), .int .u8 (tabAt f 25 : Nat), .int .u8 (tabAt f 26 : Nat), .int .u8 (tabAt f 27 : Nat), .int .u8 (tabAt f 28 : Nat), .int .u8 (tabAt f 29 : Nat), .int .u8 (tabAt f 30 : Nat), .int .u8 (tabAt f 31 : Nat)], .int .u8 b] w fun e w' => e = .returned (.int .u8 (Gf.times f b : Nat)) ∧ Below w.heap.size w w' := by
  have := with_any f b hf hb w
  rw [← tabOut_eq] at this
  exact this
end Go.Proofs.YtmlnejlhgbonpaaDoor.Tab
