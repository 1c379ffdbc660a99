import Derived.Test.YtmlnejlhgbonpaaDoorParts
namespace Go.Proofs.YtmlnejlhgbonpaaDoor.Parts
open Go.RowKit Mem FieldWalks Tab ByTab

/-- The factors of spare piece i. -/
def facRow (d i : Nat) : List Nat := (List.range d).map fun j => Gf.inv ((d + i) ^^^ j)
def facs (d s : Nat) : List (List Nat) := (List.range s).map (facRow d)
theorem facRow_length (d i : Nat) : (facRow d i).length = d := by simp [facRow]
theorem byte_conv (n : Nat) (h : n < 256) : IntKind.u8.wrap (n : Int) = n := by rw [IntKind.wrap_u8']; omega

set_option maxRecDepth 100000 in
set_option maxHeartbeats 1000000 in
theorem factors_any (d s : Nat) (hd : d ≤ 100) (hs : s ≤ 100) (w : World) (ht : Table w) :
    Calls Tryd.prog 66 #[.int .i64 d, .int .i64 s] w fun e w' => ∃ v, e = .returned v ∧ RowsAt w' v (facs d s) ∧ Below w.heap.size w w' := by
  have hmk := fun w => make_rows s (by omega) w
  have hmb := fun w => make_bytes d (by omega) w
  go_enter Tryd.func66, Tryd.ntmps66
  go_wp2
  go_loopw [12] (fun i wr => ∃ k : Nat, k ≤ s ∧ i = .int .i64 k ∧ Filled wr w.heap.size s k (facRow d) ∧ Below w.heap.size w wr) (fun i _ => s - (intOf i).toNat)
  case atStart => exact ⟨0, Nat.zero_le _, rfl, made_rows _ _ _, (Below.refl _ _).alloc (Nat.le_refl _) _⟩
  case round =>
    obtain ⟨i, hi, rfl, hfl, hbel⟩ := hrel
    by_cases hlt : i < s
    · obtain ⟨⟨v0, hv0⟩, hfr⟩ := (hfl.to ((Below.refl _ _).alloc (Nat.le_refl _) (.cells (madeCells #[.int .u8 0] d) 5))).cell hlt
      have hBlt := hfl.lt
      have HF : Hid (Filled wr w.heap.size s i (facRow d)) := hfl
      clear hfl
      go_wp2
      obtain ⟨wo, rfl⟩ : ∃ wo, wo = wr := ⟨_, rfl⟩
      clear hv0 hfr
      have hsz := hbel.size
      go_loopw [21] (fun t wq => ∃ k : Nat, k ≤ d ∧ t = .int .i64 k ∧ Laid wo wq w.heap.size i (.slice (some ⟨wo.heap.size, 0, none⟩) d d) ∧ Blk wq wo.heap.size 5 (bytesV (mix (facRow d i) (List.replicate d 0) k)) ∧ Below w.heap.size w wq) (fun t _ => d - (intOf t).toNat)
      case atStart =>
        refine ⟨0, Nat.zero_le _, rfl, Laid.start wo _ _ _ _ hBlt, ?_, ?_⟩
        · rw [mix_zero]
          have := made_bytes (wo.setCell ⟨w.heap.size, i, none⟩ (.slice (some ⟨wo.heap.size, 0, none⟩) d d)) d
          rw [size_setCell] at this
          exact this
        · exact (hbel.setCell (Nat.le_refl _) _).alloc (by rw [size_setCell]; exact hsz) _
      case round =>
        obtain ⟨j, hj, rfl, hlaid, hblk, hbq⟩ := hrel
        by_cases hjlt : j < d
        · obtain ⟨hc1, _⟩ := hlaid.cell HF.out hlt
          have hlf : (facRow d i).length = (List.replicate d 0).length := by simp [facRow]
          have hc2 := hblk.cell_some (k := j) (v := .int .u8 0) (by rw [mix_bytes, mix_at (by simp [facRow]) (by simpa using hjlt)]; simp [bytesV])
          have hf2 := hblk.free j
          obtain ⟨x, hx⟩ : ∃ x, x = (d + i) ^^^ j := ⟨_, rfl⟩
          have hxb : x < 256 := by rw [hx]; exact Gf.xor_lt (by omega) (by omega)
          have EX : Hid (IntKind.u8.wrap (bits .xor .i64 (IntKind.i64.wrap ((d : Int) + (i : Int))) (j : Int)) = (x : Int)) := by
            show _ = _
            rw [show (d : Int) + (i : Int) = ((d + i : Nat) : Int) by omega, show IntKind.i64.wrap ((d + i : Nat) : Int) = ((d + i : Nat) : Int) by rw [IntKind.wrap_i64]; omega, Gf.i64_xor _ _ (by omega) (by omega), ← hx]
            exact byte_conv x hxb
          have HX : Hid (x = (d + i) ^^^ j) := hx
          have hT := table_to ht hbq
          have HLA : Hid _ := hlaid
          have HB : Hid (Blk wr wo.heap.size 5 (bytesV (mix (facRow d i) (List.replicate d 0) j))) := hblk
          have HT : Hid (Table wr) := hT
          clear hx hlaid hblk hT hlf
          go_wp2_with fail
          go_region_with (go_at_call 44; rw [EX.out]; refine (inv_any x hxb _ (by exact HT.out)).mono ?_; rintro e w2 ⟨rfl, rfl⟩)
          all_goals
            go_wp2
            go_roundw
            case rel =>
              refine ⟨j + 1, by omega, by go_num, (HLA.out.setCell (Nat.le_refl _) hBlt _).drew, ?_, (hbq.setCell (by exact hsz) _).drew⟩
              have e := mix_set (k := j) (new := facRow d i) (old := List.replicate d 0) (by simp [facRow]) (by simpa using hjlt)
              refine (HB.out.set j _).drew.eq ?_
              rw [bytesV_set, ← e, HX.out]
              simp [facRow]
            case measure => simp [intOf]; omega
        · obtain rfl : j = d := by omega
          go_wp2
          have R : Filled wr w.heap.size s (i + 1) (facRow j) := by
            refine hlaid.filled HF.out hlt ⟨wo.heap.size, by rw [facRow_length], hblk.eq ?_⟩
            have e := mix_all (new := facRow j i) (old := List.replicate j 0) (by simp [facRow])
            simp only [List.length_replicate] at e
            rw [e]
          go_roundw
          case rel => exact ⟨i + 1, by omega, by go_num, R, hbq⟩
          case measure => simp [intOf]; omega
    · obtain rfl : i = s := by omega
      go_wp2
      go_ret
      refine ⟨_, rfl, hfl.rows (by simp [facs]) (fun i hi => ?_), hbel⟩
      simp [facs]
end Go.Proofs.YtmlnejlhgbonpaaDoor.Parts
