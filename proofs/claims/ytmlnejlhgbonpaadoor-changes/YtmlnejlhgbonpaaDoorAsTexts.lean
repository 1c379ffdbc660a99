import Derived.Test.YtmlnejlhgbonpaaDoorTexts
namespace Go.Proofs.YtmlnejlhgbonpaaDoor.Parts
open Go.RowKit Mem FieldWalks Tab ByTab

theorem make_strN (n : Nat) (hp : n ≤ 1000) (w : World) :
    (Instr.makeSlice 38 (.int .i64 (n : Int)) (.int .i64 (n : Int))).run Tryd.prog w = .ok (.slice (some ⟨w.heap.size, 0, none⟩) n n) (w.alloc (.cells (madeCells #[.string ByteArray.empty] n) 9)) := by
  obtain ⟨i, hi, hz0, hz1, hz2⟩ := info_parts infoStr
  have := run_make (P := Tryd.prog) w 38 9 i (.string ByteArray.empty) Tryd.underlying38 hi hz0 .i64 .i64 (n : Int) (n : Int) (by omega) (by omega) (by rw [hz2]; omega) (by omega)
  rw [hz1, show ((n : Int)).toNat = n by omega, Nat.mul_one] at this
  exact this

set_option maxRecDepth 100000 in
set_option maxHeartbeats 1000000 in
theorem asTexts_any (ps : List (List Nat)) (pv : Value) (w : World) (hp : RowsAt w pv ps) (hlp : ps.length ≤ 100) :
    Calls Tryd.prog 83 #[pv] w fun e w' => ∃ b, w.heap.size ≤ b ∧ e = .returned (.slice (some ⟨b, 0, none⟩) ps.length ps.length) ∧ Blk w' b 9 (strV (ps.map mkS)) ∧ Below w.heap.size w w' := by
  obtain ⟨pao, pcap, rfl, hpc⟩ := hp
  have hmk := fun w => make_strN ps.length (by omega) w
  have HPC : Hid (ps = [] ∨ ∃ b off, pao = some ⟨b, off, none⟩ ∧ b < w.heap.size ∧ ∀ k, (h : k < ps.length) → ∃ u, w.cell? ⟨b, off + k, none⟩ = some u ∧ BsAt w u ps[k]) := hpc
  have HTL : Hid ((ps.map mkS).length = ps.length) := List.length_map mkS
  clear hpc
  go_enter Tryd.func83, Tryd.ntmps83
  go_wp2
  go_loopw [11] (fun i wr => ∃ k : Nat, k ≤ ps.length ∧ i = .int .i64 k ∧ Blk wr w.heap.size 9 (strV (mix (ps.map mkS) (List.replicate ps.length ByteArray.empty) k)) ∧ Below w.heap.size w wr) (fun i _ => ps.length - (intOf i).toNat)
  case atStart =>
    refine ⟨0, Nat.zero_le _, rfl, (Blk.new w _ _).eq ?_, (Below.refl _ _).alloc (Nat.le_refl _) _⟩
    rw [toList_madeCells_one, mix_zero]; simp [strV]
  case round =>
    obtain ⟨k, hk, rfl, hblk, hbel⟩ := hrel
    by_cases hlt : k < ps.length
    · obtain ⟨b, off, rfl, hb, hc⟩ : ∃ b off, pao = some ⟨b, off, none⟩ ∧ b < w.heap.size ∧ ∀ k, (h : k < ps.length) → ∃ u, w.cell? ⟨b, off + k, none⟩ = some u ∧ BsAt w u ps[k] := by
        rcases HPC.out with h | h
        · rw [h] at hlt; simp at hlt
        · exact h
      obtain ⟨u, hu, hbs⟩ := hc k hlt
      rw [← hbel.cell (p := ⟨b, off + k, none⟩) hb] at hu
      have HBS : Hid (BsAt wr u ps[k]) := hbs.to hbel
      have hl1 : k < (strV (mix (ps.map mkS) (List.replicate ps.length ByteArray.empty) k)).length := by simp [strV, mix_length, HTL.out]; omega
      have hc1 := hblk.cell_some (List.getElem?_eq_getElem hl1)
      have hf1 := hblk.free k
      generalize (strV (mix (ps.map mkS) (List.replicate ps.length ByteArray.empty) k))[k] = old at hc1
      have HB : Hid (Blk wr w.heap.size 9 (strV (mix (ps.map mkS) (List.replicate ps.length ByteArray.empty) k))) := hblk
      have hBlt := hblk.lt
      clear hc hbs hblk hl1
      go_wp2_with (refine wpList_convert _ rfl 71 9 _ rfl u (.string (mkS ps[k])) rfl (conv_str _ _ _ HBS.out) ?_)
      go_roundw
      case rel =>
        refine ⟨k + 1, by omega, by go_num, ?_, ?_⟩
        · refine ((HB.out.set k _)).eq ?_
          have e := strs_step (ps.map mkS) ps.length k HTL.out (by omega)
          rw [← e]
          simp
        · exact hbel.setCell (Nat.le_refl _) _
      case measure => simp [intOf]; omega
    · obtain rfl : k = ps.length := by omega
      go_wp2
      go_ret
      refine ⟨w.heap.size, Nat.le_refl _, rfl, hblk.eq ?_, hbel⟩
      have e := mix_all (new := ps.map mkS) (old := List.replicate ps.length ByteArray.empty) (by simp)
      simp only [List.length_replicate] at e
      rw [e]
end Go.Proofs.YtmlnejlhgbonpaaDoor.Parts
