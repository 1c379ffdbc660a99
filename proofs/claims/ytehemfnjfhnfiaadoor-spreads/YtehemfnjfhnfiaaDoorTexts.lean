import Derived.Test.YtehemfnjfhnfiaaDoorFactors
import Derived.Laws.BytesString
namespace Go.Proofs.YtehemfnjfhnfiaaDoor.Parts
open Go.RowKit Mem FieldWalks Tab ByTab

/-- The string of bytes. -/
def mkS (l : List Nat) : ByteArray := ⟨(l.map UInt8.ofNat).toArray⟩
theorem foldl_push (l : List Nat) : ∀ s : ByteArray, (l.map (Int.ofNat)).foldl (fun r n => r.push (UInt8.ofNat n.toNat)) s = ⟨s.data ++ (l.map UInt8.ofNat).toArray⟩ := by
  induction l with
  | nil => intro s; simp
  | cons n l ih =>
    intro s
    simp only [List.map_cons, List.foldl_cons]
    rw [ih]
    have e : (s.push (UInt8.ofNat (Int.ofNat n).toNat)).data = s.data.push (UInt8.ofNat n) := rfl
    rw [e]
    congr 1
    simp
theorem conv_str (w : World) (v : Value) (l : List Nat) (h : BsAt w v l) : (convert 64 9 v).run Tryd.prog w = .ok (.string (mkS l)) w := by
  obtain ⟨ao, cap, rfl, h1⟩ := h
  rw [run_convert_bytes_string w _ _ 5 ao l.length cap Tryd.underlying64 Tryd.underlying5 Tryd.underlying9]
  cases ao with
  | none =>
    rcases h1 with rfl | ⟨b, off, h, _⟩
    · rfl
    · cases h
  | some a =>
    have hl : (loadCells a l.length).run Tryd.prog w = .ok ((l.map Int.ofNat).map (Value.int .u8)).toArray w := by
      have e : ((l.map Int.ofNat).map (Value.int .u8)).length = l.length := by simp
      rw [← e]
      refine run_loadCells_list (P := Tryd.prog) w a _ (fun j u hu => ?_)
      rcases h1 with rfl | ⟨b, off, h, hlt, hc⟩
      · simp at hu
      · cases h
        have hj : j < l.length := by
          have := (List.getElem?_eq_some_iff.1 hu).1; simpa using this
        rw [Addr.add_lit, hc j hj]
        simp [hj] at hu
        rw [← hu]
    rw [run_bytesToString w a l.length cap (l.map Int.ofNat) hl, foldl_push]
    congr 2
    simp [mkS]

def strV (l : List ByteArray) : List Value := l.map Value.string
theorem infoStr : (Tryd.prog.info? 9).map (fun i => (i.zero, i.size, i.bytes)) = some (some (.string ByteArray.empty), 1, 16) := by kernel_rfl
theorem make_strs (p q : Nat) (hp : p ≤ 1000) (hq : q ≤ 1000) (w : World) :
    (Instr.makeSlice 38 (.int .i64 0) (.int .i64 ((p : Int) + (q : Int)))).run Tryd.prog w = .ok (.slice (some ⟨w.heap.size, 0, none⟩) 0 (p + q)) (w.alloc (.cells (madeCells #[.string ByteArray.empty] (p + q)) 9)) := by
  obtain ⟨i, hi, hz0, hz1, hz2⟩ := info_parts infoStr
  have := run_make (P := Tryd.prog) w 38 9 i (.string ByteArray.empty) Tryd.underlying38 hi hz0 .i64 .i64 0 ((p : Int) + (q : Int)) (by omega) (by omega) (by rw [hz2]; omega) (by omega)
  rw [hz1, show ((p : Int) + (q : Int)).toNat = p + q by omega, Nat.mul_one] at this
  exact this

theorem strs_step (all : List ByteArray) (cap k : Nat) (hc : all.length = cap) (hk : k < cap) : (strV (mix all (List.replicate cap ByteArray.empty) k)).set k (.string (all[k]'(by omega))) = strV (mix all (List.replicate cap ByteArray.empty) (k + 1)) := by
  have := mix_set (new := all) (old := List.replicate cap ByteArray.empty) (k := k) (by simp [hc]) (by simpa using hk)
  rw [← this]; simp [strV, List.map_set]

/-- All pieces, as strings. -/
def texts (ps qs : List (List Nat)) : List ByteArray := (ps ++ qs).map mkS

set_option maxRecDepth 100000 in
set_option maxHeartbeats 1000000 in
theorem asTexts_any (ps qs : List (List Nat)) (pv qv : Value) (w : World) (hp : RowsAt w pv ps) (hq : RowsAt w qv qs) (hlp : ps.length ≤ 100) (hlq : qs.length ≤ 100) :
    Calls Tryd.prog 36 #[pv, qv] w fun e w' => ∃ b, w.heap.size ≤ b ∧ e = .returned (.slice (some ⟨b, 0, none⟩) (ps.length + qs.length) (ps.length + qs.length)) ∧ Blk w' b 9 (strV (texts ps qs)) ∧ Below w.heap.size w w' := by
  obtain ⟨pao, pcap, rfl, hpc⟩ := hp
  obtain ⟨qao, qcap, rfl, hqc⟩ := hq
  have hmk := fun w => make_strs ps.length qs.length (by omega) (by omega) w
  obtain ⟨i0, hi, hz0, hz1, hz2⟩ := info_parts infoStr
  have HPC : Hid (ps = [] ∨ ∃ b off, pao = some ⟨b, off, none⟩ ∧ b < w.heap.size ∧ ∀ k, (h : k < ps.length) → ∃ u, w.cell? ⟨b, off + k, none⟩ = some u ∧ BsAt w u ps[k]) := hpc
  have HQC : Hid (qs = [] ∨ ∃ b off, qao = some ⟨b, off, none⟩ ∧ b < w.heap.size ∧ ∀ k, (h : k < qs.length) → ∃ u, w.cell? ⟨b, off + k, none⟩ = some u ∧ BsAt w u qs[k]) := hqc
  have HI : Hid (Tryd.prog.info? 9 = some i0) := hi
  have HZ : Hid (i0.size = 1) := hz1
  have htl : (texts ps qs).length = ps.length + qs.length := by simp [texts]
  have HTL : Hid _ := htl
  clear hpc hqc hi hz0 hz1 hz2 htl
  go_enter Tryd.func36, Tryd.ntmps36
  go_wp2
  go_loopw [5, 18] (fun t i wr => ∃ k : Nat, k ≤ ps.length ∧ i = .int .i64 k ∧ t = .slice (some ⟨w.heap.size, 0, none⟩) k (ps.length + qs.length) ∧ Blk wr w.heap.size 9 (strV (mix (texts ps qs) (List.replicate (ps.length + qs.length) ByteArray.empty) k)) ∧ Below w.heap.size w wr) (fun _ i _ => ps.length - (intOf i).toNat)
  case atStart =>
    refine ⟨0, Nat.zero_le _, rfl, rfl, (Blk.new w _ _).eq ?_, (Below.refl _ _).alloc (Nat.le_refl _) _⟩
    rw [toList_madeCells_one, mix_zero]; simp [strV]
  case round =>
    obtain ⟨k, hk, rfl, rfl, hblk, hbel⟩ := hrel
    by_cases hlt : k < ps.length
    · obtain ⟨b, off, rfl, hb, hc⟩ : ∃ b off, pao = some ⟨b, off, none⟩ ∧ b < w.heap.size ∧ ∀ k, (h : k < ps.length) → ∃ u, w.cell? ⟨b, off + k, none⟩ = some u ∧ BsAt w u ps[k] := by
        rcases HPC.out with h | h
        · rw [h] at hlt; simp at hlt
        · exact h
      obtain ⟨u, hu, hbs⟩ := hc k hlt
      rw [← hbel.cell (p := ⟨b, off + k, none⟩) hb] at hu
      have HBS : Hid (BsAt wr u ps[k]) := hbs.to hbel
      have hl1 : k < (strV (mix (texts ps qs) (List.replicate (ps.length + qs.length) ByteArray.empty) k)).length := by simp [strV, mix_length, HTL.out]; omega
      have hc1 := hblk.cell_some (List.getElem?_eq_getElem hl1)
      have hf1 := hblk.free k
      generalize (strV (mix (texts ps qs) (List.replicate (ps.length + qs.length) ByteArray.empty) k))[k] = old at hc1
      have HB : Hid (Blk wr w.heap.size 9 (strV (mix (texts ps qs) (List.replicate (ps.length + qs.length) ByteArray.empty) k))) := hblk
      have hBlt := hblk.lt
      clear hc hbs hblk hl1
      go_wp2_with (refine wpList_convert _ rfl 64 9 _ rfl u (.string (mkS ps[k])) rfl (conv_str _ _ _ HBS.out) ?_)
      go_roundw
      case rel =>
        refine ⟨k + 1, by omega, by go_num, by go_num, ?_, ?_⟩
        · refine ((HB.out.set k _).alloc _).eq ?_
          have e := strs_step (texts ps qs) (ps.length + qs.length) k HTL.out (by omega)
          rw [← e]
          simp [texts, hlt]
        · exact (hbel.setCell (Nat.le_refl _) _).alloc (by rw [size_setCell]; exact hbel.size) _
      case measure => simp [intOf]; omega
    · obtain rfl : k = ps.length := by omega
      obtain ⟨wo, rfl⟩ : ∃ wo, wo = wr := ⟨_, rfl⟩
      go_wp2
      go_loopw [5, 30] (fun t i wr => ∃ k : Nat, k ≤ qs.length ∧ i = .int .i64 k ∧ t = .slice (some ⟨w.heap.size, 0, none⟩) (ps.length + k) (ps.length + qs.length) ∧ Blk wr w.heap.size 9 (strV (mix (texts ps qs) (List.replicate (ps.length + qs.length) ByteArray.empty) (ps.length + k))) ∧ Below w.heap.size w wr) (fun _ i _ => qs.length - (intOf i).toNat)
      case atStart => exact ⟨0, Nat.zero_le _, rfl, rfl, hblk, hbel⟩
      case round =>
        clear hblk hbel
        obtain ⟨k, hk, rfl, rfl, hblk, hbel⟩ := hrel
        by_cases hlt : k < qs.length
        · obtain ⟨b, off, rfl, hb, hc⟩ : ∃ b off, qao = some ⟨b, off, none⟩ ∧ b < w.heap.size ∧ ∀ k, (h : k < qs.length) → ∃ u, w.cell? ⟨b, off + k, none⟩ = some u ∧ BsAt w u qs[k] := by
            rcases HQC.out with h | h
            · rw [h] at hlt; simp at hlt
            · exact h
          obtain ⟨u, hu, hbs⟩ := hc k hlt
          rw [← hbel.cell (p := ⟨b, off + k, none⟩) hb] at hu
          have HBS : Hid (BsAt wr u qs[k]) := hbs.to hbel
          have hl1 : ps.length + k < (strV (mix (texts ps qs) (List.replicate (ps.length + qs.length) ByteArray.empty) (ps.length + k))).length := by simp [strV, mix_length, HTL.out]; omega
          have hc1 := hblk.cell_some (List.getElem?_eq_getElem hl1)
          have hf1 := hblk.free (ps.length + k)
          generalize (strV (mix (texts ps qs) (List.replicate (ps.length + qs.length) ByteArray.empty) (ps.length + k)))[ps.length + k] = old at hc1
          have HB : Hid (Blk wr w.heap.size 9 (strV (mix (texts ps qs) (List.replicate (ps.length + qs.length) ByteArray.empty) (ps.length + k)))) := hblk
          have hBlt := hblk.lt
          clear hc hbs hblk hl1
          go_wp2_with (refine wpList_convert _ rfl 64 9 _ rfl u (.string (mkS qs[k])) rfl (conv_str _ _ _ HBS.out) ?_)
          go_roundw
          case rel =>
            refine ⟨k + 1, by omega, by go_num, by go_num, ?_, ?_⟩
            · refine ((HB.out.set (ps.length + k) _).alloc _).eq ?_
              have e := strs_step (texts ps qs) (ps.length + qs.length) (ps.length + k) HTL.out (by omega)
              rw [← Nat.add_assoc, ← e]
              simp [texts]
            · exact (hbel.setCell (Nat.le_refl _) _).alloc (by rw [size_setCell]; exact hbel.size) _
          case measure => simp [intOf]; omega
        · obtain rfl : k = qs.length := by omega
          go_wp2
          go_ret
          refine ⟨w.heap.size, Nat.le_refl _, rfl, hblk.eq ?_, hbel⟩
          have e := mix_all (new := texts ps qs) (old := List.replicate (ps.length + qs.length) ByteArray.empty) (by simp [HTL.out])
          simp only [List.length_replicate] at e
          rw [e]
end Go.Proofs.YtehemfnjfhnfiaaDoor.Parts
