import Derived.Test.YtmlnejlhgbonpaaDoorFactors
import Derived.Laws.BytesString
namespace Go.Proofs.YtmlnejlhgbonpaaDoor.Parts
open Go.RowKit Mem FieldWalks Tab ByTab

/-- The string of bytes. -/
def mkS (l : List Nat) : ByteArray := ⟨(l.map UInt8.ofNat).toArray⟩
theorem foldl_push (l : List Nat) : ∀ s : ByteArray, (l.map (Int.ofNat)).foldl (fun r n => r.push (UInt8.ofNat n.toNat)) s = ⟨s.data ++ (l.map UInt8.ofNat).toArray⟩ := by
  induction l with
  | nil => intro s; simp
  | cons n l ih =>
    intro s
    simp only [List.map_cons, List.foldl_cons]
    rw [ih]
    have e : (s.push (UInt8.ofNat (Int.ofNat n).toNat)).data = s.data.push (UInt8.ofNat n) := rfl
    rw [e]
    congr 1
    simp
theorem conv_str (w : World) (v : Value) (l : List Nat) (h : BsAt w v l) : (convert 71 9 v).run Tryd.prog w = .ok (.string (mkS l)) w := by
  obtain ⟨ao, cap, rfl, h1⟩ := h
  rw [run_convert_bytes_string w _ _ 5 ao l.length cap Tryd.underlying71 Tryd.underlying5 Tryd.underlying9]
  cases ao with
  | none =>
    rcases h1 with rfl | ⟨b, off, h, _⟩
    · rfl
    · cases h
  | some a =>
    have hl : (loadCells a l.length).run Tryd.prog w = .ok ((l.map Int.ofNat).map (Value.int .u8)).toArray w := by
      have e : ((l.map Int.ofNat).map (Value.int .u8)).length = l.length := by simp
      rw [← e]
      refine run_loadCells_list (P := Tryd.prog) w a _ (fun j u hu => ?_)
      rcases h1 with rfl | ⟨b, off, h, hlt, hc⟩
      · simp at hu
      · cases h
        have hj : j < l.length := by
          have := (List.getElem?_eq_some_iff.1 hu).1; simpa using this
        rw [Addr.add_lit, hc j hj]
        simp [hj] at hu
        rw [← hu]
    rw [run_bytesToString w a l.length cap (l.map Int.ofNat) hl, foldl_push]
    congr 2
    simp [mkS]

def strV (l : List ByteArray) : List Value := l.map Value.string
theorem infoStr : (Tryd.prog.info? 9).map (fun i => (i.zero, i.size, i.bytes)) = some (some (.string ByteArray.empty), 1, 16) := by kernel_rfl
theorem make_strs (p q : Nat) (hp : p ≤ 1000) (hq : q ≤ 1000) (w : World) :
    (Instr.makeSlice 38 (.int .i64 0) (.int .i64 ((p : Int) + (q : Int)))).run Tryd.prog w = .ok (.slice (some ⟨w.heap.size, 0, none⟩) 0 (p + q)) (w.alloc (.cells (madeCells #[.string ByteArray.empty] (p + q)) 9)) := by
  obtain ⟨i, hi, hz0, hz1, hz2⟩ := info_parts infoStr
  have := run_make (P := Tryd.prog) w 38 9 i (.string ByteArray.empty) Tryd.underlying38 hi hz0 .i64 .i64 0 ((p : Int) + (q : Int)) (by omega) (by omega) (by rw [hz2]; omega) (by omega)
  rw [hz1, show ((p : Int) + (q : Int)).toNat = p + q by omega, Nat.mul_one] at this
  exact this

theorem strs_step (all : List ByteArray) (cap k : Nat) (hc : all.length = cap) (hk : k < cap) : (strV (mix all (List.replicate cap ByteArray.empty) k)).set k (.string (all[k]'(by omega))) = strV (mix all (List.replicate cap ByteArray.empty) (k + 1)) := by
  have := mix_set (new := all) (old := List.replicate cap ByteArray.empty) (k := k) (by simp [hc]) (by simpa using hk)
  rw [← this]; simp [strV, List.map_set]

/-- All pieces, as strings. -/
def texts (ps qs : List (List Nat)) : List ByteArray := (ps ++ qs).map mkS

end Go.Proofs.YtmlnejlhgbonpaaDoor.Parts
