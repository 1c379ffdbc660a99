import Derived.Test.YtokmllopbfmadaaGreatDoorGNPiece2
import Derived.Laws.BytesString
import Derived.Test.YtokmllopbfmadaaGreatDoorGField
import Derived.WalkSpells
namespace Go.Proofs.YtokmllopbfmadaaGreatDoor.Parts
open Go.RowKit Mem FieldWalks Tab ByTab

/-- The factors of spare piece i. -/
def facRow (d i : Nat) : List Nat := (List.range d).map fun j => Gf.inv ((d + i) ^^^ j)
def facs (d s : Nat) : List (List Nat) := (List.range s).map (facRow d)
theorem facRow_length (d i : Nat) : (facRow d i).length = d := by simp [facRow]
theorem byte_conv (n : Nat) (h : n < 256) : IntKind.u8.wrap (n : Int) = n := by rw [IntKind.wrap_u8']; omega

set_option maxRecDepth 100000 in
set_option maxHeartbeats 1000000 in
theorem factors_any (d s : Nat) (hd : d ≤ 100) (hs : s ≤ 100) (w : World) (ht : Table w) :
    Calls Tryz.prog 44 #[.int .i64 d, .int .i64 s] w fun e w' => ∃ v, e = .returned v ∧ RowsAt w' v (facs d s) ∧ Below w.heap.size w w' := by
  have hmk := fun w => make_rows s (by omega) w
  have hmb := fun w => make_bytes d (by omega) w
  go_enter Tryz.func44, Tryz.ntmps44
  go_wp2
  go_loopw [12] (fun i wr => ∃ k : Nat, k ≤ s ∧ i = .int .i64 k ∧ Filled wr w.heap.size s k (facRow d) ∧ Below w.heap.size w wr) (fun i _ => s - (intOf i).toNat)
  case atStart => exact ⟨0, Nat.zero_le _, rfl, made_rows _ _ _, (Below.refl _ _).alloc (Nat.le_refl _) _⟩
  case round =>
    obtain ⟨i, hi, rfl, hfl, hbel⟩ := hrel
    by_cases hlt : i < s
    · obtain ⟨⟨v0, hv0⟩, hfr⟩ := (hfl.to ((Below.refl _ _).alloc (Nat.le_refl _) (.cells (madeCells #[.int .u8 0] d) 5))).cell hlt
      have hBlt := hfl.lt
      have HF : Hid (Filled wr w.heap.size s i (facRow d)) := hfl
      clear hfl
      go_wp2
      obtain ⟨wo, rfl⟩ : ∃ wo, wo = wr := ⟨_, rfl⟩
      clear hv0 hfr
      have hsz := hbel.size
      go_loopw [21] (fun t wq => ∃ k : Nat, k ≤ d ∧ t = .int .i64 k ∧ Laid wo wq w.heap.size i (.slice (some ⟨wo.heap.size, 0, none⟩) d d) ∧ Blk wq wo.heap.size 5 (bytesV (mix (facRow d i) (List.replicate d 0) k)) ∧ Below w.heap.size w wq) (fun t _ => d - (intOf t).toNat)
      case atStart =>
        refine ⟨0, Nat.zero_le _, rfl, Laid.start wo _ _ _ _ hBlt, ?_, ?_⟩
        · rw [mix_zero]
          have := made_bytes (wo.setCell ⟨w.heap.size, i, none⟩ (.slice (some ⟨wo.heap.size, 0, none⟩) d d)) d
          rw [size_setCell] at this
          exact this
        · exact (hbel.setCell (Nat.le_refl _) _).alloc (by rw [size_setCell]; exact hsz) _
      case round =>
        obtain ⟨j, hj, rfl, hlaid, hblk, hbq⟩ := hrel
        by_cases hjlt : j < d
        · obtain ⟨hc1, _⟩ := hlaid.cell HF.out hlt
          have hlf : (facRow d i).length = (List.replicate d 0).length := by simp [facRow]
          have hc2 := hblk.cell_some (k := j) (v := .int .u8 0) (by rw [mix_bytes, mix_at (by simp [facRow]) (by simpa using hjlt)]; simp [bytesV])
          have hf2 := hblk.free j
          obtain ⟨x, hx⟩ : ∃ x, x = (d + i) ^^^ j := ⟨_, rfl⟩
          have hxb : x < 256 := by rw [hx]; exact Gf.xor_lt (by omega) (by omega)
          have EX : Hid (IntKind.u8.wrap (bits .xor .i64 (IntKind.i64.wrap ((d : Int) + (i : Int))) (j : Int)) = (x : Int)) := by
            show _ = _
            rw [show (d : Int) + (i : Int) = ((d + i : Nat) : Int) by omega, show IntKind.i64.wrap ((d + i : Nat) : Int) = ((d + i : Nat) : Int) by rw [IntKind.wrap_i64]; omega, Gf.i64_xor _ _ (by omega) (by omega), ← hx]
            exact byte_conv x hxb
          have HX : Hid (x = (d + i) ^^^ j) := hx
          have hT := table_to ht hbq
          have HLA : Hid _ := hlaid
          have HB : Hid (Blk wr wo.heap.size 5 (bytesV (mix (facRow d i) (List.replicate d 0) j))) := hblk
          have HT : Hid (Table wr) := hT
          clear hx hlaid hblk hT hlf
          go_wp2_with fail
          go_region_with (go_at_call 69; rw [EX.out]; refine (inv_any x hxb _ (by exact HT.out)).mono ?_; rintro e w2 ⟨rfl, rfl⟩)
          all_goals
            go_wp2
            go_roundw
            case rel =>
              refine ⟨j + 1, by omega, by go_num, (HLA.out.setCell (Nat.le_refl _) hBlt _).drew, ?_, (hbq.setCell (by exact hsz) _).drew⟩
              have e := mix_set (k := j) (new := facRow d i) (old := List.replicate d 0) (by simp [facRow]) (by simpa using hjlt)
              refine (HB.out.set j _).drew.eq ?_
              rw [bytesV_set, ← e, HX.out]
              simp [facRow]
            case measure => simp [intOf]; omega
        · obtain rfl : j = d := by omega
          go_wp2
          have R : Filled wr w.heap.size s (i + 1) (facRow j) := by
            refine hlaid.filled HF.out hlt ⟨wo.heap.size, by rw [facRow_length], hblk.eq ?_⟩
            have e := mix_all (new := facRow j i) (old := List.replicate j 0) (by simp [facRow])
            simp only [List.length_replicate] at e
            rw [e]
          go_roundw
          case rel => exact ⟨i + 1, by omega, by go_num, R, hbq⟩
          case measure => simp [intOf]; omega
    · obtain rfl : i = s := by omega
      go_wp2
      go_ret
      refine ⟨_, rfl, hfl.rows (by simp [facs]) (fun i hi => ?_), hbel⟩
      simp [facs]
end Go.Proofs.YtokmllopbfmadaaGreatDoor.Parts

namespace Go.Proofs.YtokmllopbfmadaaGreatDoor.Parts
open Go.RowKit Mem FieldWalks Tab ByTab

/-- The string of bytes. -/
def mkS (l : List Nat) : ByteArray := ⟨(l.map UInt8.ofNat).toArray⟩
theorem foldl_push (l : List Nat) : ∀ s : ByteArray, (l.map (Int.ofNat)).foldl (fun r n => r.push (UInt8.ofNat n.toNat)) s = ⟨s.data ++ (l.map UInt8.ofNat).toArray⟩ := by
  induction l with
  | nil => intro s; simp
  | cons n l ih =>
    intro s
    simp only [List.map_cons, List.foldl_cons]
    rw [ih]
    have e : (s.push (UInt8.ofNat (Int.ofNat n).toNat)).data = s.data.push (UInt8.ofNat n) := rfl
    rw [e]
    congr 1
    simp
theorem conv_str (w : World) (v : Value) (l : List Nat) (h : BsAt w v l) : (convert 85 9 v).run Tryz.prog w = .ok (.string (mkS l)) w := by
  obtain ⟨ao, cap, rfl, h1⟩ := h
  rw [run_convert_bytes_string w _ _ 5 ao l.length cap Tryz.underlying85 Tryz.underlying5 Tryz.underlying9]
  cases ao with
  | none =>
    rcases h1 with rfl | ⟨b, off, h, _⟩
    · rfl
    · cases h
  | some a =>
    have hl : (loadCells a l.length).run Tryz.prog w = .ok ((l.map Int.ofNat).map (Value.int .u8)).toArray w := by
      have e : ((l.map Int.ofNat).map (Value.int .u8)).length = l.length := by simp
      rw [← e]
      refine run_loadCells_list (P := Tryz.prog) w a _ (fun j u hu => ?_)
      rcases h1 with rfl | ⟨b, off, h, hlt, hc⟩
      · simp at hu
      · cases h
        have hj : j < l.length := by
          have := (List.getElem?_eq_some_iff.1 hu).1; simpa using this
        rw [Addr.add_lit, hc j hj]
        simp [hj] at hu
        rw [← hu]
    rw [run_bytesToString w a l.length cap (l.map Int.ofNat) hl, foldl_push]
    congr 2
    simp [mkS]

def strV (l : List ByteArray) : List Value := l.map Value.string
theorem infoStr : (Tryz.prog.info? 9).map (fun i => (i.zero, i.size, i.bytes)) = some (some (.string ByteArray.empty), 1, 16) := by kernel_rfl
theorem make_strs (p q : Nat) (hp : p ≤ 1000) (hq : q ≤ 1000) (w : World) :
    (Instr.makeSlice 48 (.int .i64 0) (.int .i64 ((p : Int) + (q : Int)))).run Tryz.prog w = .ok (.slice (some ⟨w.heap.size, 0, none⟩) 0 (p + q)) (w.alloc (.cells (madeCells #[.string ByteArray.empty] (p + q)) 9)) := by
  obtain ⟨i, hi, hz0, hz1, hz2⟩ := info_parts infoStr
  have := run_make (P := Tryz.prog) w 48 9 i (.string ByteArray.empty) Tryz.underlying48 hi hz0 .i64 .i64 0 ((p : Int) + (q : Int)) (by omega) (by omega) (by rw [hz2]; omega) (by omega)
  rw [hz1, show ((p : Int) + (q : Int)).toNat = p + q by omega, Nat.mul_one] at this
  exact this

theorem strs_step (all : List ByteArray) (cap k : Nat) (hc : all.length = cap) (hk : k < cap) : (strV (mix all (List.replicate cap ByteArray.empty) k)).set k (.string (all[k]'(by omega))) = strV (mix all (List.replicate cap ByteArray.empty) (k + 1)) := by
  have := mix_set (new := all) (old := List.replicate cap ByteArray.empty) (k := k) (by simp [hc]) (by simpa using hk)
  rw [← this]; simp [strV, List.map_set]

/-- All pieces, as strings. -/
def texts (ps qs : List (List Nat)) : List ByteArray := (ps ++ qs).map mkS

end Go.Proofs.YtokmllopbfmadaaGreatDoor.Parts

namespace Go.Proofs.YtokmllopbfmadaaGreatDoor.FieldWalks
open Go.RowKit

/-- May the counts be? Is it a way? -/
def okCounts (d s : Int) : Bool := decide (1 ≤ d ∧ d ≤ 10 ∧ 0 ≤ s ∧ s ≤ 6)
def okWay (w : Int) : Bool := decide (0 ≤ w ∧ w ≤ 2)

theorem okCounts_no (d s : Int) (h : ¬ (1 ≤ d ∧ d ≤ 10 ∧ 0 ≤ s ∧ s ≤ 6)) : okCounts d s = false := by simp [okCounts]; omega
theorem okCounts_yes (d s : Int) (h : 1 ≤ d ∧ d ≤ 10 ∧ 0 ≤ s ∧ s ≤ 6) : okCounts d s = true := by simp [okCounts]; omega
theorem okWay_no (w : Int) (h : ¬ (0 ≤ w ∧ w ≤ 2)) : okWay w = false := by simp [okWay]; omega
theorem okWay_yes (w : Int) (h : 0 ≤ w ∧ w ≤ 2) : okWay w = true := by simp [okWay]; omega

set_option maxHeartbeats 400000 in
theorem areCounts_any (d s : Int) (w : World) : Calls Tryz.prog 53 #[.int .i64 d, .int .i64 s] w fun e w' => e = .returned (.bool (okCounts d s)) ∧ w' = w := by
  by_cases h1 : 1 ≤ d
  · by_cases h2 : d ≤ 10
    · by_cases h3 : 0 ≤ s
      · by_cases h4 : s ≤ 6
        · rw [okCounts_yes d s ⟨h1, h2, h3, h4⟩]
          go_enter Tryz.func53, Tryz.ntmps53
          go_wp2
          go_ret
          exact ⟨rfl, rfl⟩
        · rw [okCounts_no d s (by omega)]
          go_enter Tryz.func53, Tryz.ntmps53
          go_wp2
          go_ret
          exact ⟨rfl, rfl⟩
      · rw [okCounts_no d s (by omega)]
        go_enter Tryz.func53, Tryz.ntmps53
        go_wp2
        go_ret
        exact ⟨rfl, rfl⟩
    · rw [okCounts_no d s (by omega)]
      go_enter Tryz.func53, Tryz.ntmps53
      go_wp2
      go_ret
      exact ⟨rfl, rfl⟩
  · rw [okCounts_no d s (by omega)]
    go_enter Tryz.func53, Tryz.ntmps53
    go_wp2
    go_ret
    exact ⟨rfl, rfl⟩
set_option maxHeartbeats 400000 in
theorem rCounts_any (d s : Int) (w : World) : Calls Tryz.prog 47 #[.int .i64 d, .int .i64 s] w fun e w' => e = .returned (.bool (okCounts d s)) ∧ w' = w := by
  by_cases h1 : 1 ≤ d
  · by_cases h2 : d ≤ 10
    · by_cases h3 : 0 ≤ s
      · by_cases h4 : s ≤ 6
        · rw [okCounts_yes d s ⟨h1, h2, h3, h4⟩]
          go_enter Tryz.func47, Tryz.ntmps47
          go_wp2
          go_ret
          exact ⟨rfl, rfl⟩
        · rw [okCounts_no d s (by omega)]
          go_enter Tryz.func47, Tryz.ntmps47
          go_wp2
          go_ret
          exact ⟨rfl, rfl⟩
      · rw [okCounts_no d s (by omega)]
        go_enter Tryz.func47, Tryz.ntmps47
        go_wp2
        go_ret
        exact ⟨rfl, rfl⟩
    · rw [okCounts_no d s (by omega)]
      go_enter Tryz.func47, Tryz.ntmps47
      go_wp2
      go_ret
      exact ⟨rfl, rfl⟩
  · rw [okCounts_no d s (by omega)]
    go_enter Tryz.func47, Tryz.ntmps47
    go_wp2
    go_ret
    exact ⟨rfl, rfl⟩
theorem rWay_any (x : Int) (w : World) : Calls Tryz.prog 37 #[.int .i64 x] w fun e w' => e = .returned (.bool (okWay x)) ∧ w' = w := by
  by_cases h1 : 0 ≤ x
  · by_cases h2 : x ≤ 2
    · rw [okWay_yes x ⟨h1, h2⟩]
      go_enter Tryz.func37, Tryz.ntmps37
      go_wp2
      go_ret
      exact ⟨rfl, rfl⟩
    · rw [okWay_no x (by omega)]
      go_enter Tryz.func37, Tryz.ntmps37
      go_wp2
      go_ret
      exact ⟨rfl, rfl⟩
  · rw [okWay_no x (by omega)]
    go_enter Tryz.func37, Tryz.ntmps37
    go_wp2
    go_ret
    exact ⟨rfl, rfl⟩
theorem isWay_any (x : Int) (w : World) : Calls Tryz.prog 33 #[.int .i64 x] w fun e w' => e = .returned (.bool (okWay x)) ∧ w' = w := by
  by_cases h0 : x = 0
  · subst h0
    rw [show okWay 0 = true from rfl]
    go_enter Tryz.func33, Tryz.ntmps33
    go_wp2
    go_ret
    exact ⟨rfl, rfl⟩
  · by_cases h1 : x = 1
    · subst h1
      rw [show okWay 1 = true from rfl]
      go_enter Tryz.func33, Tryz.ntmps33
      go_wp2
      go_ret
      exact ⟨rfl, rfl⟩
    · by_cases h2 : x = 2
      · subst h2
        rw [show okWay 2 = true from rfl]
        go_enter Tryz.func33, Tryz.ntmps33
        go_wp2
        go_ret
        exact ⟨rfl, rfl⟩
      · rw [okWay_no x (by omega)]
        have b0 : (x == 0) = false := by rw [beq_eq_false_iff_ne]; exact h0
        have b1 : (x == 1) = false := by rw [beq_eq_false_iff_ne]; exact h1
        have b2 : (x == 2) = false := by rw [beq_eq_false_iff_ne]; exact h2
        go_enter Tryz.func33, Tryz.ntmps33
        go_wp2
        go_ret
        exact ⟨rfl, rfl⟩
end Go.Proofs.YtokmllopbfmadaaGreatDoor.FieldWalks

namespace Go.Proofs.YtokmllopbfmadaaGreatDoor.Ref
open Go.RowKit Mem FieldWalks Tab ByTab Parts
open Gf (Bytes sumTo addTo)

set_option maxRecDepth 100000 in
theorem factor_any (d i j : Nat) (hd : d ≤ 100) (hi : i ≤ 100) (hj : j < d) (w : World) :
    Calls Tryz.prog 50 #[.int .i64 d, .int .i64 i, .int .i64 j] w fun e w' => e = .returned (.int .i64 (Gf.inv ((d + i) ^^^ j) : Nat)) ∧ w' = w := by
  obtain ⟨x, hx⟩ : ∃ x, x = (d + i) ^^^ j := ⟨_, rfl⟩
  have hxb : x < 256 := by rw [hx]; exact Gf.xor_lt (by omega) (by omega)
  have hx0 : x ≠ 0 := by
    intro h0; rw [hx] at h0
    have e : (d + i) ^^^ (d + i) = (d + i) ^^^ j := by rw [Nat.xor_self, h0]
    have := congrArg ((d + i) ^^^ ·) e
    simp only [Gf.xcl] at this; omega
  have ex : bits .xor .i64 ((d : Int) + (i : Int)) (j : Int) = (x : Int) := by
    rw [show (d : Int) + (i : Int) = ((d + i : Nat) : Int) by omega, Gf.i64_xor _ _ (by omega) (by omega), ← hx]
  have H0 : Hid (x ≠ 0) := hx0
  rw [← hx]
  clear hx hx0
  go_enter Tryz.func50, Tryz.ntmps50
  go_wp2_with fail
  refine (over_any x hxb H0.out _).mono ?_
  rintro e w' ⟨rfl, rfl⟩
  go_wp2
  go_ret
  exact ⟨rfl, rfl⟩
theorem size_any (d n : Nat) (hd : 0 < d) (hd2 : d ≤ 100) (hn : n ≤ 1000) (w : World) :
    Calls Tryz.prog 49 #[.int .i64 d, .int .i64 n] w fun e w' => e = .returned (.int .i64 ((n + d - 1) / d : Nat)) ∧ w' = w := by
  go_enter Tryz.func49, Tryz.ntmps49
  go_wp2
  go_ret
  refine ⟨?_, rfl⟩
  show Ending.returned (.int .i64 (((n : Int) + d - 1) / d)) = _
  rw [ceil_cast n d hd]

/-- The slice v reads as these strings; they lie in blocks from B on. -/
def StrsNew (w : World) (B : Nat) (v : Value) (ss : List ByteArray) : Prop :=
  ∃ ao cap, v = .slice ao ss.length cap ∧ (ss = [] ∨ ∃ b off, ao = some ⟨b, off, none⟩ ∧ B ≤ b ∧ b < w.heap.size ∧ ∀ k, (h : k < ss.length) → w.cell? ⟨b, off + k, none⟩ = some (.string ss[k]))
theorem StrsNew.at {w : World} {B : Nat} {v : Value} {ss : List ByteArray} (h : StrsNew w B v ss) : StrsAt w v ss := by
  obtain ⟨ao, cap, rfl, h⟩ := h
  refine ⟨ao, cap, rfl, ?_⟩
  rcases h with h | ⟨b, off, rfl, _, h1, h2⟩
  · exact .inl h
  · exact .inr ⟨b, off, rfl, h1, h2⟩
theorem StrsNew.low {w : World} {B C : Nat} {v : Value} {ss : List ByteArray} (h : StrsNew w B v ss) (hC : C ≤ B) : StrsNew w C v ss := by
  obtain ⟨ao, cap, rfl, h⟩ := h
  refine ⟨ao, cap, rfl, ?_⟩
  rcases h with h | ⟨b, off, rfl, h0, h1, h2⟩
  · exact .inl h
  · exact .inr ⟨b, off, rfl, Nat.le_trans hC h0, h1, h2⟩
theorem StrsNew.of_owns {w : World} {base : Nat} {t : TypeId} {v : Value} {n : Nat} {ss : List ByteArray} (h : w.ownsRow base t 1 v n (ss.map Value.string)) : StrsNew w base v ss := by
  obtain ⟨hl, h2⟩ := h
  simp only [List.length_map, Nat.mul_one] at hl
  rcases h2 with ⟨rfl, h0⟩ | ⟨g, cap, cur, rfl, hg, hh, _, _, _, ht⟩
  · exact ⟨none, 0, by rw [hl, h0], .inl (List.eq_nil_of_length_eq_zero (by omega))⟩
  · refine ⟨_, cap, by rw [hl], .inr ⟨g, 0, rfl, hg, lt_of_block hh, fun k hk => ?_⟩⟩
    rw [Nat.zero_add, cell_of_row w g k cur t (0, 0) hh]
    rw [Nat.mul_one] at ht
    have : (cur.toList.take n)[k]? = some (.string ss[k]) := by rw [ht]; simp [hk]
    rw [List.getElem?_take] at this
    split at this
    · simpa using this
    · cases this
def strsTo (ls : List (List Nat)) (k : Nat) : List Value := ((ls.take k).map mkS).map Value.string
theorem strsTo_next (ls : List (List Nat)) (k : Nat) (hk : k < ls.length) : strsTo ls k ++ [.string (mkS ls[k])] = strsTo ls (k + 1) := by
  unfold strsTo
  rw [List.take_add_one, List.getElem?_eq_getElem hk, List.map_append, List.map_append]; rfl
theorem next_data (ps qs : List (List Nat)) (k : Nat) (hk : k < ps.length) : strsTo (ps ++ qs) k ++ [.string (mkS ps[k])] = strsTo (ps ++ qs) (k + 1) := by
  rw [← strsTo_next (ps ++ qs) k (by simp; omega), List.getElem_append_left hk]
theorem next_spare (ps qs : List (List Nat)) (i : Nat) (hi : i < qs.length) : strsTo (ps ++ qs) (ps.length + i) ++ [.string (mkS qs[i])] = strsTo (ps ++ qs) (ps.length + (i + 1)) := by
  rw [← Nat.add_assoc, ← strsTo_next (ps ++ qs) (ps.length + i) (by simp; omega), List.getElem_append_right (by omega)]
  simp

theorem facRow_bytes (d i : Nat) (h : d + i < 256) : Bytes (facRow d i) := by
  intro x hx
  simp only [facRow, List.mem_map, List.mem_range] at hx
  obtain ⟨j, hj, rfl⟩ := hx
  exact Gf.inv_lt _ (Gf.xor_lt h (by omega))

set_option maxRecDepth 100000 in
set_option maxHeartbeats 2000000 in
theorem all_any (ps : List (List Nat)) (L s : Nat) (pv : Value) (w : World) (hp : RowsAt w pv ps) (hne : 0 < ps.length) (hn : ps.length ≤ 100) (hs : s ≤ 100)
    (hl : ∀ j, (h : j < ps.length) → ps[j].length = L) (hb : ∀ j, (h : j < ps.length) → Bytes ps[j]) (hL : L ≤ 1000) :
    Calls Tryz.prog 55 #[pv, .int .i64 s] w fun e w' => ∃ v, e = .returned v ∧ StrsNew w' w.heap.size v (texts ps (sums (facs ps.length s) ps L)) ∧ Below w.heap.size w w' := by
  obtain ⟨pb, poff, pcap, rfl, hplt, hpc⟩ := hp.pos hne
  have HPC : Hid (∀ k, (h : k < ps.length) → ∃ u, w.cell? ⟨pb, poff + k, none⟩ = some u ∧ BsAt w u ps[k]) := hpc
  obtain ⟨qs, hqs⟩ : ∃ qs, qs = sums (facs ps.length s) ps L := ⟨_, rfl⟩
  have HQS : Hid (qs = sums (facs ps.length s) ps L) := hqs
  rw [← hqs]
  clear hpc hp hqs
  go_enter Tryz.func55, Tryz.ntmps55
  go_wp2
  go_loopw [6, 7] (fun t i wr => ∃ k : Nat, k ≤ ps.length ∧ i = .int .i64 k ∧ wr.ownsRow w.heap.size 9 1 t k (strsTo (ps ++ qs) k) ∧ Below w.heap.size w wr) (fun _ i _ => ps.length - (intOf i).toNat)
  case atStart => exact ⟨0, Nat.zero_le _, rfl, World.ownsRow_nil _ _ _ _, Below.refl _ _⟩
  case round =>
    obtain ⟨k, hk, rfl, hown, hbel⟩ := hrel
    by_cases hlt : k < ps.length
    · obtain ⟨u, hu, hbs⟩ := HPC.out k hlt
      rw [← hbel.cell (p := ⟨pb, poff + k, none⟩) hplt] at hu
      have HBS : Hid (BsAt wr u ps[k]) := hbs.to hbel
      have hsz := hbel.size
      clear hbs
      have HNX : Hid (strsTo (ps ++ qs) k ++ [.string (mkS ps[k])] = strsTo (ps ++ qs) (k + 1)) := next_data ps qs k hlt
      go_wp2_with (first | (at_builtin; refine wpList_append_one _ rfl _ _ 48 rfl w.heap.size 9 (.string ByteArray.empty) 16 Tryz.underlying48 infoStr rfl (by decide) _ k _ rfl (hown.alloc _) ⟨wr.heap.size, 0, none⟩ 1 (.string (mkS ps[k])) rfl ((Blk.new wr _ _).cell_some rfl) rfl (by omega) (by simp; omega) ?_; rw [HNX.out]; intro v' w' hown' hbel') | refine wpList_convert _ rfl 85 9 _ rfl u (.string (mkS ps[k])) rfl (conv_str _ _ _ HBS.out) ?_)
      go_roundw
      case rel => exact ⟨k + 1, by omega, by go_num, hown', hbel' _ _ (hbel.alloc hsz _) (Nat.le_refl _)⟩
      case measure => simp [intOf]; omega
    · obtain rfl : k = ps.length := by omega
      obtain ⟨wo, rfl⟩ : ∃ wo, wo = wr := ⟨_, rfl⟩
      go_wp2
      obtain ⟨u0, hu0, ao0, cap0, rfl, hx0⟩ := HPC.out 0 hne
      rw [hl 0 hne, Nat.add_zero] at hu0
      have HU0 : Hid (w.cell? ⟨pb, poff, none⟩ = some (.slice ao0 L cap0)) := hu0
      have hmk := fun w => make_bytes L (by omega) w
      clear hu0 hx0
      go_loopw [6, 8] (fun t i wr => ∃ k : Nat, k ≤ s ∧ i = .int .i64 k ∧ wr.ownsRow w.heap.size 9 1 t (ps.length + k) (strsTo (ps ++ qs) (ps.length + k)) ∧ Below w.heap.size w wr) (fun _ i _ => s - (intOf i).toNat)
      case atStart => exact ⟨0, Nat.zero_le _, rfl, hown, hbel⟩
      case round =>
        clear hown hbel
        obtain ⟨k, hk, rfl, hown, hbel⟩ := hrel
        obtain ⟨wi, rfl⟩ : ∃ wi, wi = wr := ⟨_, rfl⟩
        by_cases hlt : k < s
        · have hu0 := HU0.out
          rw [← hbel.cell (p := ⟨pb, poff, none⟩) hplt] at hu0
          have hszi := hbel.size
          go_wp2
          clear hu0
          go_loopw [10] (fun jv wq => ∃ j : Nat, j ≤ ps.length ∧ jv = .int .i64 j ∧ Blk wq wi.heap.size 5 (bytesV (sumTo (facRow ps.length k) ps L j)) ∧ Below wi.heap.size wi wq) (fun jv _ => ps.length - (intOf jv).toNat)
          case atStart => exact ⟨0, Nat.zero_le _, rfl, made_bytes wi L, (Below.refl _ _).alloc (Nat.le_refl _) _⟩
          case round =>
            obtain ⟨j, hj, rfl, hblk, hbq⟩ := hrel
            obtain ⟨wj, rfl⟩ : ∃ wj, wj = wr := ⟨_, rfl⟩
            by_cases hjlt : j < ps.length
            · go_wp2_with fail
              refine (factor_any ps.length k j hn (by omega) hjlt _).mono ?_
              rintro e w' ⟨rfl, rfl⟩
              obtain ⟨F, hF⟩ : ∃ F, F = Gf.inv ((ps.length + k) ^^^ j) := ⟨_, rfl⟩
              have hFb : F < 256 := by rw [hF]; exact Gf.inv_lt _ (Gf.xor_lt (by omega) (by omega))
              have HF : Hid (F = Gf.inv ((ps.length + k) ^^^ j)) := hF
              rw [← hF]
              clear hF
              go_wp2
              have hfr : (facRow ps.length k)[j]'(by rw [facRow_length]; exact hjlt) = F := by rw [HF.out]; simp [facRow]
              obtain ⟨u, hu, ao, cap, rfl, hx⟩ := HPC.out j hjlt
              rw [hl j hjlt] at hu
              have HU : Hid (w.cell? ⟨pb, poff + j, none⟩ = some (.slice ao L cap)) := hu
              have HX : Hid (ps[j] = [] ∨ ∃ b off, ao = some ⟨b, off, none⟩ ∧ b < w.heap.size ∧ ∀ k, (h : k < ps[j].length) → w.cell? ⟨b, off + k, none⟩ = some (.int .u8 (ps[j][k] : Nat))) := hx
              have HFR : Hid ((facRow ps.length k)[j]'(by rw [facRow_length]; exact hjlt) = F) := hfr
              clear hu hx hfr
              go_loopw [12] (fun tv wt => ∃ t : Nat, t ≤ L ∧ tv = .int .i64 t ∧ Blk wt wi.heap.size 5 (bytesV (mix (sumTo (facRow ps.length k) ps L (j + 1)) (sumTo (facRow ps.length k) ps L j) t)) ∧ Below wi.heap.size wi wt) (fun tv _ => L - (intOf tv).toNat)
              case atStart => exact ⟨0, Nat.zero_le _, rfl, by rw [mix_zero]; exact hblk, hbq⟩
              case round =>
                clear hblk hbq
                obtain ⟨t, ht, rfl, hblk, hbq⟩ := hrel
                by_cases htlt : t < L
                · have hbw : Below w.heap.size w wr := hbel.trans (hbq.mono hszi)
                  obtain ⟨o, x, b, off, rfl, ho, hxb, hcx, hcs, hset⟩ := round_facts (facRow ps.length k) ps L j t F w wr wi.heap.size ao hjlt (by rw [facRow_length]; exact Nat.le_refl _) hl (facRow_bytes _ _ (by omega)) hb HFR.out HX.out htlt hbw hblk
                  have hu := HU.out
                  rw [← hbw.cell (p := ⟨pb, poff + j, none⟩) hplt] at hu
                  have hfs := hblk.free t
                  have EV : Hid (bits .xor .i64 (o : Int) ((Gf.times F x : Nat) : Int) % 256 = bits .xor .u8 (o : Int) ((Gf.times F x : Nat) : Int)) := by
                    have hl1 := Gf.times_lt F x hFb
                    show _ = _
                    rw [Gf.i64_xor _ _ (by omega) (by omega), u8_xor_nat _ _ ho hl1]
                    rw [← IntKind.wrap_u8']; exact byte_conv _ (Gf.xor_lt ho hl1)
                  have hwx : IntKind.i64.wrap (x : Int) = x := by rw [IntKind.wrap_i64]; omega
                  have hwo : IntKind.i64.wrap (o : Int) = o := by rw [IntKind.wrap_i64]; omega
                  have HSET : Hid _ := hset
                  have HB : Hid (Blk wr wi.heap.size 5 (bytesV (mix (sumTo (facRow ps.length k) ps L (j + 1)) (sumTo (facRow ps.length k) ps L j) t))) := hblk
                  clear hset hblk
                  go_wp2_with fail
                  go_region_with (go_at_call 51; refine (times_any F x hFb hxb _).mono ?_; rintro e w2 ⟨rfl, rfl⟩)
                  all_goals
                    go_wp2
                    go_roundw
                    case rel =>
                      refine ⟨t + 1, by omega, by go_num, ?_, (hbq.setCell (Nat.le_refl _) _).drew⟩
                      refine (HB.out.set t _).drew.eq ?_
                      rw [EV.out]
                      exact HSET.out
                    case measure => simp [intOf]; omega
                · obtain rfl : t = L := by omega
                  go_wp2
                  have R : Blk wr wi.heap.size 5 (bytesV (sumTo (facRow ps.length k) ps t (j + 1))) := by
                    refine hblk.eq ?_
                    have l0 : (sumTo (facRow ps.length k) ps t j).length = t := Gf.sumTo_length _ ps t hl _ (by omega)
                    have l1 : (sumTo (facRow ps.length k) ps t (j + 1)).length = t := Gf.sumTo_length _ ps t hl _ (by omega)
                    have e := mix_all (show (sumTo (facRow ps.length k) ps t (j + 1)).length = (sumTo (facRow ps.length k) ps t j).length by omega)
                    rw [l0] at e
                    rw [e]
                  go_roundw
                  case rel => exact ⟨j + 1, by omega, by go_num, R, hbq⟩
                  case measure => simp [intOf]; omega
            · obtain rfl : j = ps.length := by omega
              have hkq : k < qs.length := by rw [HQS.out]; simp [sums, facs]; exact hlt
              have hqk : qs[k]'hkq = sumTo (facRow ps.length k) ps L ps.length := by simp [HQS.out, sums, facs]
              have HNX : Hid (strsTo (ps ++ qs) (ps.length + k) ++ [.string (mkS qs[k])] = strsTo (ps ++ qs) (ps.length + (k + 1))) := next_spare ps qs k hkq
              have hlen : (sumTo (facRow ps.length k) ps L ps.length).length = L := Gf.sumTo_length _ ps L hl _ (Nat.le_refl _)
              have HBS : Hid (BsAt wj (.slice (some ⟨wi.heap.size, 0, none⟩) L L) qs[k]) := by
                show BsAt _ _ _
                rw [hqk]
                exact BsAt.of_blk hblk _ _ hlen.symm
              have hownj := ownsRow_to hown hbq
              have hszj := hbq.size
              have hbelj : Below w.heap.size w wj := hbel.trans (hbq.mono hszi)
              clear hqk hlen hblk hown
              go_wp2_with (first | (at_builtin; refine wpList_append_one _ rfl _ _ 48 rfl w.heap.size 9 (.string ByteArray.empty) 16 Tryz.underlying48 infoStr rfl (by decide) _ (ps.length + k) _ rfl (hownj.alloc _) ⟨wj.heap.size, 0, none⟩ 1 (.string (mkS qs[k])) rfl ((Blk.new wj _ _).cell_some rfl) rfl (by omega) (by simp; omega) ?_; rw [HNX.out]; intro v' w' hown' hbel') | refine wpList_convert _ rfl 85 9 _ rfl (.slice (some ⟨wi.heap.size, 0, none⟩) L L) (.string (mkS qs[k])) rfl (conv_str _ _ _ HBS.out) ?_)
              go_roundw
              case rel => exact ⟨k + 1, by omega, by go_num, hown', hbel' _ _ (hbelj.alloc (by omega) _) (Nat.le_refl _)⟩
              case measure => simp [intOf]; omega
        · obtain rfl : k = s := by omega
          go_wp2
          go_ret
          refine ⟨_, rfl, StrsNew.of_owns (base := w.heap.size) (t := 9) (n := ps.length + k) ?_, hbel⟩
          have hq : qs.length = k := by rw [HQS.out]; simp [sums, facs]
          have e : strsTo (ps ++ qs) (ps.length + k) = (texts ps qs).map Value.string := by
            unfold strsTo texts
            rw [List.take_of_length_le (by simp; omega)]
          rw [← e]
          exact hown
end Go.Proofs.YtokmllopbfmadaaGreatDoor.Ref
