import Derived.Test.YtokmllopbfmadaaDoorGPInv
import Derived.Test.YtokmllopbfmadaaDoorGRefPacked
import Derived.Test.YtokmllopbfmadaaDoorGMem
import Derived.Test.YtokmllopbfmadaaDoorGParts
import Derived.Test.YtokmllopbfmadaaDoorGConcat
namespace Go.Proofs.YtokmllopbfmadaaDoor.Ref
open Go.RowKit Mem FieldWalks Tab ByTab Parts
open Gf (Bytes chosen left_ rowOf enough)
open Plans (But rowF intsV infoInt)

theorem filter_split (P : Nat → Bool) (j n : Nat) (h : j ≤ n) : (List.range n).filter P = (List.range j).filter P ++ (List.range' j (n - j)).filter P := by
  rw [← List.filter_append]
  congr 1
  have := List.range'_append_1 (s := 0) (m := j) (n := n - j)
  rw [Nat.zero_add] at this
  rw [List.range_eq_range', List.range_eq_range', this]
  congr 1; omega
theorem filter_at (P : Nat → Bool) (j n : Nat) (h : j < n) (hP : P j = true) : ((List.range n).filter P)[((List.range j).filter P).length]? = some j := by
  rw [filter_split P j n (by omega), List.getElem?_append_right (Nat.le_refl _), Nat.sub_self]
  rw [show n - j = (n - j - 1) + 1 by omega, List.range'_succ, List.filter_cons, if_pos hP]
  rfl
theorem filter_next (P : Nat → Bool) (j : Nat) : (List.range (j + 1)).filter P = (List.range j).filter P ++ (if P j = true then [j] else []) := by
  rw [List.range_succ, List.filter_append]
  congr 1
  simp [List.filter_cons]
theorem chosen_of_full (N : Nat → Bool) (d s p : Nat) (hp : p ≤ d + s) (h : ((List.range p).filter N).length = d) : chosen N d s = (List.range p).filter N := by
  unfold chosen
  rw [filter_split N p (d + s) hp]
  exact List.take_left' h
theorem chosen_at (N : Nat → Bool) (d s j : Nat) (hj : j < d) (hN : N j = true) : (chosen N d s)[((List.range j).filter N).length]? = some j := by
  have h1 : ((List.range j).filter N).length ≤ j := by have := List.length_filter_le N (List.range j); simpa using this
  unfold chosen
  rw [List.getElem?_take_of_lt (by omega)]
  exact filter_at N j (d + s) (by omega) hN

theorem make_none (d : Nat) (hd : d ≤ 1000) (w : World) :
    (Instr.makeSlice 45 (.int .i64 0) (.int .i64 (d : Int))).run Tryd.prog w = .ok (.slice (some ⟨w.heap.size, 0, none⟩) 0 d) (w.alloc (.cells (madeCells #[.int .i64 0] d) 3)) := by
  obtain ⟨i, hi, hz0, hz1, hz2⟩ := info_parts infoInt
  have := run_make (P := Tryd.prog) w 45 3 i (.int .i64 0) Tryd.underlying45 hi hz0 .i64 .i64 0 (d : Int) (by omega) (by omega) (by rw [hz2]; omega) (by omega)
  rw [hz1, show ((d : Int)).toNat = d by omega, Nat.mul_one] at this
  exact this
/-- The list, then noughts. -/
def pad (l : List Nat) (d : Nat) : List Nat := l ++ List.replicate (d - l.length) 0
theorem pad_set (l : List Nat) (d p : Nat) (h : l.length < d) : (intsV (pad l d)).set l.length (.int .i64 (p : Nat)) = intsV (pad (l ++ [p]) d) := by
  unfold pad
  obtain ⟨m, hm⟩ : ∃ m, d - l.length = m + 1 := ⟨d - l.length - 1, by omega⟩
  rw [hm, List.length_append, List.length_singleton, show d - (l.length + 1) = m by omega, List.replicate_succ]
  simp [intsV, List.set_append_right]
theorem pad_at (l : List Nat) (d : Nat) (h : l.length < d) : (intsV (pad l d))[l.length]? = some (.int .i64 0) := by
  unfold pad
  obtain ⟨m, hm⟩ : ∃ m, d - l.length = m + 1 := ⟨d - l.length - 1, by omega⟩
  rw [hm, List.replicate_succ]
  simp [intsV]

set_option maxRecDepth 100000 in
set_option maxHeartbeats 1000000 in
theorem firstLeft_any (d s : Nat) (lost : List Int) (lv : Value) (w : World) (hl : IsC w lv lost) (hd : 1 ≤ d) (hd2 : d ≤ 10) (hs : s ≤ 6) (hfew : lost.length ≤ s) :
    Calls Tryd.prog 110 #[.int .i64 d, lv] w fun e w' => ∃ b, w.heap.size ≤ b ∧ e = .returned (.slice (some ⟨b, 0, none⟩) d d) ∧ Blk w' b 3 (intsV (chosen (left_ lost) d s)) ∧ Below w.heap.size w w' := by
  have HL : Hid (IsC w lv lost) := hl
  have HEN : Hid (d ≤ ((List.range (d + s)).filter (left_ lost)).length) := enough d s lost hfew
  have hmk := fun w => make_none d (by omega) w
  clear hl
  go_enter Tryd.func110, Tryd.ntmps110
  go_wp2
  go_loopw [5, 6] (fun t i wr => ∃ p k : Nat, p ≤ d + s ∧ i = .int .i64 p ∧ t = .slice (some ⟨w.heap.size, 0, none⟩) k d ∧ k = ((List.range p).filter (left_ lost)).length ∧ k ≤ d ∧ Blk wr w.heap.size 3 (intsV (pad ((List.range p).filter (left_ lost)) d)) ∧ Below w.heap.size w wr) (fun _ i _ => d + s - (intOf i).toNat)
  case atStart =>
    refine ⟨0, 0, Nat.zero_le _, rfl, rfl, rfl, Nat.zero_le _, (Blk.new w _ _).eq ?_, (Below.refl _ _).alloc (Nat.le_refl _) _⟩
    rw [toList_madeCells_one]; simp [intsV, pad]
  case round =>
    obtain ⟨p, k, hp, rfl, rfl, hk, hkd, hblk, hbel⟩ := hrel
    by_cases hlt : k < d
    · have hps : p < d + s := by
        apply Classical.byContradiction
        intro hc
        have : p = d + s := by omega
        have := HEN.out
        subst p
        omega
      have HIC : Hid (IsC wr lv lost) := HL.out.to hbel
      have hlb : lost.length < 2 ^ 62 := by omega
      by_cases hm : (p : Int) ∈ lost
      · have HD : Hid (decide ((p : Int) ∈ lost) = true) := decide_eq_true hm
        have hle : left_ lost p = false := by simp [left_, hm]
        have HF : Hid ((List.range (p + 1)).filter (left_ lost) = (List.range p).filter (left_ lost)) := by
          show _ = _
          rw [filter_next, hle]; simp
        have HK : Hid (k = ((List.range p).filter (left_ lost)).length) := hk
        have HB : Hid (Blk wr w.heap.size 3 (intsV (pad ((List.range p).filter (left_ lost)) d))) := hblk
        clear hk hblk hm hle
        go_wp2_with (go_at_call 109; refine (contains_any lost p lv _ HIC.out hlb).mono ?_; rintro e w' ⟨rfl, rfl⟩; rw [HD.out])
        go_roundw
        case rel => exact ⟨p + 1, k, by omega, by go_num, rfl, by rw [HF.out]; exact HK.out, hkd, by rw [HF.out]; exact HB.out, hbel⟩
        case measure => simp [intOf]; omega
      · have HD : Hid (decide ((p : Int) ∈ lost) = false) := decide_eq_false hm
        have hle : left_ lost p = true := by simp [left_, hm]
        have HF : Hid ((List.range (p + 1)).filter (left_ lost) = (List.range p).filter (left_ lost) ++ [p]) := by
          show _ = _
          rw [filter_next, hle]; simp
        have hc1 := hblk.cell_some (k := k) (by rw [hk]; exact pad_at _ d (by omega))
        have hf1 := hblk.free k
        have HK : Hid (k = ((List.range p).filter (left_ lost)).length) := hk
        have HB : Hid (Blk wr w.heap.size 3 (intsV (pad ((List.range p).filter (left_ lost)) d))) := hblk
        have hBlt := hblk.lt
        have HP : Hid ((intsV (pad ((List.range p).filter (left_ lost)) d)).set k (.int .i64 (p : Nat)) = intsV (pad ((List.range p).filter (left_ lost) ++ [p]) d)) := by
          show _ = _
          rw [hk]; exact pad_set _ d p (by omega)
        clear hk hblk hm hle
        go_wp2_with (go_at_call 109; refine (contains_any lost p lv _ HIC.out hlb).mono ?_; rintro e w' ⟨rfl, rfl⟩; rw [HD.out])
        go_roundw
        case rel => exact ⟨p + 1, k + 1, by omega, by go_num, rfl, by rw [HF.out, List.length_append, ← HK.out]; rfl, by omega, by rw [HF.out, ← HP.out]; exact (HB.out.set k _).alloc _, (hbel.setCell (Nat.le_refl _) _).alloc (by rw [size_setCell]; exact hbel.size) _⟩
        case measure => simp [intOf]; omega
    · obtain rfl : d = k := by omega
      have HC : Hid (chosen (left_ lost) d s = (List.range p).filter (left_ lost)) := chosen_of_full _ d s p hp hk.symm
      have HB : Hid (Blk wr w.heap.size 3 (intsV (chosen (left_ lost) d s))) := by
        have := hblk
        rw [pad, ← hk, Nat.sub_self, List.replicate_zero, List.append_nil, ← HC.out] at this
        exact this
      clear hk hblk
      go_wp2
      go_ret
      exact ⟨w.heap.size, Nat.le_refl _, rfl, HB.out, hbel⟩
end Go.Proofs.YtokmllopbfmadaaDoor.Ref

/- The factors, in new memory: what a call that writes elsewhere keeps. -/
namespace Go.Proofs.YtokmllopbfmadaaDoor.Parts
open Go.RowKit Mem FieldWalks Tab ByTab

/-- The first i rows of the list at B lie in blocks from base on. -/
def Above (w : World) (B i base : Nat) : Prop := ∀ k, k < i → ∃ b n c, w.cell? ⟨B, k, none⟩ = some (.slice (some ⟨b, 0, none⟩) n c) ∧ base ≤ b
theorem Above.laid {w W : World} {B n i base b m c : Nat} {f : Nat → List Nat} (h : Above w B i base) (hl : Laid w W B i (.slice (some ⟨b, 0, none⟩) m c)) (hf : Filled w B n i f) (hi : i < n) (hb : base ≤ b) : Above W B (i + 1) base := by
  intro k hk
  by_cases e : k = i
  · subst e
    exact ⟨b, m, c, (hl.cell hf hi).1, hb⟩
  · obtain ⟨b', m', c', hc, hb'⟩ := h k (by omega)
    refine ⟨b', m', c', ?_, hb'⟩
    rw [World.cell?_of_block (w := w.setCell ⟨B, i, none⟩ _) (a := ⟨B, k, none⟩) hl.row, World.cell?_setCell_other _ _ _ _ (by intro h; injection h; omega)]
    exact hc
/-- The slice v reads as these rows; all of it lies in blocks from base on. -/
def RowsNew (w : World) (base : Nat) (v : Value) (rows : List (List Nat)) : Prop :=
  ∃ g c, v = .slice (some ⟨g, 0, none⟩) rows.length c ∧ base ≤ g ∧ g < w.heap.size ∧ ∀ k, (h : k < rows.length) → ∃ b c', base ≤ b ∧ b < w.heap.size ∧ w.cell? ⟨g, k, none⟩ = some (.slice (some ⟨b, 0, none⟩) rows[k].length c') ∧ ∀ j, (hj : j < rows[k].length) → w.cell? ⟨b, j, none⟩ = some (.int .u8 (rows[k][j] : Nat))
/-- All blocks from base on are as they were. -/
def Over (base : Nat) (w w' : World) : Prop := w.heap.size ≤ w'.heap.size ∧ ∀ b, base ≤ b → b < w.heap.size → w'.heap[b]? = w.heap[b]?
theorem Over.refl (base : Nat) (w : World) : Over base w w := ⟨Nat.le_refl _, fun _ _ _ => rfl⟩
theorem Over.to {base : Nat} {w w' w'' : World} (h : Over base w w') (hb : Below w'.heap.size w' w'') : Over base w w'' :=
  ⟨Nat.le_trans h.1 hb.size, fun b h1 h2 => (hb.block b (Nat.lt_of_lt_of_le h2 h.1)).trans (h.2 b h1 h2)⟩
theorem Over.setCell {base : Nat} {w w' : World} (h : Over base w w') {a : Addr} (ha : a.block < base) (v : Value) : Over base w (w'.setCell a v) :=
  ⟨by rw [size_setCell]; exact h.1, fun b h1 h2 => (Below.heap_setCell w' a v b (by omega)).trans (h.2 b h1 h2)⟩
theorem Over.drew {base : Nat} {w w' : World} (h : Over base w w') : Over base w w'.drew := h
theorem RowsNew.over {w w' : World} {base : Nat} {v : Value} {rows : List (List Nat)} (h : RowsNew w base v rows) (ho : Over base w w') : RowsNew w' base v rows := by
  obtain ⟨g, c, rfl, h1, h2, h3⟩ := h
  refine ⟨g, c, rfl, h1, Nat.lt_of_lt_of_le h2 ho.1, fun k hk => ?_⟩
  obtain ⟨b, c', b1, b2, b3, b4⟩ := h3 k hk
  exact ⟨b, c', b1, Nat.lt_of_lt_of_le b2 ho.1, by rw [World.cell?_of_block (ho.2 g h1 h2)]; exact b3, fun j hj => by rw [World.cell?_of_block (ho.2 b b1 b2)]; exact b4 j hj⟩
theorem RowsNew.rows {w : World} {base : Nat} {v : Value} {rows : List (List Nat)} (h : RowsNew w base v rows) : RowsAt w v rows := by
  obtain ⟨g, c, rfl, h1, h2, h3⟩ := h
  refine ⟨_, c, rfl, .inr ⟨g, 0, rfl, h2, fun k hk => ?_⟩⟩
  obtain ⟨b, c', b1, b2, b3, b4⟩ := h3 k hk
  exact ⟨_, by rw [Nat.zero_add]; exact b3, _, c', rfl, .inr ⟨b, 0, rfl, b2, fun j hj => by rw [Nat.zero_add]; exact b4 j hj⟩⟩
theorem filled_rowsNew {w : World} {B n base : Nat} {f : Nat → List Nat} (h : Filled w B n n f) (ha : Above w B n base) (hB : base ≤ B) {rows : List (List Nat)} (hr : rows.length = n) (he : ∀ k, (h : k < rows.length) → rows[k] = f k) : RowsNew w base (.slice (some ⟨B, 0, none⟩) n n) rows := by
  refine ⟨B, n, by rw [hr], hB, h.lt, fun k hk => ?_⟩
  obtain ⟨u, hu, b, rfl, hb⟩ := h.row (k := k) (by omega)
  obtain ⟨b', m', c', hc, hb'⟩ := ha k (by omega)
  rw [hu] at hc
  injection hc with hc
  injection hc with hc _ _
  injection hc with hc
  injection hc with hc
  subst hc
  rw [← he k hk] at hu hb
  exact ⟨b, _, hb', hb.lt, hu, fun j hj => hb.cell_some (bytesV_at hj)⟩

set_option maxRecDepth 100000 in
set_option maxHeartbeats 1000000 in
theorem factors_new (d s : Nat) (hd : d ≤ 100) (hs : s ≤ 100) (w : World) (ht : Table w) :
    Calls Tryd.prog 71 #[.int .i64 d, .int .i64 s] w fun e w' => ∃ v, e = .returned v ∧ RowsNew w' w.heap.size v (facs d s) ∧ Below w.heap.size w w' := by
  have hmk := fun w => make_rows s (by omega) w
  have hmb := fun w => make_bytes d (by omega) w
  go_enter Tryd.func71, Tryd.ntmps71
  go_wp2
  go_loopw [12] (fun i wr => ∃ k : Nat, k ≤ s ∧ i = .int .i64 k ∧ Filled wr w.heap.size s k (facRow d) ∧ Above wr w.heap.size k w.heap.size ∧ Below w.heap.size w wr) (fun i _ => s - (intOf i).toNat)
  case atStart => exact ⟨0, Nat.zero_le _, rfl, made_rows _ _ _, fun k hk => by omega, (Below.refl _ _).alloc (Nat.le_refl _) _⟩
  case round =>
    obtain ⟨i, hi, rfl, hfl, habove, hbel⟩ := hrel
    by_cases hlt : i < s
    · obtain ⟨⟨v0, hv0⟩, hfr⟩ := (hfl.to ((Below.refl _ _).alloc (Nat.le_refl _) (.cells (madeCells #[.int .u8 0] d) 5))).cell hlt
      have hBlt := hfl.lt
      have HF : Hid (Filled wr w.heap.size s i (facRow d)) := hfl
      have HAB : Hid (Above wr w.heap.size i w.heap.size) := habove
      clear hfl habove
      go_wp2
      obtain ⟨wo, rfl⟩ : ∃ wo, wo = wr := ⟨_, rfl⟩
      clear hv0 hfr
      have hsz := hbel.size
      go_loopw [21] (fun t wq => ∃ k : Nat, k ≤ d ∧ t = .int .i64 k ∧ Laid wo wq w.heap.size i (.slice (some ⟨wo.heap.size, 0, none⟩) d d) ∧ Blk wq wo.heap.size 5 (bytesV (mix (facRow d i) (List.replicate d 0) k)) ∧ Below w.heap.size w wq) (fun t _ => d - (intOf t).toNat)
      case atStart =>
        refine ⟨0, Nat.zero_le _, rfl, Laid.start wo _ _ _ _ hBlt, ?_, ?_⟩
        · rw [mix_zero]
          have := made_bytes (wo.setCell ⟨w.heap.size, i, none⟩ (.slice (some ⟨wo.heap.size, 0, none⟩) d d)) d
          rw [size_setCell] at this
          exact this
        · exact (hbel.setCell (Nat.le_refl _) _).alloc (by rw [size_setCell]; exact hsz) _
      case round =>
        obtain ⟨j, hj, rfl, hlaid, hblk, hbq⟩ := hrel
        by_cases hjlt : j < d
        · obtain ⟨hc1, _⟩ := hlaid.cell HF.out hlt
          have hlf : (facRow d i).length = (List.replicate d 0).length := by simp [facRow]
          have hc2 := hblk.cell_some (k := j) (v := .int .u8 0) (by rw [mix_bytes, mix_at (by simp [facRow]) (by simpa using hjlt)]; simp [bytesV])
          have hf2 := hblk.free j
          obtain ⟨x, hx⟩ : ∃ x, x = (d + i) ^^^ j := ⟨_, rfl⟩
          have hxb : x < 256 := by rw [hx]; exact Gf.xor_lt (by omega) (by omega)
          have EX : Hid (IntKind.u8.wrap (bits .xor .i64 (IntKind.i64.wrap ((d : Int) + (i : Int))) (j : Int)) = (x : Int)) := by
            show _ = _
            rw [show (d : Int) + (i : Int) = ((d + i : Nat) : Int) by omega, show IntKind.i64.wrap ((d + i : Nat) : Int) = ((d + i : Nat) : Int) by rw [IntKind.wrap_i64]; omega, Gf.i64_xor _ _ (by omega) (by omega), ← hx]
            exact byte_conv x hxb
          have HX : Hid (x = (d + i) ^^^ j) := hx
          have hT := table_to ht hbq
          have HLA : Hid _ := hlaid
          have HB : Hid (Blk wr wo.heap.size 5 (bytesV (mix (facRow d i) (List.replicate d 0) j))) := hblk
          have HT : Hid (Table wr) := hT
          clear hx hlaid hblk hT hlf
          go_wp2_with fail
          go_region_with (go_at_call 49; rw [EX.out]; refine (inv_any x hxb _ (by exact HT.out)).mono ?_; rintro e w2 ⟨rfl, rfl⟩)
          all_goals
            go_wp2
            go_roundw
            case rel =>
              refine ⟨j + 1, by omega, by go_num, (HLA.out.setCell (Nat.le_refl _) hBlt _).drew, ?_, (hbq.setCell (by exact hsz) _).drew⟩
              have e := mix_set (k := j) (new := facRow d i) (old := List.replicate d 0) (by simp [facRow]) (by simpa using hjlt)
              refine (HB.out.set j _).drew.eq ?_
              rw [bytesV_set, ← e, HX.out]
              simp [facRow]
            case measure => simp [intOf]; omega
        · obtain rfl : j = d := by omega
          go_wp2
          have R : Filled wr w.heap.size s (i + 1) (facRow j) := by
            refine hlaid.filled HF.out hlt ⟨wo.heap.size, by rw [facRow_length], hblk.eq ?_⟩
            have e := mix_all (new := facRow j i) (old := List.replicate j 0) (by simp [facRow])
            simp only [List.length_replicate] at e
            rw [e]
          have R2 : Above wr w.heap.size (i + 1) w.heap.size := HAB.out.laid hlaid HF.out hlt hsz
          go_roundw
          case rel => exact ⟨i + 1, by omega, by go_num, R, R2, hbq⟩
          case measure => simp [intOf]; omega
    · obtain rfl : i = s := by omega
      go_wp2
      go_ret
      exact ⟨_, rfl, filled_rowsNew hfl habove (Nat.le_refl _) (by simp [facs]) (fun i hi => by simp [facs]), hbel⟩
end Go.Proofs.YtokmllopbfmadaaDoor.Parts

namespace Go.Proofs.YtokmllopbfmadaaDoor.Ref
open Go.RowKit Mem FieldWalks Tab ByTab Parts
open Gf (Bytes chosen left_ rowOf enough Wide)
open Plans (But rowF intsV infoInt)

/-- The value u reads as these bytes, and does not lie in the block B. -/
def BsNe (w : World) (B : Nat) (Q : Prop) (u : Value) (l : List Nat) : Prop := ∃ ao c, u = .slice ao l.length c ∧ (Q → l.length ≤ c) ∧ (l = [] ∨ ∃ b off, ao = some ⟨b, off, none⟩ ∧ b ≠ B ∧ b < w.heap.size ∧ ∀ k, (h : k < l.length) → w.cell? ⟨b, off + k, none⟩ = some (.int .u8 (l[k] : Nat)))
theorem BsNe.to {w w' : World} {B : Nat} {Q : Prop} {u : Value} {l : List Nat} (h : BsNe w B Q u l) (hb : Below w.heap.size w w') : BsNe w' B Q u l := by
  obtain ⟨ao, c, rfl, hq, h⟩ := h
  refine ⟨ao, c, rfl, hq, ?_⟩
  rcases h with h | ⟨b, off, rfl, h1, h2, h3⟩
  · exact .inl h
  · exact .inr ⟨b, off, rfl, h1, Nat.lt_of_lt_of_le h2 hb.size, fun k hk => by rw [hb.cell (p := ⟨b, off + k, none⟩) h2]; exact h3 k hk⟩
theorem BsNe.set {w : World} {B : Nat} {Q : Prop} {u : Value} {l : List Nat} (h : BsNe w B Q u l) (i : Nat) (v : Value) : BsNe (w.setCell ⟨B, i, none⟩ v) B Q u l := by
  obtain ⟨ao, c, rfl, hq, h⟩ := h
  refine ⟨ao, c, rfl, hq, ?_⟩
  rcases h with h | ⟨b, off, rfl, h1, h2, h3⟩
  · exact .inl h
  · exact .inr ⟨b, off, rfl, h1, by rw [size_setCell]; exact h2, fun k hk => by rw [World.cell?_setCell_other _ _ _ _ (by intro h; injection h; omega)]; exact h3 k hk⟩
theorem BsNe.bs {w : World} {B : Nat} {Q : Prop} {u : Value} {l : List Nat} (h : BsNe w B Q u l) : BsAt w u l := by
  obtain ⟨ao, c, rfl, hq, h⟩ := h
  refine ⟨ao, c, rfl, ?_⟩
  rcases h with h | ⟨b, off, rfl, h1, h2, h3⟩
  · exact .inl h
  · exact .inr ⟨b, off, rfl, h2, h3⟩
theorem BsNe.bsC {w : World} {B : Nat} {u : Value} {l : List Nat} (h : BsNe w B True u l) : BsC w u l := by
  obtain ⟨ao, c, rfl, hq, h⟩ := h
  have := hq trivial
  refine ⟨ao, c - l.length, by congr 1; omega, ?_⟩
  rcases h with h | ⟨b, off, rfl, h1, h2, h3⟩
  · exact .inl h
  · exact .inr ⟨b, off, rfl, h2, h3⟩
theorem BsC.ne {w : World} {B : Nat} {u : Value} {l : List Nat} (h : BsC w u l) (hB : w.heap.size ≤ B) : BsNe w B True u l := by
  obtain ⟨ao, ex, rfl, h⟩ := h
  refine ⟨ao, _, rfl, fun _ => by omega, ?_⟩
  rcases h with h | ⟨b, off, rfl, h2, h3⟩
  · exact .inl h
  · exact .inr ⟨b, off, rfl, by omega, h2, h3⟩
/-- The first r rows of the list at B are there; the rest are none yet. -/
def Fill9 (w : World) (B n r : Nat) (Q : Prop) (rows : Nat → List Nat) : Prop := ∃ us : List Value, us.length = n ∧ Blk w B 71 us ∧ ∀ k, k < r → ∃ u, us[k]? = some u ∧ BsNe w B Q u (rows k)
section
variable {w w' : World} {B n r : Nat} {Q : Prop} {rows : Nat → List Nat}
theorem Fill9.start {us : List Value} (h : Blk w B 71 us) (hl : us.length = n) (Q : Prop) (rows : Nat → List Nat) : Fill9 w B n 0 Q rows := ⟨us, hl, h, fun k hk => by omega⟩
theorem Fill9.to (h : Fill9 w B n r Q rows) (hb : Below w.heap.size w w') : Fill9 w' B n r Q rows := by
  obtain ⟨us, h1, h2, h3⟩ := h
  refine ⟨us, h1, h2.to hb, fun k hk => ?_⟩
  obtain ⟨u, h4, h5⟩ := h3 k hk
  exact ⟨u, h4, h5.to hb⟩
theorem Fill9.cell (h : Fill9 w B n r Q rows) (k : Nat) (hk : k < n) : (∃ v, w.cell? ⟨B, k, none⟩ = some v) ∧ w.frozen? ⟨B, k, none⟩ = false ∧ B < w.heap.size := by
  obtain ⟨us, h1, h2, h3⟩ := h
  exact ⟨⟨us[k]'(by omega), h2.cell_some (by simp [show k < us.length by omega])⟩, h2.free k, h2.lt⟩
theorem Fill9.step {u : Value} (h : Fill9 w B n r Q rows) (hr : r < n) (hb : BsNe w B Q u (rows r)) : Fill9 (w.setCell ⟨B, r, none⟩ u) B n (r + 1) Q rows := by
  obtain ⟨us, h1, h2, h3⟩ := h
  refine ⟨us.set r u, by simpa using h1, h2.set r _, fun k hk => ?_⟩
  by_cases e : k = r
  · subst e
    exact ⟨u, by simp [show k < us.length by omega], hb.set _ _⟩
  · obtain ⟨u', h4, h5⟩ := h3 k (by omega)
    exact ⟨u', by rw [List.getElem?_set_ne (by omega)]; exact h4, h5.set _ _⟩
/-- A row that is written in new memory behind the list's store. -/
theorem Fill9.laid {W : World} {b m c : Nat} (h : Fill9 w B n r Q rows) (hr : r < n) (hl : Laid w W B r (.slice (some ⟨b, 0, none⟩) m c)) (hm : m = (rows r).length) (hq : Q → m ≤ c) (hbB : b ≠ B) (hb : Row8 W b (rows r)) : Fill9 W B n (r + 1) Q rows := by
  obtain ⟨us, h1, h2, h3⟩ := h
  subst hm
  refine ⟨us.set r _, by simpa using h1, hl.row.trans (h2.set r _), fun k hk => ?_⟩
  by_cases e : k = r
  · subst e
    exact ⟨_, by simp [show k < us.length by omega], _, c, rfl, hq, .inr ⟨b, 0, rfl, hbB, hb.lt, fun k hk => by rw [Nat.zero_add]; exact hb.cell k hk⟩⟩
  · obtain ⟨u', h4, ao', c', rfl, h7, h9⟩ := h3 k (by omega)
    refine ⟨_, by rw [List.getElem?_set_ne (by omega)]; exact h4, ao', c', rfl, h7, ?_⟩
    rcases h9 with h9 | ⟨b', off', rfl, h5, h6, h8⟩
    · exact .inl h9
    · exact .inr ⟨b', off', rfl, h5, Nat.lt_of_lt_of_le h6 hl.size, fun i hi => by rw [World.cell?_of_block (hl.rest b' h5 h6)]; exact h8 i hi⟩
end
theorem Fill9.rows {w : World} {B n : Nat} {Q : Prop} {rows : Nat → List Nat} (h : Fill9 w B n n Q rows) (ls : List (List Nat)) (hl : ls.length = n) (he : ∀ k, (h : k < ls.length) → ls[k] = rows k) : RowsAt w (.slice (some ⟨B, 0, none⟩) n n) ls := by
  obtain ⟨us, h1, h2, h3⟩ := h
  refine ⟨_, n, by rw [hl], .inr ⟨B, 0, rfl, h2.lt, fun k hk => ?_⟩⟩
  obtain ⟨u, h4, h5⟩ := h3 k (by omega)
  exact ⟨u, by rw [Nat.zero_add]; exact h2.cell_some h4, by rw [he k hk]; exact h5.bs⟩
theorem Fill9.rowsC {w : World} {B n : Nat} {rows : Nat → List Nat} (h : Fill9 w B n n True rows) (ls : List (List Nat)) (hl : ls.length = n) (he : ∀ k, (h : k < ls.length) → ls[k] = rows k) : RowsC w (.slice (some ⟨B, 0, none⟩) n n) ls := by
  obtain ⟨us, h1, h2, h3⟩ := h
  refine ⟨_, 0, by rw [hl, Nat.add_zero], .inr ⟨B, 0, rfl, h2.lt, fun k hk => ?_⟩⟩
  obtain ⟨u, h4, h5⟩ := h3 k (by omega)
  exact ⟨u, by rw [Nat.zero_add]; exact h2.cell_some h4, by rw [he k hk]; exact h5.bsC⟩

theorem unit_row (d p : Nat) (hp : p < d) : (List.replicate d 0).set p 1 = rowF d (rowOf d p) := by
  apply List.ext_getElem
  · simp
  · intro k h1 h2
    rw [List.getElem_set]
    simp only [rowF, List.getElem_map, List.getElem_range, rowOf, if_pos hp]
    by_cases e : p = k
    · rw [if_pos e, if_pos e]
    · rw [if_neg e, if_neg e]; simp
theorem spare_row (d p : Nat) (hp : ¬ p < d) : facRow d (p - d) = rowF d (rowOf d p) := by
  unfold facRow rowF
  refine List.map_congr_left fun k _ => ?_
  rw [rowOf, if_neg hp, show d + (p - d) = p by omega]

set_option maxRecDepth 100000 in
set_option maxHeartbeats 2000000 in
theorem madeBy_any (d s : Nat) (ns : List Nat) (nb : Nat) (w : World) (ht : Table w) (hd : 1 ≤ d) (hd2 : d ≤ 10) (hs : s ≤ 6) (hns : ns.length = d) (hlt : ∀ k, (h : k < ns.length) → ns[k] < d + s) (hnb : Blk w nb 3 (intsV ns)) :
    Calls Tryd.prog 137 #[.int .i64 d, .int .i64 s, .slice (some ⟨nb, 0, none⟩) d d] w fun e w' => ∃ v, e = .returned v ∧ RowsAt w' v (ns.map fun p => rowF d (rowOf d p)) ∧ Below w.heap.size w w' := by
  have HNS : Hid (ns.length = d) := hns
  have HLT : Hid (∀ k, (h : k < ns.length) → ns[k] < d + s) := hlt
  have HNB : Hid (Blk w nb 3 (intsV ns)) := hnb
  have hnbl := hnb.lt
  have hmk := fun w => make_rows d (by omega) w
  have hmb := fun w => make_bytes d (by omega) w
  clear hns hlt hnb
  go_enter Tryd.func137, Tryd.ntmps137
  go_wp2_with fail
  refine (factors_new d s (by omega) (by omega) _ ht).mono ?_
  rintro e w1 ⟨fv, rfl, hfac, hb1⟩
  have HFN : Hid (RowsNew w1 w.heap.size fv (facs d s)) := hfac
  obtain ⟨fg, fc, rfl, _⟩ := hfac
  rw [show (facs d s).length = s by simp [facs]] at HFN ⊢
  have HB1 : Hid (Below w.heap.size w w1) := hb1
  clear hb1
  go_wp2
  go_loopw [19] (fun i wr => ∃ k : Nat, k ≤ d ∧ i = .int .i64 k ∧ Fill9 wr w1.heap.size d k False (fun k => rowF d (rowOf d (ns.getD k 0))) ∧ Below w1.heap.size w1 wr) (fun i _ => d - (intOf i).toNat)
  case atStart => exact ⟨0, Nat.zero_le _, rfl, Fill9.start ((Blk.new w1 _ _).eq (toList_madeCells_one _ d)) (by simp) _ _, (Below.refl _ _).alloc (Nat.le_refl _) _⟩
  case round =>
    obtain ⟨k, hk, rfl, hfill, hbel⟩ := hrel
    by_cases hkd : k < d
    · have hkn : k < ns.length := by rw [HNS.out]; exact hkd
      have c1 := ((HNB.out.to HB1.out).to hbel).cell_some (k := k) (v := .int .i64 (ns[k] : Nat)) (by simp [intsV, hkn])
      obtain ⟨p, hp⟩ : ∃ p, p = ns[k] := ⟨_, rfl⟩
      have hpl : p < d + s := by rw [hp]; exact HLT.out k hkn
      rw [← hp] at c1
      have HP : Hid (ns.getD k 0 = p) := by show _ = _; rw [hp]; simp [hkn]
      obtain ⟨⟨ov, k1⟩, k2, k3⟩ := hfill.cell k hkd
      have HF : Hid (Fill9 wr w1.heap.size d k False (fun k => rowF d (rowOf d (ns.getD k 0)))) := hfill
      have HBL : Hid (Below w1.heap.size w1 wr) := hbel
      have hsz := hbel.size
      by_cases hpd : p < d
      · obtain ⟨W1, hW1⟩ : ∃ W1, W1 = (wr.setCell ⟨w1.heap.size, k, none⟩ (.slice (some ⟨wr.heap.size, 0, none⟩) d d)).alloc (.cells ((madeCells #[.int .u8 0] d).setIfInBounds p (.int .u8 1)) 5) := ⟨_, rfl⟩
        have HLA : Hid (Laid wr W1 w1.heap.size k (.slice (some ⟨wr.heap.size, 0, none⟩) d d)) := by rw [hW1]; exact Laid.start wr _ _ _ _ k3
        have HN1 : Hid (Blk W1 wr.heap.size 5 (bytesV (rowF d (rowOf d p)))) := by
          have := Blk.new (wr.setCell ⟨w1.heap.size, k, none⟩ (.slice (some ⟨wr.heap.size, 0, none⟩) d d)) ((madeCells #[.int .u8 0] d).setIfInBounds p (.int .u8 1)) 5
          rw [size_setCell, ← hW1] at this
          refine this.eq ?_
          rw [Array.toList_setIfInBounds, toList_madeCells_one, ← unit_row d p hpd]
          simp [bytesV, List.map_set]
        have HB2 : Hid (Below w1.heap.size w1 W1) := by
          rw [hW1]; exact (hbel.setCell (Nat.le_refl _) _).alloc (by rw [size_setCell]; exact hsz) _
        have HGW : Hid ((wr.setCell ⟨w1.heap.size, k, none⟩ (.slice (some ⟨wr.heap.size, 0, none⟩) d d)).alloc (.cells ((madeCells #[.int .u8 0] d).setIfInBounds p (.int .u8 1)) 5) = W1) := hW1.symm
        have HF2 : Hid (Fill9 W1 w1.heap.size d (k + 1) False (fun k => rowF d (rowOf d (ns.getD k 0)))) :=
          HF.out.laid hkd (b := wr.heap.size) (m := d) (c := d) HLA.out (by simp) (fun h => h.elim) (by omega) (by rw [HP.out]; exact Row8.of_blk HN1.out)
        have hN0 : Blk ((wr.setCell ⟨w1.heap.size, k, none⟩ (.slice (some ⟨wr.heap.size, 0, none⟩) d d)).alloc (.cells (madeCells #[.int .u8 0] d) 5)) wr.heap.size 5 (bytesV (List.replicate d 0)) := by
          have := made_bytes (wr.setCell ⟨w1.heap.size, k, none⟩ (.slice (some ⟨wr.heap.size, 0, none⟩) d d)) d
          rw [size_setCell] at this
          exact this
        have c2 := hN0.cell_some (k := p) (v := .int .u8 0) (by simp [bytesV, hpd])
        have f2 := hN0.free p
        clear hW1 hfill hbel hp hN0
        go_wp2
        go_roundw
        case rel => exact ⟨k + 1, by omega, by go_num, by rw [HGW.out]; exact HF2.out, by rw [HGW.out]; exact HB2.out⟩
        case measure => simp [intOf]; omega
      · obtain ⟨q, hq⟩ : ∃ q, p = d + q := ⟨p - d, by omega⟩
        have hqs : q < s := by omega
        have eq1 : (p : Int) - (d : Int) = (q : Int) := by omega
        have HPQ : Hid (p = d + q) := hq
        obtain ⟨fb, fc', hfb, hfl, gf, ge⟩ : ∃ fb fc', w.heap.size ≤ fb ∧ fb < w1.heap.size ∧ wr.cell? ⟨fg, q, none⟩ = some (.slice (some ⟨fb, 0, none⟩) d fc') ∧ ∀ j, (hj : j < (facRow d q).length) → wr.cell? ⟨fb, j, none⟩ = some (.int .u8 ((facRow d q)[j] : Nat)) := by
          obtain ⟨g', c', he, h1, h2, h3⟩ := HFN.out
          injection he with he _ _
          injection he with he
          injection he with he
          subst he
          obtain ⟨b, c'', h4, h5, h6, h7⟩ := h3 q (by simp [facs]; exact hqs)
          have hlr : (facs d s)[q]'(by simp [facs]; exact hqs) = facRow d q := by simp [facs]
          rw [hlr] at h6
          refine ⟨b, c'', h4, h5, by rw [hbel.cell (p := ⟨_, q, none⟩) h2, h6, facRow_length], fun j hj => ?_⟩
          rw [hbel.cell (p := ⟨b, j, none⟩) h5, h7 j (by rw [hlr]; exact hj)]
          simp [hlr]
        have HF2 : Hid (Fill9 (wr.setCell ⟨w1.heap.size, k, none⟩ (.slice (some ⟨fb, 0, none⟩) d fc')) w1.heap.size d (k + 1) False (fun k => rowF d (rowOf d (ns.getD k 0)))) := by
          refine HF.out.step hkd ?_
          show BsNe wr w1.heap.size False (.slice (some ⟨fb, 0, none⟩) d fc') (rowF d (rowOf d (ns.getD k 0)))
          have e2 : rowF d (rowOf d (ns.getD k 0)) = facRow d q := by
            rw [HP.out, ← spare_row d p hpd, show p - d = q by omega]
          rw [e2]
          exact ⟨_, fc', by rw [facRow_length], fun h => h.elim, .inr ⟨fb, 0, rfl, by omega, by omega, fun j hj => by rw [Nat.zero_add]; exact ge j hj⟩⟩
        clear hfill hbel hp ge hq
        go_wp2
        go_roundw
        case rel => exact ⟨k + 1, by omega, by go_num, HF2.out, HBL.out.setCell (Nat.le_refl _) _⟩
        case measure => simp [intOf]; omega
    · obtain rfl : d = k := by omega
      have HR : Hid (RowsAt wr (.slice (some ⟨w1.heap.size, 0, none⟩) d d) (ns.map fun p => rowF d (rowOf d p))) := hfill.rows _ (by simp [HNS.out]) (fun i hi => by
        have hi' : i < ns.length := by simpa using hi
        simp [hi'])
      have HB9 : Hid (Below w.heap.size w wr) := HB1.out.trans (hbel.mono HB1.out.size)
      clear hfill hbel
      go_wp2
      go_ret
      exact ⟨_, rfl, HR.out, HB9.out⟩
end Go.Proofs.YtokmllopbfmadaaDoor.Ref
