/- The factors, in new memory: what a call that writes elsewhere keeps. -/
import Derived.Test.YtmlnejlhgbonpaaDoorFactors
namespace Go.Proofs.YtmlnejlhgbonpaaDoor.Parts
open Go.RowKit Mem FieldWalks Tab ByTab

/-- The first i rows of the list at B lie in blocks from base on. -/
def Above (w : World) (B i base : Nat) : Prop := ∀ k, k < i → ∃ b n c, w.cell? ⟨B, k, none⟩ = some (.slice (some ⟨b, 0, none⟩) n c) ∧ base ≤ b
theorem Above.laid {w W : World} {B n i base b m c : Nat} {f : Nat → List Nat} (h : Above w B i base) (hl : Laid w W B i (.slice (some ⟨b, 0, none⟩) m c)) (hf : Filled w B n i f) (hi : i < n) (hb : base ≤ b) : Above W B (i + 1) base := by
  intro k hk
  by_cases e : k = i
  · subst e
    exact ⟨b, m, c, (hl.cell hf hi).1, hb⟩
  · obtain ⟨b', m', c', hc, hb'⟩ := h k (by omega)
    refine ⟨b', m', c', ?_, hb'⟩
    rw [World.cell?_of_block (w := w.setCell ⟨B, i, none⟩ _) (a := ⟨B, k, none⟩) hl.row, World.cell?_setCell_other _ _ _ _ (by intro h; injection h; omega)]
    exact hc
/-- The slice v reads as these rows; all of it lies in blocks from base on. -/
def RowsNew (w : World) (base : Nat) (v : Value) (rows : List (List Nat)) : Prop :=
  ∃ g c, v = .slice (some ⟨g, 0, none⟩) rows.length c ∧ base ≤ g ∧ g < w.heap.size ∧ ∀ k, (h : k < rows.length) → ∃ b c', base ≤ b ∧ b < w.heap.size ∧ w.cell? ⟨g, k, none⟩ = some (.slice (some ⟨b, 0, none⟩) rows[k].length c') ∧ ∀ j, (hj : j < rows[k].length) → w.cell? ⟨b, j, none⟩ = some (.int .u8 (rows[k][j] : Nat))
/-- All blocks from base on are as they were. -/
def Over (base : Nat) (w w' : World) : Prop := w.heap.size ≤ w'.heap.size ∧ ∀ b, base ≤ b → b < w.heap.size → w'.heap[b]? = w.heap[b]?
theorem Over.refl (base : Nat) (w : World) : Over base w w := ⟨Nat.le_refl _, fun _ _ _ => rfl⟩
theorem Over.to {base : Nat} {w w' w'' : World} (h : Over base w w') (hb : Below w'.heap.size w' w'') : Over base w w'' :=
  ⟨Nat.le_trans h.1 hb.size, fun b h1 h2 => (hb.block b (Nat.lt_of_lt_of_le h2 h.1)).trans (h.2 b h1 h2)⟩
theorem Over.setCell {base : Nat} {w w' : World} (h : Over base w w') {a : Addr} (ha : a.block < base) (v : Value) : Over base w (w'.setCell a v) :=
  ⟨by rw [size_setCell]; exact h.1, fun b h1 h2 => (Below.heap_setCell w' a v b (by omega)).trans (h.2 b h1 h2)⟩
theorem Over.drew {base : Nat} {w w' : World} (h : Over base w w') : Over base w w'.drew := h
theorem RowsNew.over {w w' : World} {base : Nat} {v : Value} {rows : List (List Nat)} (h : RowsNew w base v rows) (ho : Over base w w') : RowsNew w' base v rows := by
  obtain ⟨g, c, rfl, h1, h2, h3⟩ := h
  refine ⟨g, c, rfl, h1, Nat.lt_of_lt_of_le h2 ho.1, fun k hk => ?_⟩
  obtain ⟨b, c', b1, b2, b3, b4⟩ := h3 k hk
  exact ⟨b, c', b1, Nat.lt_of_lt_of_le b2 ho.1, by rw [World.cell?_of_block (ho.2 g h1 h2)]; exact b3, fun j hj => by rw [World.cell?_of_block (ho.2 b b1 b2)]; exact b4 j hj⟩
theorem RowsNew.rows {w : World} {base : Nat} {v : Value} {rows : List (List Nat)} (h : RowsNew w base v rows) : RowsAt w v rows := by
  obtain ⟨g, c, rfl, h1, h2, h3⟩ := h
  refine ⟨_, c, rfl, .inr ⟨g, 0, rfl, h2, fun k hk => ?_⟩⟩
  obtain ⟨b, c', b1, b2, b3, b4⟩ := h3 k hk
  exact ⟨_, by rw [Nat.zero_add]; exact b3, _, c', rfl, .inr ⟨b, 0, rfl, b2, fun j hj => by rw [Nat.zero_add]; exact b4 j hj⟩⟩
theorem filled_rowsNew {w : World} {B n base : Nat} {f : Nat → List Nat} (h : Filled w B n n f) (ha : Above w B n base) (hB : base ≤ B) {rows : List (List Nat)} (hr : rows.length = n) (he : ∀ k, (h : k < rows.length) → rows[k] = f k) : RowsNew w base (.slice (some ⟨B, 0, none⟩) n n) rows := by
  refine ⟨B, n, by rw [hr], hB, h.lt, fun k hk => ?_⟩
  obtain ⟨u, hu, b, rfl, hb⟩ := h.row (k := k) (by omega)
  obtain ⟨b', m', c', hc, hb'⟩ := ha k (by omega)
  rw [hu] at hc
  injection hc with hc
  injection hc with hc _ _
  injection hc with hc
  injection hc with hc
  subst hc
  rw [← he k hk] at hu hb
  exact ⟨b, _, hb', hb.lt, hu, fun j hj => hb.cell_some (bytesV_at hj)⟩

set_option maxRecDepth 100000 in
set_option maxHeartbeats 1000000 in
theorem factors_new (d s : Nat) (hd : d ≤ 100) (hs : s ≤ 100) (w : World) (ht : Table w) :
    Calls Tryd.prog 66 #[.int .i64 d, .int .i64 s] w fun e w' => ∃ v, e = .returned v ∧ RowsNew w' w.heap.size v (facs d s) ∧ Below w.heap.size w w' := by
  have hmk := fun w => make_rows s (by omega) w
  have hmb := fun w => make_bytes d (by omega) w
  go_enter Tryd.func66, Tryd.ntmps66
  go_wp2
  go_loopw [12] (fun i wr => ∃ k : Nat, k ≤ s ∧ i = .int .i64 k ∧ Filled wr w.heap.size s k (facRow d) ∧ Above wr w.heap.size k w.heap.size ∧ Below w.heap.size w wr) (fun i _ => s - (intOf i).toNat)
  case atStart => exact ⟨0, Nat.zero_le _, rfl, made_rows _ _ _, fun k hk => by omega, (Below.refl _ _).alloc (Nat.le_refl _) _⟩
  case round =>
    obtain ⟨i, hi, rfl, hfl, habove, hbel⟩ := hrel
    by_cases hlt : i < s
    · obtain ⟨⟨v0, hv0⟩, hfr⟩ := (hfl.to ((Below.refl _ _).alloc (Nat.le_refl _) (.cells (madeCells #[.int .u8 0] d) 5))).cell hlt
      have hBlt := hfl.lt
      have HF : Hid (Filled wr w.heap.size s i (facRow d)) := hfl
      have HAB : Hid (Above wr w.heap.size i w.heap.size) := habove
      clear hfl habove
      go_wp2
      obtain ⟨wo, rfl⟩ : ∃ wo, wo = wr := ⟨_, rfl⟩
      clear hv0 hfr
      have hsz := hbel.size
      go_loopw [21] (fun t wq => ∃ k : Nat, k ≤ d ∧ t = .int .i64 k ∧ Laid wo wq w.heap.size i (.slice (some ⟨wo.heap.size, 0, none⟩) d d) ∧ Blk wq wo.heap.size 5 (bytesV (mix (facRow d i) (List.replicate d 0) k)) ∧ Below w.heap.size w wq) (fun t _ => d - (intOf t).toNat)
      case atStart =>
        refine ⟨0, Nat.zero_le _, rfl, Laid.start wo _ _ _ _ hBlt, ?_, ?_⟩
        · rw [mix_zero]
          have := made_bytes (wo.setCell ⟨w.heap.size, i, none⟩ (.slice (some ⟨wo.heap.size, 0, none⟩) d d)) d
          rw [size_setCell] at this
          exact this
        · exact (hbel.setCell (Nat.le_refl _) _).alloc (by rw [size_setCell]; exact hsz) _
      case round =>
        obtain ⟨j, hj, rfl, hlaid, hblk, hbq⟩ := hrel
        by_cases hjlt : j < d
        · obtain ⟨hc1, _⟩ := hlaid.cell HF.out hlt
          have hlf : (facRow d i).length = (List.replicate d 0).length := by simp [facRow]
          have hc2 := hblk.cell_some (k := j) (v := .int .u8 0) (by rw [mix_bytes, mix_at (by simp [facRow]) (by simpa using hjlt)]; simp [bytesV])
          have hf2 := hblk.free j
          obtain ⟨x, hx⟩ : ∃ x, x = (d + i) ^^^ j := ⟨_, rfl⟩
          have hxb : x < 256 := by rw [hx]; exact Gf.xor_lt (by omega) (by omega)
          have EX : Hid (IntKind.u8.wrap (bits .xor .i64 (IntKind.i64.wrap ((d : Int) + (i : Int))) (j : Int)) = (x : Int)) := by
            show _ = _
            rw [show (d : Int) + (i : Int) = ((d + i : Nat) : Int) by omega, show IntKind.i64.wrap ((d + i : Nat) : Int) = ((d + i : Nat) : Int) by rw [IntKind.wrap_i64]; omega, Gf.i64_xor _ _ (by omega) (by omega), ← hx]
            exact byte_conv x hxb
          have HX : Hid (x = (d + i) ^^^ j) := hx
          have hT := table_to ht hbq
          have HLA : Hid _ := hlaid
          have HB : Hid (Blk wr wo.heap.size 5 (bytesV (mix (facRow d i) (List.replicate d 0) j))) := hblk
          have HT : Hid (Table wr) := hT
          clear hx hlaid hblk hT hlf
          go_wp2_with fail
          go_region_with (go_at_call 44; rw [EX.out]; refine (inv_any x hxb _ (by exact HT.out)).mono ?_; rintro e w2 ⟨rfl, rfl⟩)
          all_goals
            go_wp2
            go_roundw
            case rel =>
              refine ⟨j + 1, by omega, by go_num, (HLA.out.setCell (Nat.le_refl _) hBlt _).drew, ?_, (hbq.setCell (by exact hsz) _).drew⟩
              have e := mix_set (k := j) (new := facRow d i) (old := List.replicate d 0) (by simp [facRow]) (by simpa using hjlt)
              refine (HB.out.set j _).drew.eq ?_
              rw [bytesV_set, ← e, HX.out]
              simp [facRow]
            case measure => simp [intOf]; omega
        · obtain rfl : j = d := by omega
          go_wp2
          have R : Filled wr w.heap.size s (i + 1) (facRow j) := by
            refine hlaid.filled HF.out hlt ⟨wo.heap.size, by rw [facRow_length], hblk.eq ?_⟩
            have e := mix_all (new := facRow j i) (old := List.replicate j 0) (by simp [facRow])
            simp only [List.length_replicate] at e
            rw [e]
          have R2 : Above wr w.heap.size (i + 1) w.heap.size := HAB.out.laid hlaid HF.out hlt hsz
          go_roundw
          case rel => exact ⟨i + 1, by omega, by go_num, R, R2, hbq⟩
          case measure => simp [intOf]; omega
    · obtain rfl : i = s := by omega
      go_wp2
      go_ret
      exact ⟨_, rfl, filled_rowsNew hfl habove (Nat.le_refl _) (by simp [facs]) (fun i hi => by simp [facs]), hbel⟩
end Go.Proofs.YtmlnejlhgbonpaaDoor.Parts
