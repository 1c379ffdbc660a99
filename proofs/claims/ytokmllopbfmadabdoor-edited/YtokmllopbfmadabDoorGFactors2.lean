import Derived.Test.YtokmllopbfmadabDoorGByTables
import Derived.Lib.AppendZeros
import Derived.Test.YtokmllopbfmadabDoorGShaped
import Derived.Test.YtokmllopbfmadabDoorGPInv
/- The factors, in new memory: what a call that writes elsewhere keeps. -/
namespace Go.Proofs.YtokmllopbfmadabDoor.Parts
open Go.RowKit Mem FieldWalks Tab ByTab

/-- The first i rows of the list at B lie in blocks from base on. -/
def Above (w : World) (B i base : Nat) : Prop := ∀ k, k < i → ∃ b n c, w.cell? ⟨B, k, none⟩ = some (.slice (some ⟨b, 0, none⟩) n c) ∧ base ≤ b
theorem Above.laid {w W : World} {B n i base b m c : Nat} {f : Nat → List Nat} (h : Above w B i base) (hl : Laid w W B i (.slice (some ⟨b, 0, none⟩) m c)) (hf : Filled w B n i f) (hi : i < n) (hb : base ≤ b) : Above W B (i + 1) base := by
  intro k hk
  by_cases e : k = i
  · subst e
    exact ⟨b, m, c, (hl.cell hf hi).1, hb⟩
  · obtain ⟨b', m', c', hc, hb'⟩ := h k (by omega)
    refine ⟨b', m', c', ?_, hb'⟩
    rw [World.cell?_of_block (w := w.setCell ⟨B, i, none⟩ _) (a := ⟨B, k, none⟩) hl.row, World.cell?_setCell_other _ _ _ _ (by intro h; injection h; omega)]
    exact hc
/-- The slice v reads as these rows; all of it lies in blocks from base on. -/
def RowsNew (w : World) (base : Nat) (v : Value) (rows : List (List Nat)) : Prop :=
  ∃ g c, v = .slice (some ⟨g, 0, none⟩) rows.length c ∧ base ≤ g ∧ g < w.heap.size ∧ ∀ k, (h : k < rows.length) → ∃ b c', base ≤ b ∧ b < w.heap.size ∧ w.cell? ⟨g, k, none⟩ = some (.slice (some ⟨b, 0, none⟩) rows[k].length c') ∧ ∀ j, (hj : j < rows[k].length) → w.cell? ⟨b, j, none⟩ = some (.int .u8 (rows[k][j] : Nat))
/-- All blocks from base on are as they were. -/
def Over (base : Nat) (w w' : World) : Prop := w.heap.size ≤ w'.heap.size ∧ ∀ b, base ≤ b → b < w.heap.size → w'.heap[b]? = w.heap[b]?
theorem Over.refl (base : Nat) (w : World) : Over base w w := ⟨Nat.le_refl _, fun _ _ _ => rfl⟩
theorem Over.to {base : Nat} {w w' w'' : World} (h : Over base w w') (hb : Below w'.heap.size w' w'') : Over base w w'' :=
  ⟨Nat.le_trans h.1 hb.size, fun b h1 h2 => (hb.block b (Nat.lt_of_lt_of_le h2 h.1)).trans (h.2 b h1 h2)⟩
theorem Over.setCell {base : Nat} {w w' : World} (h : Over base w w') {a : Addr} (ha : a.block < base) (v : Value) : Over base w (w'.setCell a v) :=
  ⟨by rw [size_setCell]; exact h.1, fun b h1 h2 => (Below.heap_setCell w' a v b (by omega)).trans (h.2 b h1 h2)⟩
theorem Over.drew {base : Nat} {w w' : World} (h : Over base w w') : Over base w w'.drew := h
theorem RowsNew.over {w w' : World} {base : Nat} {v : Value} {rows : List (List Nat)} (h : RowsNew w base v rows) (ho : Over base w w') : RowsNew w' base v rows := by
  obtain ⟨g, c, rfl, h1, h2, h3⟩ := h
  refine ⟨g, c, rfl, h1, Nat.lt_of_lt_of_le h2 ho.1, fun k hk => ?_⟩
  obtain ⟨b, c', b1, b2, b3, b4⟩ := h3 k hk
  exact ⟨b, c', b1, Nat.lt_of_lt_of_le b2 ho.1, by rw [World.cell?_of_block (ho.2 g h1 h2)]; exact b3, fun j hj => by rw [World.cell?_of_block (ho.2 b b1 b2)]; exact b4 j hj⟩
theorem RowsNew.rows {w : World} {base : Nat} {v : Value} {rows : List (List Nat)} (h : RowsNew w base v rows) : RowsAt w v rows := by
  obtain ⟨g, c, rfl, h1, h2, h3⟩ := h
  refine ⟨_, c, rfl, .inr ⟨g, 0, rfl, h2, fun k hk => ?_⟩⟩
  obtain ⟨b, c', b1, b2, b3, b4⟩ := h3 k hk
  exact ⟨_, by rw [Nat.zero_add]; exact b3, _, c', rfl, .inr ⟨b, 0, rfl, b2, fun j hj => by rw [Nat.zero_add]; exact b4 j hj⟩⟩
theorem filled_rowsNew {w : World} {B n base : Nat} {f : Nat → List Nat} (h : Filled w B n n f) (ha : Above w B n base) (hB : base ≤ B) {rows : List (List Nat)} (hr : rows.length = n) (he : ∀ k, (h : k < rows.length) → rows[k] = f k) : RowsNew w base (.slice (some ⟨B, 0, none⟩) n n) rows := by
  refine ⟨B, n, by rw [hr], hB, h.lt, fun k hk => ?_⟩
  obtain ⟨u, hu, b, rfl, hb⟩ := h.row (k := k) (by omega)
  obtain ⟨b', m', c', hc, hb'⟩ := ha k (by omega)
  rw [hu] at hc
  injection hc with hc
  injection hc with hc _ _
  injection hc with hc
  injection hc with hc
  subst hc
  rw [← he k hk] at hu hb
  exact ⟨b, _, hb', hb.lt, hu, fun j hj => hb.cell_some (bytesV_at hj)⟩

set_option maxRecDepth 100000 in
set_option maxHeartbeats 1000000 in
theorem factors_new (d s : Nat) (hd : d ≤ 100) (hs : s ≤ 100) (w : World) (ht : Table w) :
    Calls Tryd.prog 38 #[.int .i64 d, .int .i64 s] w fun e w' => ∃ v, e = .returned v ∧ RowsNew w' w.heap.size v (facs d s) ∧ Below w.heap.size w w' := by
  have hmk := fun w => make_rows s (by omega) w
  have hmb := fun w => make_bytes d (by omega) w
  go_enter Tryd.func38, Tryd.ntmps38
  go_wp2
  go_loopw [12] (fun i wr => ∃ k : Nat, k ≤ s ∧ i = .int .i64 k ∧ Filled wr w.heap.size s k (facRow d) ∧ Above wr w.heap.size k w.heap.size ∧ Below w.heap.size w wr) (fun i _ => s - (intOf i).toNat)
  case atStart => exact ⟨0, Nat.zero_le _, rfl, made_rows _ _ _, fun k hk => by omega, (Below.refl _ _).alloc (Nat.le_refl _) _⟩
  case round =>
    obtain ⟨i, hi, rfl, hfl, habove, hbel⟩ := hrel
    by_cases hlt : i < s
    · obtain ⟨⟨v0, hv0⟩, hfr⟩ := (hfl.to ((Below.refl _ _).alloc (Nat.le_refl _) (.cells (madeCells #[.int .u8 0] d) 5))).cell hlt
      have hBlt := hfl.lt
      have HF : Hid (Filled wr w.heap.size s i (facRow d)) := hfl
      have HAB : Hid (Above wr w.heap.size i w.heap.size) := habove
      clear hfl habove
      go_wp2
      obtain ⟨wo, rfl⟩ : ∃ wo, wo = wr := ⟨_, rfl⟩
      clear hv0 hfr
      have hsz := hbel.size
      go_loopw [21] (fun t wq => ∃ k : Nat, k ≤ d ∧ t = .int .i64 k ∧ Laid wo wq w.heap.size i (.slice (some ⟨wo.heap.size, 0, none⟩) d d) ∧ Blk wq wo.heap.size 5 (bytesV (mix (facRow d i) (List.replicate d 0) k)) ∧ Below w.heap.size w wq) (fun t _ => d - (intOf t).toNat)
      case atStart =>
        refine ⟨0, Nat.zero_le _, rfl, Laid.start wo _ _ _ _ hBlt, ?_, ?_⟩
        · rw [mix_zero]
          have := made_bytes (wo.setCell ⟨w.heap.size, i, none⟩ (.slice (some ⟨wo.heap.size, 0, none⟩) d d)) d
          rw [size_setCell] at this
          exact this
        · exact (hbel.setCell (Nat.le_refl _) _).alloc (by rw [size_setCell]; exact hsz) _
      case round =>
        obtain ⟨j, hj, rfl, hlaid, hblk, hbq⟩ := hrel
        by_cases hjlt : j < d
        · obtain ⟨hc1, _⟩ := hlaid.cell HF.out hlt
          have hlf : (facRow d i).length = (List.replicate d 0).length := by simp [facRow]
          have hc2 := hblk.cell_some (k := j) (v := .int .u8 0) (by rw [mix_bytes, mix_at (by simp [facRow]) (by simpa using hjlt)]; simp [bytesV])
          have hf2 := hblk.free j
          obtain ⟨x, hx⟩ : ∃ x, x = (d + i) ^^^ j := ⟨_, rfl⟩
          have hxb : x < 256 := by rw [hx]; exact Gf.xor_lt (by omega) (by omega)
          have EX : Hid (IntKind.u8.wrap (bits .xor .i64 (IntKind.i64.wrap ((d : Int) + (i : Int))) (j : Int)) = (x : Int)) := by
            show _ = _
            rw [show (d : Int) + (i : Int) = ((d + i : Nat) : Int) by omega, show IntKind.i64.wrap ((d + i : Nat) : Int) = ((d + i : Nat) : Int) by rw [IntKind.wrap_i64]; omega, Gf.i64_xor _ _ (by omega) (by omega), ← hx]
            exact byte_conv x hxb
          have HX : Hid (x = (d + i) ^^^ j) := hx
          have hT := table_to ht hbq
          have HLA : Hid _ := hlaid
          have HB : Hid (Blk wr wo.heap.size 5 (bytesV (mix (facRow d i) (List.replicate d 0) j))) := hblk
          have HT : Hid (Table wr) := hT
          clear hx hlaid hblk hT hlf
          go_wp2_with fail
          go_region_with (go_at_call 49; rw [EX.out]; refine (inv_any x hxb _ (by exact HT.out)).mono ?_; rintro e w2 ⟨rfl, rfl⟩)
          all_goals
            go_wp2
            go_roundw
            case rel =>
              refine ⟨j + 1, by omega, by go_num, (HLA.out.setCell (Nat.le_refl _) hBlt _).drew, ?_, (hbq.setCell (by exact hsz) _).drew⟩
              have e := mix_set (k := j) (new := facRow d i) (old := List.replicate d 0) (by simp [facRow]) (by simpa using hjlt)
              refine (HB.out.set j _).drew.eq ?_
              rw [bytesV_set, ← e, HX.out]
              simp [facRow]
            case measure => simp [intOf]; omega
        · obtain rfl : j = d := by omega
          go_wp2
          have R : Filled wr w.heap.size s (i + 1) (facRow j) := by
            refine hlaid.filled HF.out hlt ⟨wo.heap.size, by rw [facRow_length], hblk.eq ?_⟩
            have e := mix_all (new := facRow j i) (old := List.replicate j 0) (by simp [facRow])
            simp only [List.length_replicate] at e
            rw [e]
          have R2 : Above wr w.heap.size (i + 1) w.heap.size := HAB.out.laid hlaid HF.out hlt hsz
          go_roundw
          case rel => exact ⟨i + 1, by omega, by go_num, R, R2, hbq⟩
          case measure => simp [intOf]; omega
    · obtain rfl : i = s := by omega
      go_wp2
      go_ret
      exact ⟨_, rfl, filled_rowsNew hfl habove (Nat.le_refl _) (by simp [facs]) (fun i hi => by simp [facs]), hbel⟩
end Go.Proofs.YtokmllopbfmadabDoor.Parts

namespace Go.Proofs.YtokmllopbfmadabDoor.Parts
open Go.RowKit Mem FieldWalks Tab ByTab

theorem infoRow8 : (Tryd.prog.info? 56).map (fun i => (i.zero, i.size, i.bytes)) = some (some (.slice none 0 0), 1, 24) := by kernel_rfl

set_option maxRecDepth 100000 in
theorem grow_any (n : Nat) (hn : n ≤ 200) (w : World) :
    Calls Tryd.prog 62 #[.slice none 0 0, .int .i64 n] w fun e w' => ∃ v, e = .returned v ∧ w'.ownsRow w.heap.size 56 1 v 0 [] ∧ Below w.heap.size w w' := by
  by_cases h0 : n = 0
  · subst h0
    go_enter Tryd.func62, Tryd.ntmps62
    go_wp2
    go_ret
    exact ⟨_, rfl, World.ownsRow_nil _ _ _ _, Below.refl _ _⟩
  · obtain ⟨i0, hi, hz0, hz1, hz2⟩ := info_parts infoRow8
    have hr := Lib.run_append_nil_zeros (P := Tryd.prog) w 82 3 82 56 i0 (.slice none 0 0) .i64 .i64 Tryd.underlying82 Tryd.underlying3 hi hz0 n (by omega) (by omega) (by omega) (by rw [hz2]; omega)
    have hge := grownCap_ge w n 0 56
    have hle := grownCap_le_maxLen w n 0 56 (by unfold maxLen; omega)
    generalize grownCap w n 0 56 = cap at hr hge hle
    have HLE : Hid (cap ≤ maxLen) := hle
    clear hle hi hz0 hz1 hz2
    go_enter Tryd.func62, Tryd.ntmps62
    go_wp2_with (at_builtin; refine Lib.wpList_append_run _ rfl _ _ _ _ rfl _ _ rfl rfl _ _ hr ?_)
    go_ret
    refine ⟨_, rfl, ⟨rfl, .inr ⟨w.heap.size, cap, _, rfl, Nat.le_refl _, heap_alloc_new w.drew _, Nat.zero_le _, HLE.out, ?_, ?_⟩⟩, (Below.refl _ _).drew.alloc (Nat.le_refl _) _⟩
    · simp only [Array.size_append, size_zeroCells]
      simp; omega
    · simp

/-- The slice v reads as these lists of rows. -/
def RowssAt (w : World) (v : Value) (R : List (List (List Nat))) : Prop :=
  ∃ b cap, v = .slice (some ⟨b, 0, none⟩) R.length cap ∧ b < w.heap.size ∧ ∀ k, (h : k < R.length) → ∃ u, w.cell? ⟨b, k, none⟩ = some u ∧ RowsAt w u R[k]

theorem run_loadCells_none' {P : Program} (w : World) (a : Addr) : (loadCells a 0).run P w = .ok #[] w := run_loadCells_list (P := P) w a [] (fun j u hu => by simp at hu)
theorem run_append_empty {P : Program} (w : World) (base : Nat) (t ty e : TypeId) (i : TypeInfo) (size : Nat) (ht : P.underlying t = some (.slice e)) (hi : P.info? e = some i)
    (v : Value) (n : Nat) (xs : List Value) (hown : w.ownsRow base e size v n xs) (ao : Option Addr) (c : Nat) :
    (Builtin.append_ #[t, t] ty #[v, .slice ao 0 c]).run P w = .ok v w := by
  rcases hown.2 with ⟨rfl, rfl⟩ | ⟨g, cap, cur, rfl, _, _, hnc, _⟩ <;> cases ao
  · simp [Builtin.append_, run_underlying ht, sizeOf, typeInfo, hi, Builtin.lenOf, Builtin.firstCells]
  · simp [Builtin.append_, run_underlying ht, sizeOf, typeInfo, hi, Builtin.lenOf, Builtin.firstCells, run_loadCells_none']
  · simp [Builtin.append_, run_underlying ht, sizeOf, typeInfo, hi, Builtin.lenOf, Builtin.firstCells, hnc, storeCells]
  · simp [Builtin.append_, run_underlying ht, sizeOf, typeInfo, hi, Builtin.lenOf, Builtin.firstCells, hnc, storeCells, run_loadCells_none']

theorem flat_next {α : Type} (R : List (List α)) (k : Nat) (h : k < R.length) : (R.take (k + 1)).flatten = (R.take k).flatten ++ R[k] := by
  rw [List.take_add_one, List.getElem?_eq_getElem h, List.flatten_append]; simp
theorem flat_le {α : Type} (R : List (List α)) (k : Nat) : (R.take k).flatten.length ≤ R.flatten.length := by
  have e : R.flatten = (R.take k).flatten ++ (R.drop k).flatten := by rw [← List.flatten_append, List.take_append_drop]
  rw [e, List.length_append]; omega

/-- The cells of rows. -/
theorem rows_cells {w : World} {b off : Nat} {rows : List (List Nat)} (h : ∀ k, (h : k < rows.length) → ∃ u, w.cell? ⟨b, off + k, none⟩ = some u ∧ BsAt w u rows[k]) :
    ∃ us : List Value, us.length = rows.length ∧ (∀ k u, us[k]? = some u → w.cell? ⟨b, off + k, none⟩ = some u) ∧ ∀ k, (h : k < rows.length) → ∃ u, us[k]? = some u ∧ BsAt w u rows[k] := by
  induction rows generalizing off with
  | nil => exact ⟨[], rfl, fun k u hu => by simp at hu, fun k hk => by simp at hk⟩
  | cons r rows ih =>
    obtain ⟨u0, hu0, hb0⟩ := h 0 (by simp)
    obtain ⟨us, hl, hc, hr⟩ := ih (off := off + 1) (fun k hk => by
      obtain ⟨u, hu, hb⟩ := h (k + 1) (by simpa using hk)
      exact ⟨u, by rw [show off + 1 + k = off + (k + 1) by omega]; exact hu, by simpa using hb⟩)
    refine ⟨u0 :: us, by simp [hl], fun k u hu => ?_, fun k hk => ?_⟩
    · cases k with
      | zero => simp at hu; subst hu; exact hu0
      | succ k => rw [show off + (k + 1) = off + 1 + k by omega]; exact hc k u (by simpa using hu)
    · cases k with
      | zero => exact ⟨u0, rfl, by simpa using hb0⟩
      | succ k => simpa using hr k (by simpa using hk)
theorem one_of_bs {w : World} {u : Value} {l : List Nat} (h : BsAt w u l) : u.oneCell' = true := by
  obtain ⟨ao, cap, rfl, _⟩ := h; rfl

/-- Values that read as rows. -/
def ReadAs (w : World) (us : List Value) (rows : List (List Nat)) : Prop := us.length = rows.length ∧ ∀ k, (h : k < rows.length) → ∃ u, us[k]? = some u ∧ BsAt w u rows[k]
theorem ReadAs.append {w : World} {us vs : List Value} {a b : List (List Nat)} (h : ReadAs w us a) (k : ReadAs w vs b) : ReadAs w (us ++ vs) (a ++ b) := by
  refine ⟨by simp [h.1, k.1], fun i hi => ?_⟩
  by_cases hl : i < a.length
  · obtain ⟨u, hu, hb⟩ := h.2 i hl
    refine ⟨u, by rw [List.getElem?_append_left (by rw [h.1]; exact hl)]; exact hu, by rw [List.getElem_append_left hl]; exact hb⟩
  · obtain ⟨u, hu, hb⟩ := k.2 (i - a.length) (by simp at hi; omega)
    refine ⟨u, by rw [List.getElem?_append_right (by rw [h.1]; omega), h.1]; exact hu, by rw [List.getElem_append_right (by omega)]; exact hb⟩
theorem ReadAs.rows {w w' : World} {base : Nat} {v : Value} {us : List Value} {rows : List (List Nat)} (h : ReadAs w us rows) (ho : w'.ownsRow base 56 1 v rows.length us) (hb : Below w.heap.size w w') : RowsAt w' v rows := by
  obtain ⟨hl, h2⟩ := ho
  rcases h2 with ⟨rfl, h0⟩ | ⟨g, cap, cur, rfl, hg, hh, _, _, _, ht⟩
  · exact ⟨none, 0, by rw [h0], .inl (List.eq_nil_of_length_eq_zero h0)⟩
  · refine ⟨_, cap, rfl, .inr ⟨g, 0, rfl, lt_of_block hh, fun k hk => ?_⟩⟩
    obtain ⟨u, hu, hbs⟩ := h.2 k hk
    refine ⟨u, ?_, hbs.to hb⟩
    rw [Nat.zero_add, cell_of_row w' g k cur 56 (0, 0) hh]
    rw [Nat.mul_one] at ht
    rw [← ht, List.getElem?_take_of_lt hk] at hu
    simpa using hu

set_option maxRecDepth 100000 in
set_option maxHeartbeats 1000000 in
theorem concat_any (R : List (List (List Nat))) (v : Value) (w : World) (hv : RowssAt w v R) (hR : R.length ≤ 100) (hF : R.flatten.length ≤ 200) :
    Calls Tryd.prog 53 #[v] w fun e w' => ∃ v', e = .returned v' ∧ RowsAt w' v' R.flatten ∧ Below w.heap.size w w' := by
  obtain ⟨b, cap, rfl, hb, hc⟩ := hv
  have HC : Hid (∀ k, (h : k < R.length) → ∃ u, w.cell? ⟨b, k, none⟩ = some u ∧ RowsAt w u R[k]) := hc
  have HF : Hid (R.flatten.length ≤ 200) := hF
  obtain ⟨i0, hi, hz0, hz1, hz2⟩ := info_parts infoRow8
  have HI : Hid (Tryd.prog.info? 56 = some i0 ∧ i0.zero = some (.slice none 0 0) ∧ i0.size = 1 ∧ i0.bytes = 24) := ⟨hi, hz0, hz1, hz2⟩
  clear hc hF hi hz0 hz1 hz2
  go_enter Tryd.func53, Tryd.ntmps53
  go_wp2
  go_loop [3, 11] (fun t i => ∃ k n : Nat, k ≤ R.length ∧ i = .int .i64 k ∧ t = .int .i64 n ∧ n = (R.take k).flatten.length) (fun _ i => R.length - (intOf i).toNat)
  case atStart => exact ⟨0, 0, Nat.zero_le _, rfl, rfl, by simp⟩
  case round =>
    obtain ⟨k, n, hk, rfl, rfl, hn⟩ := hrel
    have hn2 : n ≤ 200 := by rw [hn]; exact Nat.le_trans (flat_le R k) HF.out
    have HN : Hid (n = (R.take k).flatten.length) := hn
    clear hn
    by_cases hlt : k < R.length
    · obtain ⟨u, hu, ao, c, rfl, hr⟩ := HC.out k hlt
      have hm : n + R[k].length ≤ 200 := by
        have := flat_le R (k + 1)
        rw [flat_next R k hlt, List.length_append, ← HN.out] at this
        exact Nat.le_trans this HF.out
      have HM : Hid (n + R[k].length = (R.take (k + 1)).flatten.length) := by
        show _ = _
        rw [flat_next R k hlt, List.length_append, ← HN.out]
      clear hr
      generalize R[k].length = m at hu hm HM
      go_wp2
      go_round
      case rel => exact ⟨k + 1, n + m, by omega, by go_num, by go_num, HM.out⟩
      case measure => simp [intOf]; omega
    · obtain rfl : k = R.length := by omega
      go_wp2_with fail
      refine (grow_any n hn2 w).mono ?_
      rintro e w1 ⟨v1, rfl, hown1, hb1⟩
      go_wp2
      go_loopw [6, 27] (fun t i wr => ∃ k us, k ≤ R.length ∧ i = .int .i64 (k : Nat) ∧ wr.ownsRow w.heap.size 56 1 t us.length us ∧ ReadAs w us (R.take k).flatten ∧ Below w.heap.size w wr) (fun _ i _ => R.length - (intOf i).toNat)
      case atStart => exact ⟨0, [], Nat.zero_le _, rfl, hown1, ⟨by simp, fun k hk => by simp at hk⟩, hb1⟩
      case round =>
        clear hown1 hb1
        obtain ⟨k, us, hk, rfl, hown, hread, hbel⟩ := hrel
        by_cases hlt : k < R.length
        · obtain ⟨u, hu, ao, c, rfl, hr⟩ := HC.out k hlt
          rw [← hbel.cell (p := ⟨b, k, none⟩) hb] at hu
          have HOWN : Hid (wr.ownsRow w.heap.size 56 1 u6 us.length us) := hown
          have hul : us.length + R[k].length ≤ 200 := by
            have := flat_le R (k + 1)
            rw [flat_next R k hlt, List.length_append, ← hread.1] at this
            exact Nat.le_trans this HF.out
          have HREAD : Hid (ReadAs w us (R.take k).flatten) := hread
          have HFN : Hid ((R.take (k + 1)).flatten = (R.take k).flatten ++ R[k]) := flat_next R k hlt
          clear hown hread
          by_cases h0 : R[k] = []
          · have hrun := run_append_empty (P := Tryd.prog) wr w.heap.size 82 82 56 i0 1 Tryd.underlying82 HI.out.1 u6 us.length us HOWN.out ao c
            rw [h0, List.length_nil] at hu
            have HFN2 : Hid ((R.take (k + 1)).flatten = (R.take k).flatten) := by rw [HFN.out, h0]; exact List.append_nil _
            clear hr HFN h0 hul
            go_wp2_with (at_builtin; refine Lib.wpList_append_run _ rfl _ _ _ _ rfl _ _ rfl rfl _ _ hrun ?_)
            go_roundw
            case rel => exact ⟨k + 1, us, by omega, by go_num, HOWN.out, by rw [HFN2.out]; exact HREAD.out, hbel⟩
            case measure => simp [intOf]; omega
          · obtain ⟨rb, off, rfl, hrb, hrc⟩ : ∃ b off, ao = some ⟨b, off, none⟩ ∧ b < w.heap.size ∧ ∀ j, (h : j < R[k].length) → ∃ u, w.cell? ⟨b, off + j, none⟩ = some u ∧ BsAt w u R[k][j] := by
              rcases hr with h | h
              · exact absurd h h0
              · exact h
            obtain ⟨vs, hvl, hvc, hvr⟩ := rows_cells hrc
            have HNEW : Hid (∀ j u, vs[j]? = some u → wr.cell? ((⟨rb, off, none⟩ : Addr).add j) = some u) := fun j u hu => by
              rw [Addr.add_lit, hbel.cell (p := ⟨rb, off + j, none⟩) hrb]; exact hvc j u hu
            have HONE : Hid (∀ u ∈ vs, u.oneCell' = true) := fun u hu => by
              obtain ⟨j, hj, e⟩ := List.mem_iff_getElem.1 hu
              obtain ⟨u', hu', hb'⟩ := hvr j (by omega)
              rw [List.getElem?_eq_getElem hj, Option.some.injEq] at hu'
              rw [← e, hu']; exact one_of_bs hb'
            have HVR : Hid (ReadAs w vs R[k]) := ⟨hvl, hvr⟩
            have HVL : Hid (vs.length = R[k].length * 1) := by rw [Nat.mul_one]; exact hvl
            clear hr hrc hvl hvc hvr h0
            generalize R[k] = rk at hu hul HFN HVR HVL
            have hsz := hbel.size
            go_wp2_with ((at_builtin; refine wpList_append_own _ rfl _ _ 82 rfl w.heap.size 56 i0 (.slice none 0 0) 1 24 Tryd.underlying82 HI.out.1 HI.out.2.1 HI.out.2.2.1 HI.out.2.2.2 rfl (by decide) u6 us.length us rfl HOWN.out ⟨rb, off, none⟩ rk.length c vs rfl HVL.out HNEW.out HONE.out (by unfold maxLen; omega) (by omega) hsz ?_); intro v' w2 hown2 hg2 _)
            have hb2 := below_grown hbel HOWN.out hg2 hsz (Nat.le_refl _)
            have HO2 : Hid (w2.ownsRow w.heap.size 56 1 v' (us ++ vs).length (us ++ vs)) := by
              rw [List.length_append, HVR.out.1]; exact hown2
            clear hown2 hg2
            go_wp2
            go_roundw
            case rel => exact ⟨k + 1, us ++ vs, by omega, by go_num, HO2.out, by rw [HFN.out]; exact HREAD.out.append HVR.out, hb2⟩
            case measure => simp [intOf]; omega
        · obtain rfl : k = R.length := by omega
          rw [List.take_length] at hread
          have HOWN : Hid (wr.ownsRow w.heap.size 56 1 u6 us.length us) := hown
          have HREAD : Hid (ReadAs w us R.flatten) := hread
          clear hown hread
          go_wp2
          go_ret
          refine ⟨_, rfl, ?_, hbel⟩
          have h1 := HOWN.out
          have h2 := HREAD.out
          rw [h2.1] at h1
          exact h2.rows h1 hbel
end Go.Proofs.YtokmllopbfmadabDoor.Parts

namespace Go.Proofs.YtokmllopbfmadabDoor.Ref
open Go.RowKit Mem FieldWalks Tab ByTab Parts
open Gf (Bytes chosen left_ rowOf enough Wide)
open Plans (But rowF intsV infoInt)

/-- The value u reads as these bytes, and does not lie in the block B. -/
def BsNe (w : World) (B : Nat) (Q : Prop) (u : Value) (l : List Nat) : Prop := ∃ ao c, u = .slice ao l.length c ∧ (Q → l.length ≤ c) ∧ (l = [] ∨ ∃ b off, ao = some ⟨b, off, none⟩ ∧ b ≠ B ∧ b < w.heap.size ∧ ∀ k, (h : k < l.length) → w.cell? ⟨b, off + k, none⟩ = some (.int .u8 (l[k] : Nat)))
theorem BsNe.to {w w' : World} {B : Nat} {Q : Prop} {u : Value} {l : List Nat} (h : BsNe w B Q u l) (hb : Below w.heap.size w w') : BsNe w' B Q u l := by
  obtain ⟨ao, c, rfl, hq, h⟩ := h
  refine ⟨ao, c, rfl, hq, ?_⟩
  rcases h with h | ⟨b, off, rfl, h1, h2, h3⟩
  · exact .inl h
  · exact .inr ⟨b, off, rfl, h1, Nat.lt_of_lt_of_le h2 hb.size, fun k hk => by rw [hb.cell (p := ⟨b, off + k, none⟩) h2]; exact h3 k hk⟩
theorem BsNe.set {w : World} {B : Nat} {Q : Prop} {u : Value} {l : List Nat} (h : BsNe w B Q u l) (i : Nat) (v : Value) : BsNe (w.setCell ⟨B, i, none⟩ v) B Q u l := by
  obtain ⟨ao, c, rfl, hq, h⟩ := h
  refine ⟨ao, c, rfl, hq, ?_⟩
  rcases h with h | ⟨b, off, rfl, h1, h2, h3⟩
  · exact .inl h
  · exact .inr ⟨b, off, rfl, h1, by rw [size_setCell]; exact h2, fun k hk => by rw [World.cell?_setCell_other _ _ _ _ (by intro h; injection h; omega)]; exact h3 k hk⟩
theorem BsNe.bs {w : World} {B : Nat} {Q : Prop} {u : Value} {l : List Nat} (h : BsNe w B Q u l) : BsAt w u l := by
  obtain ⟨ao, c, rfl, hq, h⟩ := h
  refine ⟨ao, c, rfl, ?_⟩
  rcases h with h | ⟨b, off, rfl, h1, h2, h3⟩
  · exact .inl h
  · exact .inr ⟨b, off, rfl, h2, h3⟩
theorem BsNe.bsC {w : World} {B : Nat} {u : Value} {l : List Nat} (h : BsNe w B True u l) : BsC w u l := by
  obtain ⟨ao, c, rfl, hq, h⟩ := h
  have := hq trivial
  refine ⟨ao, c - l.length, by congr 1; omega, ?_⟩
  rcases h with h | ⟨b, off, rfl, h1, h2, h3⟩
  · exact .inl h
  · exact .inr ⟨b, off, rfl, h2, h3⟩
theorem BsC.ne {w : World} {B : Nat} {u : Value} {l : List Nat} (h : BsC w u l) (hB : w.heap.size ≤ B) : BsNe w B True u l := by
  obtain ⟨ao, ex, rfl, h⟩ := h
  refine ⟨ao, _, rfl, fun _ => by omega, ?_⟩
  rcases h with h | ⟨b, off, rfl, h2, h3⟩
  · exact .inl h
  · exact .inr ⟨b, off, rfl, by omega, h2, h3⟩
/-- The first r rows of the list at B are there; the rest are none yet. -/
def Fill9 (w : World) (B n r : Nat) (Q : Prop) (rows : Nat → List Nat) : Prop := ∃ us : List Value, us.length = n ∧ Blk w B 56 us ∧ ∀ k, k < r → ∃ u, us[k]? = some u ∧ BsNe w B Q u (rows k)
section
variable {w w' : World} {B n r : Nat} {Q : Prop} {rows : Nat → List Nat}
theorem Fill9.start {us : List Value} (h : Blk w B 56 us) (hl : us.length = n) (Q : Prop) (rows : Nat → List Nat) : Fill9 w B n 0 Q rows := ⟨us, hl, h, fun k hk => by omega⟩
theorem Fill9.to (h : Fill9 w B n r Q rows) (hb : Below w.heap.size w w') : Fill9 w' B n r Q rows := by
  obtain ⟨us, h1, h2, h3⟩ := h
  refine ⟨us, h1, h2.to hb, fun k hk => ?_⟩
  obtain ⟨u, h4, h5⟩ := h3 k hk
  exact ⟨u, h4, h5.to hb⟩
theorem Fill9.cell (h : Fill9 w B n r Q rows) (k : Nat) (hk : k < n) : (∃ v, w.cell? ⟨B, k, none⟩ = some v) ∧ w.frozen? ⟨B, k, none⟩ = false ∧ B < w.heap.size := by
  obtain ⟨us, h1, h2, h3⟩ := h
  exact ⟨⟨us[k]'(by omega), h2.cell_some (by simp [show k < us.length by omega])⟩, h2.free k, h2.lt⟩
theorem Fill9.step {u : Value} (h : Fill9 w B n r Q rows) (hr : r < n) (hb : BsNe w B Q u (rows r)) : Fill9 (w.setCell ⟨B, r, none⟩ u) B n (r + 1) Q rows := by
  obtain ⟨us, h1, h2, h3⟩ := h
  refine ⟨us.set r u, by simpa using h1, h2.set r _, fun k hk => ?_⟩
  by_cases e : k = r
  · subst e
    exact ⟨u, by simp [show k < us.length by omega], hb.set _ _⟩
  · obtain ⟨u', h4, h5⟩ := h3 k (by omega)
    exact ⟨u', by rw [List.getElem?_set_ne (by omega)]; exact h4, h5.set _ _⟩
/-- A row that is written in new memory behind the list's store. -/
theorem Fill9.laid {W : World} {b m c : Nat} (h : Fill9 w B n r Q rows) (hr : r < n) (hl : Laid w W B r (.slice (some ⟨b, 0, none⟩) m c)) (hm : m = (rows r).length) (hq : Q → m ≤ c) (hbB : b ≠ B) (hb : Row8 W b (rows r)) : Fill9 W B n (r + 1) Q rows := by
  obtain ⟨us, h1, h2, h3⟩ := h
  subst hm
  refine ⟨us.set r _, by simpa using h1, hl.row.trans (h2.set r _), fun k hk => ?_⟩
  by_cases e : k = r
  · subst e
    exact ⟨_, by simp [show k < us.length by omega], _, c, rfl, hq, .inr ⟨b, 0, rfl, hbB, hb.lt, fun k hk => by rw [Nat.zero_add]; exact hb.cell k hk⟩⟩
  · obtain ⟨u', h4, ao', c', rfl, h7, h9⟩ := h3 k (by omega)
    refine ⟨_, by rw [List.getElem?_set_ne (by omega)]; exact h4, ao', c', rfl, h7, ?_⟩
    rcases h9 with h9 | ⟨b', off', rfl, h5, h6, h8⟩
    · exact .inl h9
    · exact .inr ⟨b', off', rfl, h5, Nat.lt_of_lt_of_le h6 hl.size, fun i hi => by rw [World.cell?_of_block (hl.rest b' h5 h6)]; exact h8 i hi⟩
end
theorem Fill9.rows {w : World} {B n : Nat} {Q : Prop} {rows : Nat → List Nat} (h : Fill9 w B n n Q rows) (ls : List (List Nat)) (hl : ls.length = n) (he : ∀ k, (h : k < ls.length) → ls[k] = rows k) : RowsAt w (.slice (some ⟨B, 0, none⟩) n n) ls := by
  obtain ⟨us, h1, h2, h3⟩ := h
  refine ⟨_, n, by rw [hl], .inr ⟨B, 0, rfl, h2.lt, fun k hk => ?_⟩⟩
  obtain ⟨u, h4, h5⟩ := h3 k (by omega)
  exact ⟨u, by rw [Nat.zero_add]; exact h2.cell_some h4, by rw [he k hk]; exact h5.bs⟩
theorem Fill9.rowsC {w : World} {B n : Nat} {rows : Nat → List Nat} (h : Fill9 w B n n True rows) (ls : List (List Nat)) (hl : ls.length = n) (he : ∀ k, (h : k < ls.length) → ls[k] = rows k) : RowsC w (.slice (some ⟨B, 0, none⟩) n n) ls := by
  obtain ⟨us, h1, h2, h3⟩ := h
  refine ⟨_, 0, by rw [hl, Nat.add_zero], .inr ⟨B, 0, rfl, h2.lt, fun k hk => ?_⟩⟩
  obtain ⟨u, h4, h5⟩ := h3 k (by omega)
  exact ⟨u, by rw [Nat.zero_add]; exact h2.cell_some h4, by rw [he k hk]; exact h5.bsC⟩

theorem unit_row (d p : Nat) (hp : p < d) : (List.replicate d 0).set p 1 = rowF d (rowOf d p) := by
  apply List.ext_getElem
  · simp
  · intro k h1 h2
    rw [List.getElem_set]
    simp only [rowF, List.getElem_map, List.getElem_range, rowOf, if_pos hp]
    by_cases e : p = k
    · rw [if_pos e, if_pos e]
    · rw [if_neg e, if_neg e]; simp
theorem spare_row (d p : Nat) (hp : ¬ p < d) : facRow d (p - d) = rowF d (rowOf d p) := by
  unfold facRow rowF
  refine List.map_congr_left fun k _ => ?_
  rw [rowOf, if_neg hp, show d + (p - d) = p by omega]

set_option maxRecDepth 100000 in
set_option maxHeartbeats 2000000 in
theorem madeBy_any (d s : Nat) (ns : List Nat) (nb : Nat) (w : World) (ht : Table w) (hd : 1 ≤ d) (hd2 : d ≤ 10) (hs : s ≤ 6) (hns : ns.length = d) (hlt : ∀ k, (h : k < ns.length) → ns[k] < d + s) (hnb : Blk w nb 3 (intsV ns)) :
    Calls Tryd.prog 64 #[.int .i64 d, .int .i64 s, .slice (some ⟨nb, 0, none⟩) d d] w fun e w' => ∃ v, e = .returned v ∧ RowsAt w' v (ns.map fun p => rowF d (rowOf d p)) ∧ Below w.heap.size w w' := by
  have HNS : Hid (ns.length = d) := hns
  have HLT : Hid (∀ k, (h : k < ns.length) → ns[k] < d + s) := hlt
  have HNB : Hid (Blk w nb 3 (intsV ns)) := hnb
  have hnbl := hnb.lt
  have hmk := fun w => make_rows d (by omega) w
  have hmb := fun w => make_bytes d (by omega) w
  clear hns hlt hnb
  go_enter Tryd.func64, Tryd.ntmps64
  go_wp2_with fail
  refine (factors_new d s (by omega) (by omega) _ ht).mono ?_
  rintro e w1 ⟨fv, rfl, hfac, hb1⟩
  have HFN : Hid (RowsNew w1 w.heap.size fv (facs d s)) := hfac
  obtain ⟨fg, fc, rfl, _⟩ := hfac
  rw [show (facs d s).length = s by simp [facs]] at HFN ⊢
  have HB1 : Hid (Below w.heap.size w w1) := hb1
  clear hb1
  go_wp2
  go_loopw [19] (fun i wr => ∃ k : Nat, k ≤ d ∧ i = .int .i64 k ∧ Fill9 wr w1.heap.size d k False (fun k => rowF d (rowOf d (ns.getD k 0))) ∧ Below w1.heap.size w1 wr) (fun i _ => d - (intOf i).toNat)
  case atStart => exact ⟨0, Nat.zero_le _, rfl, Fill9.start ((Blk.new w1 _ _).eq (toList_madeCells_one _ d)) (by simp) _ _, (Below.refl _ _).alloc (Nat.le_refl _) _⟩
  case round =>
    obtain ⟨k, hk, rfl, hfill, hbel⟩ := hrel
    by_cases hkd : k < d
    · have hkn : k < ns.length := by rw [HNS.out]; exact hkd
      have c1 := ((HNB.out.to HB1.out).to hbel).cell_some (k := k) (v := .int .i64 (ns[k] : Nat)) (by simp [intsV, hkn])
      obtain ⟨p, hp⟩ : ∃ p, p = ns[k] := ⟨_, rfl⟩
      have hpl : p < d + s := by rw [hp]; exact HLT.out k hkn
      rw [← hp] at c1
      have HP : Hid (ns.getD k 0 = p) := by show _ = _; rw [hp]; simp [hkn]
      obtain ⟨⟨ov, k1⟩, k2, k3⟩ := hfill.cell k hkd
      have HF : Hid (Fill9 wr w1.heap.size d k False (fun k => rowF d (rowOf d (ns.getD k 0)))) := hfill
      have HBL : Hid (Below w1.heap.size w1 wr) := hbel
      have hsz := hbel.size
      by_cases hpd : p < d
      · obtain ⟨W1, hW1⟩ : ∃ W1, W1 = (wr.setCell ⟨w1.heap.size, k, none⟩ (.slice (some ⟨wr.heap.size, 0, none⟩) d d)).alloc (.cells ((madeCells #[.int .u8 0] d).setIfInBounds p (.int .u8 1)) 5) := ⟨_, rfl⟩
        have HLA : Hid (Laid wr W1 w1.heap.size k (.slice (some ⟨wr.heap.size, 0, none⟩) d d)) := by rw [hW1]; exact Laid.start wr _ _ _ _ k3
        have HN1 : Hid (Blk W1 wr.heap.size 5 (bytesV (rowF d (rowOf d p)))) := by
          have := Blk.new (wr.setCell ⟨w1.heap.size, k, none⟩ (.slice (some ⟨wr.heap.size, 0, none⟩) d d)) ((madeCells #[.int .u8 0] d).setIfInBounds p (.int .u8 1)) 5
          rw [size_setCell, ← hW1] at this
          refine this.eq ?_
          rw [Array.toList_setIfInBounds, toList_madeCells_one, ← unit_row d p hpd]
          simp [bytesV, List.map_set]
        have HB2 : Hid (Below w1.heap.size w1 W1) := by
          rw [hW1]; exact (hbel.setCell (Nat.le_refl _) _).alloc (by rw [size_setCell]; exact hsz) _
        have HGW : Hid ((wr.setCell ⟨w1.heap.size, k, none⟩ (.slice (some ⟨wr.heap.size, 0, none⟩) d d)).alloc (.cells ((madeCells #[.int .u8 0] d).setIfInBounds p (.int .u8 1)) 5) = W1) := hW1.symm
        have HF2 : Hid (Fill9 W1 w1.heap.size d (k + 1) False (fun k => rowF d (rowOf d (ns.getD k 0)))) :=
          HF.out.laid hkd (b := wr.heap.size) (m := d) (c := d) HLA.out (by simp) (fun h => h.elim) (by omega) (by rw [HP.out]; exact Row8.of_blk HN1.out)
        have hN0 : Blk ((wr.setCell ⟨w1.heap.size, k, none⟩ (.slice (some ⟨wr.heap.size, 0, none⟩) d d)).alloc (.cells (madeCells #[.int .u8 0] d) 5)) wr.heap.size 5 (bytesV (List.replicate d 0)) := by
          have := made_bytes (wr.setCell ⟨w1.heap.size, k, none⟩ (.slice (some ⟨wr.heap.size, 0, none⟩) d d)) d
          rw [size_setCell] at this
          exact this
        have c2 := hN0.cell_some (k := p) (v := .int .u8 0) (by simp [bytesV, hpd])
        have f2 := hN0.free p
        clear hW1 hfill hbel hp hN0
        go_wp2
        go_roundw
        case rel => exact ⟨k + 1, by omega, by go_num, by rw [HGW.out]; exact HF2.out, by rw [HGW.out]; exact HB2.out⟩
        case measure => simp [intOf]; omega
      · obtain ⟨q, hq⟩ : ∃ q, p = d + q := ⟨p - d, by omega⟩
        have hqs : q < s := by omega
        have eq1 : (p : Int) - (d : Int) = (q : Int) := by omega
        have HPQ : Hid (p = d + q) := hq
        obtain ⟨fb, fc', hfb, hfl, gf, ge⟩ : ∃ fb fc', w.heap.size ≤ fb ∧ fb < w1.heap.size ∧ wr.cell? ⟨fg, q, none⟩ = some (.slice (some ⟨fb, 0, none⟩) d fc') ∧ ∀ j, (hj : j < (facRow d q).length) → wr.cell? ⟨fb, j, none⟩ = some (.int .u8 ((facRow d q)[j] : Nat)) := by
          obtain ⟨g', c', he, h1, h2, h3⟩ := HFN.out
          injection he with he _ _
          injection he with he
          injection he with he
          subst he
          obtain ⟨b, c'', h4, h5, h6, h7⟩ := h3 q (by simp [facs]; exact hqs)
          have hlr : (facs d s)[q]'(by simp [facs]; exact hqs) = facRow d q := by simp [facs]
          rw [hlr] at h6
          refine ⟨b, c'', h4, h5, by rw [hbel.cell (p := ⟨_, q, none⟩) h2, h6, facRow_length], fun j hj => ?_⟩
          rw [hbel.cell (p := ⟨b, j, none⟩) h5, h7 j (by rw [hlr]; exact hj)]
          simp [hlr]
        have HF2 : Hid (Fill9 (wr.setCell ⟨w1.heap.size, k, none⟩ (.slice (some ⟨fb, 0, none⟩) d fc')) w1.heap.size d (k + 1) False (fun k => rowF d (rowOf d (ns.getD k 0)))) := by
          refine HF.out.step hkd ?_
          show BsNe wr w1.heap.size False (.slice (some ⟨fb, 0, none⟩) d fc') (rowF d (rowOf d (ns.getD k 0)))
          have e2 : rowF d (rowOf d (ns.getD k 0)) = facRow d q := by
            rw [HP.out, ← spare_row d p hpd, show p - d = q by omega]
          rw [e2]
          exact ⟨_, fc', by rw [facRow_length], fun h => h.elim, .inr ⟨fb, 0, rfl, by omega, by omega, fun j hj => by rw [Nat.zero_add]; exact ge j hj⟩⟩
        clear hfill hbel hp ge hq
        go_wp2
        go_roundw
        case rel => exact ⟨k + 1, by omega, by go_num, HF2.out, HBL.out.setCell (Nat.le_refl _) _⟩
        case measure => simp [intOf]; omega
    · obtain rfl : d = k := by omega
      have HR : Hid (RowsAt wr (.slice (some ⟨w1.heap.size, 0, none⟩) d d) (ns.map fun p => rowF d (rowOf d p))) := hfill.rows _ (by simp [HNS.out]) (fun i hi => by
        have hi' : i < ns.length := by simpa using hi
        simp [hi'])
      have HB9 : Hid (Below w.heap.size w wr) := HB1.out.trans (hbel.mono HB1.out.size)
      clear hfill hbel
      go_wp2
      go_ret
      exact ⟨_, rfl, HR.out, HB9.out⟩
end Go.Proofs.YtokmllopbfmadabDoor.Ref
