import Derived.Test.YtokmllopbfmadaaGreatDoorGFactors
import Derived.Test.YtokmllopbfmadaaGreatDoorGPInv
import Derived.Test.YtokmllopbfmadaaGreatDoorGRefSpread
/- The factors, in new memory: what a call that writes elsewhere keeps. -/
namespace Go.Proofs.YtokmllopbfmadaaGreatDoor.Parts
open Go.RowKit Mem FieldWalks Tab ByTab

/-- The first i rows of the list at B lie in blocks from base on. -/
def Above (w : World) (B i base : Nat) : Prop := ∀ k, k < i → ∃ b n c, w.cell? ⟨B, k, none⟩ = some (.slice (some ⟨b, 0, none⟩) n c) ∧ base ≤ b
theorem Above.laid {w W : World} {B n i base b m c : Nat} {f : Nat → List Nat} (h : Above w B i base) (hl : Laid w W B i (.slice (some ⟨b, 0, none⟩) m c)) (hf : Filled w B n i f) (hi : i < n) (hb : base ≤ b) : Above W B (i + 1) base := by
  intro k hk
  by_cases e : k = i
  · subst e
    exact ⟨b, m, c, (hl.cell hf hi).1, hb⟩
  · obtain ⟨b', m', c', hc, hb'⟩ := h k (by omega)
    refine ⟨b', m', c', ?_, hb'⟩
    rw [World.cell?_of_block (w := w.setCell ⟨B, i, none⟩ _) (a := ⟨B, k, none⟩) hl.row, World.cell?_setCell_other _ _ _ _ (by intro h; injection h; omega)]
    exact hc
/-- The slice v reads as these rows; all of it lies in blocks from base on. -/
def RowsNew (w : World) (base : Nat) (v : Value) (rows : List (List Nat)) : Prop :=
  ∃ g c, v = .slice (some ⟨g, 0, none⟩) rows.length c ∧ base ≤ g ∧ g < w.heap.size ∧ ∀ k, (h : k < rows.length) → ∃ b c', base ≤ b ∧ b < w.heap.size ∧ w.cell? ⟨g, k, none⟩ = some (.slice (some ⟨b, 0, none⟩) rows[k].length c') ∧ ∀ j, (hj : j < rows[k].length) → w.cell? ⟨b, j, none⟩ = some (.int .u8 (rows[k][j] : Nat))
/-- All blocks from base on are as they were. -/
def Over (base : Nat) (w w' : World) : Prop := w.heap.size ≤ w'.heap.size ∧ ∀ b, base ≤ b → b < w.heap.size → w'.heap[b]? = w.heap[b]?
theorem Over.refl (base : Nat) (w : World) : Over base w w := ⟨Nat.le_refl _, fun _ _ _ => rfl⟩
theorem Over.to {base : Nat} {w w' w'' : World} (h : Over base w w') (hb : Below w'.heap.size w' w'') : Over base w w'' :=
  ⟨Nat.le_trans h.1 hb.size, fun b h1 h2 => (hb.block b (Nat.lt_of_lt_of_le h2 h.1)).trans (h.2 b h1 h2)⟩
theorem Over.setCell {base : Nat} {w w' : World} (h : Over base w w') {a : Addr} (ha : a.block < base) (v : Value) : Over base w (w'.setCell a v) :=
  ⟨by rw [size_setCell]; exact h.1, fun b h1 h2 => (Below.heap_setCell w' a v b (by omega)).trans (h.2 b h1 h2)⟩
theorem Over.drew {base : Nat} {w w' : World} (h : Over base w w') : Over base w w'.drew := h
theorem RowsNew.over {w w' : World} {base : Nat} {v : Value} {rows : List (List Nat)} (h : RowsNew w base v rows) (ho : Over base w w') : RowsNew w' base v rows := by
  obtain ⟨g, c, rfl, h1, h2, h3⟩ := h
  refine ⟨g, c, rfl, h1, Nat.lt_of_lt_of_le h2 ho.1, fun k hk => ?_⟩
  obtain ⟨b, c', b1, b2, b3, b4⟩ := h3 k hk
  exact ⟨b, c', b1, Nat.lt_of_lt_of_le b2 ho.1, by rw [World.cell?_of_block (ho.2 g h1 h2)]; exact b3, fun j hj => by rw [World.cell?_of_block (ho.2 b b1 b2)]; exact b4 j hj⟩
theorem RowsNew.rows {w : World} {base : Nat} {v : Value} {rows : List (List Nat)} (h : RowsNew w base v rows) : RowsAt w v rows := by
  obtain ⟨g, c, rfl, h1, h2, h3⟩ := h
  refine ⟨_, c, rfl, .inr ⟨g, 0, rfl, h2, fun k hk => ?_⟩⟩
  obtain ⟨b, c', b1, b2, b3, b4⟩ := h3 k hk
  exact ⟨_, by rw [Nat.zero_add]; exact b3, _, c', rfl, .inr ⟨b, 0, rfl, b2, fun j hj => by rw [Nat.zero_add]; exact b4 j hj⟩⟩
theorem filled_rowsNew {w : World} {B n base : Nat} {f : Nat → List Nat} (h : Filled w B n n f) (ha : Above w B n base) (hB : base ≤ B) {rows : List (List Nat)} (hr : rows.length = n) (he : ∀ k, (h : k < rows.length) → rows[k] = f k) : RowsNew w base (.slice (some ⟨B, 0, none⟩) n n) rows := by
  refine ⟨B, n, by rw [hr], hB, h.lt, fun k hk => ?_⟩
  obtain ⟨u, hu, b, rfl, hb⟩ := h.row (k := k) (by omega)
  obtain ⟨b', m', c', hc, hb'⟩ := ha k (by omega)
  rw [hu] at hc
  injection hc with hc
  injection hc with hc _ _
  injection hc with hc
  injection hc with hc
  subst hc
  rw [← he k hk] at hu hb
  exact ⟨b, _, hb', hb.lt, hu, fun j hj => hb.cell_some (bytesV_at hj)⟩

set_option maxRecDepth 100000 in
set_option maxHeartbeats 1000000 in
theorem factors_new (d s : Nat) (hd : d ≤ 100) (hs : s ≤ 100) (w : World) (ht : Table w) :
    Calls Tryz.prog 44 #[.int .i64 d, .int .i64 s] w fun e w' => ∃ v, e = .returned v ∧ RowsNew w' w.heap.size v (facs d s) ∧ Below w.heap.size w w' := by
  have hmk := fun w => make_rows s (by omega) w
  have hmb := fun w => make_bytes d (by omega) w
  go_enter Tryz.func44, Tryz.ntmps44
  go_wp2
  go_loopw [12] (fun i wr => ∃ k : Nat, k ≤ s ∧ i = .int .i64 k ∧ Filled wr w.heap.size s k (facRow d) ∧ Above wr w.heap.size k w.heap.size ∧ Below w.heap.size w wr) (fun i _ => s - (intOf i).toNat)
  case atStart => exact ⟨0, Nat.zero_le _, rfl, made_rows _ _ _, fun k hk => by omega, (Below.refl _ _).alloc (Nat.le_refl _) _⟩
  case round =>
    obtain ⟨i, hi, rfl, hfl, habove, hbel⟩ := hrel
    by_cases hlt : i < s
    · obtain ⟨⟨v0, hv0⟩, hfr⟩ := (hfl.to ((Below.refl _ _).alloc (Nat.le_refl _) (.cells (madeCells #[.int .u8 0] d) 5))).cell hlt
      have hBlt := hfl.lt
      have HF : Hid (Filled wr w.heap.size s i (facRow d)) := hfl
      have HAB : Hid (Above wr w.heap.size i w.heap.size) := habove
      clear hfl habove
      go_wp2
      obtain ⟨wo, rfl⟩ : ∃ wo, wo = wr := ⟨_, rfl⟩
      clear hv0 hfr
      have hsz := hbel.size
      go_loopw [21] (fun t wq => ∃ k : Nat, k ≤ d ∧ t = .int .i64 k ∧ Laid wo wq w.heap.size i (.slice (some ⟨wo.heap.size, 0, none⟩) d d) ∧ Blk wq wo.heap.size 5 (bytesV (mix (facRow d i) (List.replicate d 0) k)) ∧ Below w.heap.size w wq) (fun t _ => d - (intOf t).toNat)
      case atStart =>
        refine ⟨0, Nat.zero_le _, rfl, Laid.start wo _ _ _ _ hBlt, ?_, ?_⟩
        · rw [mix_zero]
          have := made_bytes (wo.setCell ⟨w.heap.size, i, none⟩ (.slice (some ⟨wo.heap.size, 0, none⟩) d d)) d
          rw [size_setCell] at this
          exact this
        · exact (hbel.setCell (Nat.le_refl _) _).alloc (by rw [size_setCell]; exact hsz) _
      case round =>
        obtain ⟨j, hj, rfl, hlaid, hblk, hbq⟩ := hrel
        by_cases hjlt : j < d
        · obtain ⟨hc1, _⟩ := hlaid.cell HF.out hlt
          have hlf : (facRow d i).length = (List.replicate d 0).length := by simp [facRow]
          have hc2 := hblk.cell_some (k := j) (v := .int .u8 0) (by rw [mix_bytes, mix_at (by simp [facRow]) (by simpa using hjlt)]; simp [bytesV])
          have hf2 := hblk.free j
          obtain ⟨x, hx⟩ : ∃ x, x = (d + i) ^^^ j := ⟨_, rfl⟩
          have hxb : x < 256 := by rw [hx]; exact Gf.xor_lt (by omega) (by omega)
          have EX : Hid (IntKind.u8.wrap (bits .xor .i64 (IntKind.i64.wrap ((d : Int) + (i : Int))) (j : Int)) = (x : Int)) := by
            show _ = _
            rw [show (d : Int) + (i : Int) = ((d + i : Nat) : Int) by omega, show IntKind.i64.wrap ((d + i : Nat) : Int) = ((d + i : Nat) : Int) by rw [IntKind.wrap_i64]; omega, Gf.i64_xor _ _ (by omega) (by omega), ← hx]
            exact byte_conv x hxb
          have HX : Hid (x = (d + i) ^^^ j) := hx
          have hT := table_to ht hbq
          have HLA : Hid _ := hlaid
          have HB : Hid (Blk wr wo.heap.size 5 (bytesV (mix (facRow d i) (List.replicate d 0) j))) := hblk
          have HT : Hid (Table wr) := hT
          clear hx hlaid hblk hT hlf
          go_wp2_with fail
          go_region_with (go_at_call 69; rw [EX.out]; refine (inv_any x hxb _ (by exact HT.out)).mono ?_; rintro e w2 ⟨rfl, rfl⟩)
          all_goals
            go_wp2
            go_roundw
            case rel =>
              refine ⟨j + 1, by omega, by go_num, (HLA.out.setCell (Nat.le_refl _) hBlt _).drew, ?_, (hbq.setCell (by exact hsz) _).drew⟩
              have e := mix_set (k := j) (new := facRow d i) (old := List.replicate d 0) (by simp [facRow]) (by simpa using hjlt)
              refine (HB.out.set j _).drew.eq ?_
              rw [bytesV_set, ← e, HX.out]
              simp [facRow]
            case measure => simp [intOf]; omega
        · obtain rfl : j = d := by omega
          go_wp2
          have R : Filled wr w.heap.size s (i + 1) (facRow j) := by
            refine hlaid.filled HF.out hlt ⟨wo.heap.size, by rw [facRow_length], hblk.eq ?_⟩
            have e := mix_all (new := facRow j i) (old := List.replicate j 0) (by simp [facRow])
            simp only [List.length_replicate] at e
            rw [e]
          have R2 : Above wr w.heap.size (i + 1) w.heap.size := HAB.out.laid hlaid HF.out hlt hsz
          go_roundw
          case rel => exact ⟨i + 1, by omega, by go_num, R, R2, hbq⟩
          case measure => simp [intOf]; omega
    · obtain rfl : i = s := by omega
      go_wp2
      go_ret
      exact ⟨_, rfl, filled_rowsNew hfl habove (Nat.le_refl _) (by simp [facs]) (fun i hi => by simp [facs]), hbel⟩
end Go.Proofs.YtokmllopbfmadaaGreatDoor.Parts

namespace Go.Proofs.YtokmllopbfmadaaGreatDoor.Ref
open Go.RowKit Mem FieldWalks Tab ByTab Parts
open Gf (Bytes chosen left_ rowOf enough Wide)
open Plans (But rowF intsV infoInt)

/-- The value u reads as these bytes, and does not lie in the block B. -/
def BsNe (w : World) (B : Nat) (Q : Prop) (u : Value) (l : List Nat) : Prop := ∃ ao c, u = .slice ao l.length c ∧ (Q → l.length ≤ c) ∧ (l = [] ∨ ∃ b off, ao = some ⟨b, off, none⟩ ∧ b ≠ B ∧ b < w.heap.size ∧ ∀ k, (h : k < l.length) → w.cell? ⟨b, off + k, none⟩ = some (.int .u8 (l[k] : Nat)))
theorem BsNe.to {w w' : World} {B : Nat} {Q : Prop} {u : Value} {l : List Nat} (h : BsNe w B Q u l) (hb : Below w.heap.size w w') : BsNe w' B Q u l := by
  obtain ⟨ao, c, rfl, hq, h⟩ := h
  refine ⟨ao, c, rfl, hq, ?_⟩
  rcases h with h | ⟨b, off, rfl, h1, h2, h3⟩
  · exact .inl h
  · exact .inr ⟨b, off, rfl, h1, Nat.lt_of_lt_of_le h2 hb.size, fun k hk => by rw [hb.cell (p := ⟨b, off + k, none⟩) h2]; exact h3 k hk⟩
theorem BsNe.set {w : World} {B : Nat} {Q : Prop} {u : Value} {l : List Nat} (h : BsNe w B Q u l) (i : Nat) (v : Value) : BsNe (w.setCell ⟨B, i, none⟩ v) B Q u l := by
  obtain ⟨ao, c, rfl, hq, h⟩ := h
  refine ⟨ao, c, rfl, hq, ?_⟩
  rcases h with h | ⟨b, off, rfl, h1, h2, h3⟩
  · exact .inl h
  · exact .inr ⟨b, off, rfl, h1, by rw [size_setCell]; exact h2, fun k hk => by rw [World.cell?_setCell_other _ _ _ _ (by intro h; injection h; omega)]; exact h3 k hk⟩
theorem BsNe.bs {w : World} {B : Nat} {Q : Prop} {u : Value} {l : List Nat} (h : BsNe w B Q u l) : BsAt w u l := by
  obtain ⟨ao, c, rfl, hq, h⟩ := h
  refine ⟨ao, c, rfl, ?_⟩
  rcases h with h | ⟨b, off, rfl, h1, h2, h3⟩
  · exact .inl h
  · exact .inr ⟨b, off, rfl, h2, h3⟩
theorem BsNe.bsC {w : World} {B : Nat} {u : Value} {l : List Nat} (h : BsNe w B True u l) : BsC w u l := by
  obtain ⟨ao, c, rfl, hq, h⟩ := h
  have := hq trivial
  refine ⟨ao, c - l.length, by congr 1; omega, ?_⟩
  rcases h with h | ⟨b, off, rfl, h1, h2, h3⟩
  · exact .inl h
  · exact .inr ⟨b, off, rfl, h2, h3⟩
theorem BsC.ne {w : World} {B : Nat} {u : Value} {l : List Nat} (h : BsC w u l) (hB : w.heap.size ≤ B) : BsNe w B True u l := by
  obtain ⟨ao, ex, rfl, h⟩ := h
  refine ⟨ao, _, rfl, fun _ => by omega, ?_⟩
  rcases h with h | ⟨b, off, rfl, h2, h3⟩
  · exact .inl h
  · exact .inr ⟨b, off, rfl, by omega, h2, h3⟩
/-- The first r rows of the list at B are there; the rest are none yet. -/
def Fill9 (w : World) (B n r : Nat) (Q : Prop) (rows : Nat → List Nat) : Prop := ∃ us : List Value, us.length = n ∧ Blk w B 85 us ∧ ∀ k, k < r → ∃ u, us[k]? = some u ∧ BsNe w B Q u (rows k)
section
variable {w w' : World} {B n r : Nat} {Q : Prop} {rows : Nat → List Nat}
theorem Fill9.start {us : List Value} (h : Blk w B 85 us) (hl : us.length = n) (Q : Prop) (rows : Nat → List Nat) : Fill9 w B n 0 Q rows := ⟨us, hl, h, fun k hk => by omega⟩
theorem Fill9.to (h : Fill9 w B n r Q rows) (hb : Below w.heap.size w w') : Fill9 w' B n r Q rows := by
  obtain ⟨us, h1, h2, h3⟩ := h
  refine ⟨us, h1, h2.to hb, fun k hk => ?_⟩
  obtain ⟨u, h4, h5⟩ := h3 k hk
  exact ⟨u, h4, h5.to hb⟩
theorem Fill9.cell (h : Fill9 w B n r Q rows) (k : Nat) (hk : k < n) : (∃ v, w.cell? ⟨B, k, none⟩ = some v) ∧ w.frozen? ⟨B, k, none⟩ = false ∧ B < w.heap.size := by
  obtain ⟨us, h1, h2, h3⟩ := h
  exact ⟨⟨us[k]'(by omega), h2.cell_some (by simp [show k < us.length by omega])⟩, h2.free k, h2.lt⟩
theorem Fill9.step {u : Value} (h : Fill9 w B n r Q rows) (hr : r < n) (hb : BsNe w B Q u (rows r)) : Fill9 (w.setCell ⟨B, r, none⟩ u) B n (r + 1) Q rows := by
  obtain ⟨us, h1, h2, h3⟩ := h
  refine ⟨us.set r u, by simpa using h1, h2.set r _, fun k hk => ?_⟩
  by_cases e : k = r
  · subst e
    exact ⟨u, by simp [show k < us.length by omega], hb.set _ _⟩
  · obtain ⟨u', h4, h5⟩ := h3 k (by omega)
    exact ⟨u', by rw [List.getElem?_set_ne (by omega)]; exact h4, h5.set _ _⟩
/-- A row that is written in new memory behind the list's store. -/
theorem Fill9.laid {W : World} {b m c : Nat} (h : Fill9 w B n r Q rows) (hr : r < n) (hl : Laid w W B r (.slice (some ⟨b, 0, none⟩) m c)) (hm : m = (rows r).length) (hq : Q → m ≤ c) (hbB : b ≠ B) (hb : Row8 W b (rows r)) : Fill9 W B n (r + 1) Q rows := by
  obtain ⟨us, h1, h2, h3⟩ := h
  subst hm
  refine ⟨us.set r _, by simpa using h1, hl.row.trans (h2.set r _), fun k hk => ?_⟩
  by_cases e : k = r
  · subst e
    exact ⟨_, by simp [show k < us.length by omega], _, c, rfl, hq, .inr ⟨b, 0, rfl, hbB, hb.lt, fun k hk => by rw [Nat.zero_add]; exact hb.cell k hk⟩⟩
  · obtain ⟨u', h4, ao', c', rfl, h7, h9⟩ := h3 k (by omega)
    refine ⟨_, by rw [List.getElem?_set_ne (by omega)]; exact h4, ao', c', rfl, h7, ?_⟩
    rcases h9 with h9 | ⟨b', off', rfl, h5, h6, h8⟩
    · exact .inl h9
    · exact .inr ⟨b', off', rfl, h5, Nat.lt_of_lt_of_le h6 hl.size, fun i hi => by rw [World.cell?_of_block (hl.rest b' h5 h6)]; exact h8 i hi⟩
end
theorem Fill9.rows {w : World} {B n : Nat} {Q : Prop} {rows : Nat → List Nat} (h : Fill9 w B n n Q rows) (ls : List (List Nat)) (hl : ls.length = n) (he : ∀ k, (h : k < ls.length) → ls[k] = rows k) : RowsAt w (.slice (some ⟨B, 0, none⟩) n n) ls := by
  obtain ⟨us, h1, h2, h3⟩ := h
  refine ⟨_, n, by rw [hl], .inr ⟨B, 0, rfl, h2.lt, fun k hk => ?_⟩⟩
  obtain ⟨u, h4, h5⟩ := h3 k (by omega)
  exact ⟨u, by rw [Nat.zero_add]; exact h2.cell_some h4, by rw [he k hk]; exact h5.bs⟩
theorem Fill9.rowsC {w : World} {B n : Nat} {rows : Nat → List Nat} (h : Fill9 w B n n True rows) (ls : List (List Nat)) (hl : ls.length = n) (he : ∀ k, (h : k < ls.length) → ls[k] = rows k) : RowsC w (.slice (some ⟨B, 0, none⟩) n n) ls := by
  obtain ⟨us, h1, h2, h3⟩ := h
  refine ⟨_, 0, by rw [hl, Nat.add_zero], .inr ⟨B, 0, rfl, h2.lt, fun k hk => ?_⟩⟩
  obtain ⟨u, h4, h5⟩ := h3 k (by omega)
  exact ⟨u, by rw [Nat.zero_add]; exact h2.cell_some h4, by rw [he k hk]; exact h5.bsC⟩

theorem unit_row (d p : Nat) (hp : p < d) : (List.replicate d 0).set p 1 = rowF d (rowOf d p) := by
  apply List.ext_getElem
  · simp
  · intro k h1 h2
    rw [List.getElem_set]
    simp only [rowF, List.getElem_map, List.getElem_range, rowOf, if_pos hp]
    by_cases e : p = k
    · rw [if_pos e, if_pos e]
    · rw [if_neg e, if_neg e]; simp
theorem spare_row (d p : Nat) (hp : ¬ p < d) : facRow d (p - d) = rowF d (rowOf d p) := by
  unfold facRow rowF
  refine List.map_congr_left fun k _ => ?_
  rw [rowOf, if_neg hp, show d + (p - d) = p by omega]

set_option maxRecDepth 100000 in
set_option maxHeartbeats 2000000 in
theorem madeBy_any (d s : Nat) (ns : List Nat) (nb : Nat) (w : World) (ht : Table w) (hd : 1 ≤ d) (hd2 : d ≤ 10) (hs : s ≤ 6) (hns : ns.length = d) (hlt : ∀ k, (h : k < ns.length) → ns[k] < d + s) (hnb : Blk w nb 3 (intsV ns)) :
    Calls Tryz.prog 90 #[.int .i64 d, .int .i64 s, .slice (some ⟨nb, 0, none⟩) d d] w fun e w' => ∃ v, e = .returned v ∧ RowsAt w' v (ns.map fun p => rowF d (rowOf d p)) ∧ Below w.heap.size w w' := by
  have HNS : Hid (ns.length = d) := hns
  have HLT : Hid (∀ k, (h : k < ns.length) → ns[k] < d + s) := hlt
  have HNB : Hid (Blk w nb 3 (intsV ns)) := hnb
  have hnbl := hnb.lt
  have hmk := fun w => make_rows d (by omega) w
  have hmb := fun w => make_bytes d (by omega) w
  clear hns hlt hnb
  go_enter Tryz.func90, Tryz.ntmps90
  go_wp2_with fail
  refine (factors_new d s (by omega) (by omega) _ ht).mono ?_
  rintro e w1 ⟨fv, rfl, hfac, hb1⟩
  have HFN : Hid (RowsNew w1 w.heap.size fv (facs d s)) := hfac
  obtain ⟨fg, fc, rfl, _⟩ := hfac
  rw [show (facs d s).length = s by simp [facs]] at HFN ⊢
  have HB1 : Hid (Below w.heap.size w w1) := hb1
  clear hb1
  go_wp2
  go_loopw [19] (fun i wr => ∃ k : Nat, k ≤ d ∧ i = .int .i64 k ∧ Fill9 wr w1.heap.size d k False (fun k => rowF d (rowOf d (ns.getD k 0))) ∧ Below w1.heap.size w1 wr) (fun i _ => d - (intOf i).toNat)
  case atStart => exact ⟨0, Nat.zero_le _, rfl, Fill9.start ((Blk.new w1 _ _).eq (toList_madeCells_one _ d)) (by simp) _ _, (Below.refl _ _).alloc (Nat.le_refl _) _⟩
  case round =>
    obtain ⟨k, hk, rfl, hfill, hbel⟩ := hrel
    by_cases hkd : k < d
    · have hkn : k < ns.length := by rw [HNS.out]; exact hkd
      have c1 := ((HNB.out.to HB1.out).to hbel).cell_some (k := k) (v := .int .i64 (ns[k] : Nat)) (by simp [intsV, hkn])
      obtain ⟨p, hp⟩ : ∃ p, p = ns[k] := ⟨_, rfl⟩
      have hpl : p < d + s := by rw [hp]; exact HLT.out k hkn
      rw [← hp] at c1
      have HP : Hid (ns.getD k 0 = p) := by show _ = _; rw [hp]; simp [hkn]
      obtain ⟨⟨ov, k1⟩, k2, k3⟩ := hfill.cell k hkd
      have HF : Hid (Fill9 wr w1.heap.size d k False (fun k => rowF d (rowOf d (ns.getD k 0)))) := hfill
      have HBL : Hid (Below w1.heap.size w1 wr) := hbel
      have hsz := hbel.size
      by_cases hpd : p < d
      · obtain ⟨W1, hW1⟩ : ∃ W1, W1 = (wr.setCell ⟨w1.heap.size, k, none⟩ (.slice (some ⟨wr.heap.size, 0, none⟩) d d)).alloc (.cells ((madeCells #[.int .u8 0] d).setIfInBounds p (.int .u8 1)) 5) := ⟨_, rfl⟩
        have HLA : Hid (Laid wr W1 w1.heap.size k (.slice (some ⟨wr.heap.size, 0, none⟩) d d)) := by rw [hW1]; exact Laid.start wr _ _ _ _ k3
        have HN1 : Hid (Blk W1 wr.heap.size 5 (bytesV (rowF d (rowOf d p)))) := by
          have := Blk.new (wr.setCell ⟨w1.heap.size, k, none⟩ (.slice (some ⟨wr.heap.size, 0, none⟩) d d)) ((madeCells #[.int .u8 0] d).setIfInBounds p (.int .u8 1)) 5
          rw [size_setCell, ← hW1] at this
          refine this.eq ?_
          rw [Array.toList_setIfInBounds, toList_madeCells_one, ← unit_row d p hpd]
          simp [bytesV, List.map_set]
        have HB2 : Hid (Below w1.heap.size w1 W1) := by
          rw [hW1]; exact (hbel.setCell (Nat.le_refl _) _).alloc (by rw [size_setCell]; exact hsz) _
        have HGW : Hid ((wr.setCell ⟨w1.heap.size, k, none⟩ (.slice (some ⟨wr.heap.size, 0, none⟩) d d)).alloc (.cells ((madeCells #[.int .u8 0] d).setIfInBounds p (.int .u8 1)) 5) = W1) := hW1.symm
        have HF2 : Hid (Fill9 W1 w1.heap.size d (k + 1) False (fun k => rowF d (rowOf d (ns.getD k 0)))) :=
          HF.out.laid hkd (b := wr.heap.size) (m := d) (c := d) HLA.out (by simp) (fun h => h.elim) (by omega) (by rw [HP.out]; exact Row8.of_blk HN1.out)
        have hN0 : Blk ((wr.setCell ⟨w1.heap.size, k, none⟩ (.slice (some ⟨wr.heap.size, 0, none⟩) d d)).alloc (.cells (madeCells #[.int .u8 0] d) 5)) wr.heap.size 5 (bytesV (List.replicate d 0)) := by
          have := made_bytes (wr.setCell ⟨w1.heap.size, k, none⟩ (.slice (some ⟨wr.heap.size, 0, none⟩) d d)) d
          rw [size_setCell] at this
          exact this
        have c2 := hN0.cell_some (k := p) (v := .int .u8 0) (by simp [bytesV, hpd])
        have f2 := hN0.free p
        clear hW1 hfill hbel hp hN0
        go_wp2
        go_roundw
        case rel => exact ⟨k + 1, by omega, by go_num, by rw [HGW.out]; exact HF2.out, by rw [HGW.out]; exact HB2.out⟩
        case measure => simp [intOf]; omega
      · obtain ⟨q, hq⟩ : ∃ q, p = d + q := ⟨p - d, by omega⟩
        have hqs : q < s := by omega
        have eq1 : (p : Int) - (d : Int) = (q : Int) := by omega
        have HPQ : Hid (p = d + q) := hq
        obtain ⟨fb, fc', hfb, hfl, gf, ge⟩ : ∃ fb fc', w.heap.size ≤ fb ∧ fb < w1.heap.size ∧ wr.cell? ⟨fg, q, none⟩ = some (.slice (some ⟨fb, 0, none⟩) d fc') ∧ ∀ j, (hj : j < (facRow d q).length) → wr.cell? ⟨fb, j, none⟩ = some (.int .u8 ((facRow d q)[j] : Nat)) := by
          obtain ⟨g', c', he, h1, h2, h3⟩ := HFN.out
          injection he with he _ _
          injection he with he
          injection he with he
          subst he
          obtain ⟨b, c'', h4, h5, h6, h7⟩ := h3 q (by simp [facs]; exact hqs)
          have hlr : (facs d s)[q]'(by simp [facs]; exact hqs) = facRow d q := by simp [facs]
          rw [hlr] at h6
          refine ⟨b, c'', h4, h5, by rw [hbel.cell (p := ⟨_, q, none⟩) h2, h6, facRow_length], fun j hj => ?_⟩
          rw [hbel.cell (p := ⟨b, j, none⟩) h5, h7 j (by rw [hlr]; exact hj)]
          simp [hlr]
        have HF2 : Hid (Fill9 (wr.setCell ⟨w1.heap.size, k, none⟩ (.slice (some ⟨fb, 0, none⟩) d fc')) w1.heap.size d (k + 1) False (fun k => rowF d (rowOf d (ns.getD k 0)))) := by
          refine HF.out.step hkd ?_
          show BsNe wr w1.heap.size False (.slice (some ⟨fb, 0, none⟩) d fc') (rowF d (rowOf d (ns.getD k 0)))
          have e2 : rowF d (rowOf d (ns.getD k 0)) = facRow d q := by
            rw [HP.out, ← spare_row d p hpd, show p - d = q by omega]
          rw [e2]
          exact ⟨_, fc', by rw [facRow_length], fun h => h.elim, .inr ⟨fb, 0, rfl, by omega, by omega, fun j hj => by rw [Nat.zero_add]; exact ge j hj⟩⟩
        clear hfill hbel hp ge hq
        go_wp2
        go_roundw
        case rel => exact ⟨k + 1, by omega, by go_num, HF2.out, HBL.out.setCell (Nat.le_refl _) _⟩
        case measure => simp [intOf]; omega
    · obtain rfl : d = k := by omega
      have HR : Hid (RowsAt wr (.slice (some ⟨w1.heap.size, 0, none⟩) d d) (ns.map fun p => rowF d (rowOf d p))) := hfill.rows _ (by simp [HNS.out]) (fun i hi => by
        have hi' : i < ns.length := by simpa using hi
        simp [hi'])
      have HB9 : Hid (Below w.heap.size w wr) := HB1.out.trans (hbel.mono HB1.out.size)
      clear hfill hbel
      go_wp2
      go_ret
      exact ⟨_, rfl, HR.out, HB9.out⟩
end Go.Proofs.YtokmllopbfmadaaGreatDoor.Ref

namespace Go.Proofs.YtokmllopbfmadaaGreatDoor.Ref
open Go.RowKit Mem FieldWalks Tab ByTab Parts
open Gf (Bytes chosen left_ rowOf enough Wide chosen_ker chosen_lt chosen_length)
open Plans (But rowF intsV infoInt)

/-- Is the number lost? -/
def gone_ (lost : List Int) (j : Nat) : Bool := decide ((j : Int) ∈ lost)
/-- The factors of the taken pieces. -/
def takenA (d s : Nat) (lost : List Int) : Nat → Nat → Nat := fun n => rowOf d ((chosen (left_ lost) d s).getD n 0)
/-- The rows that lead back to the lost data pieces. -/
def backs (d j : Nat) (lost : List Int) (M : Nat → Nat → Nat) : List (List Nat) := ((List.range j).filter (gone_ lost)).map fun j => rowF d (fun n => M j (d + n))
theorem backs_next (d j : Nat) (lost : List Int) (M : Nat → Nat → Nat) : backs d (j + 1) lost M = backs d j lost M ++ (if gone_ lost j = true then [rowF d (fun n => M j (d + n))] else []) := by
  unfold backs
  rw [filter_next, List.map_append]
  split <;> rfl

set_option maxRecDepth 100000 in
set_option maxHeartbeats 2000000 in
theorem wayBack_any (d s : Nat) (lost : List Int) (lv : Value) (nb : Nat) (w : World) (ht : Table w) (hl : IsC w lv lost) (hd : 1 ≤ d) (hd2 : d ≤ 10) (hs : s ≤ 6) (hfew : lost.length ≤ s) (hnb : Blk w nb 3 (intsV (chosen (left_ lost) d s))) :
    Calls Tryz.prog 78 #[.int .i64 d, .int .i64 s, .slice (some ⟨nb, 0, none⟩) d d, lv] w fun e w' => ∃ v M, e = .returned v ∧ Wide d d (takenA d s lost) M ∧ RowsAt w' v (backs d d lost M) ∧ Below w.heap.size w w' := by
  have hen := enough d s lost hfew
  have hcl := chosen_length (left_ lost) d s hen
  have HCL : Hid ((chosen (left_ lost) d s).length = d) := hcl
  have hlt : ∀ k, (h : k < (chosen (left_ lost) d s).length) → (chosen (left_ lost) d s)[k] < d + s := fun k h => (chosen_lt (left_ lost) d s _ (List.getElem_mem h)).1
  have HMB := madeBy_any d s (chosen (left_ lost) d s) nb w ht hd hd2 hs hcl hlt hnb
  have HMBH : Hid (Calls Tryz.prog 90 #[.int .i64 d, .int .i64 s, .slice (some ⟨nb, 0, none⟩) d d] w fun e w' => ∃ v, e = .returned v ∧ RowsAt w' v ((chosen (left_ lost) d s).map fun p => rowF d (rowOf d p)) ∧ Below w.heap.size w w') := HMB
  have HA : Hid (∀ n, n < d → ∀ k, k < d → takenA d s lost n k < 256) := fun n hn k hk => by
    have hn' : n < (chosen (left_ lost) d s).length := by omega
    have := hlt n hn'
    unfold takenA
    rw [List.getD_eq_getElem?_getD, List.getElem?_eq_getElem hn', Option.getD_some]
    exact Gf.rowOf_lt _ _ _ (by omega) (by omega)
  have HK : Hid (∀ x : Nat → Nat, (∀ k, x k < 256) → (∀ r, r < d → Gf.dot d (takenA d s lost r) x = 0) → ∀ k, k < d → x k = 0) := fun x hx h0 => by
    refine chosen_ker (left_ lost) d s (by omega) hen x hx fun p hp => ?_
    obtain ⟨n, hn, rfl⟩ := List.mem_iff_getElem.1 hp
    have := h0 n (by omega)
    unfold takenA at this
    rw [List.getD_eq_getElem?_getD, List.getElem?_eq_getElem hn, Option.getD_some] at this
    exact this
  have HRW : Hid (∀ n, (h : n < ((chosen (left_ lost) d s).map fun p => rowF d (rowOf d p)).length) → ((chosen (left_ lost) d s).map fun p => rowF d (rowOf d p))[n] = rowF d (takenA d s lost n)) := fun n hn => by
    have hn' : n < (chosen (left_ lost) d s).length := by simpa using hn
    simp [takenA, hn']
  have HL : Hid (IsC w lv lost) := hl
  have HT : Hid (Table w) := ht
  obtain ⟨i0, hi, hz0, hz1, hz2⟩ := info_parts infoRow8
  clear hen hcl hlt HMB hl ht hnb hi hz0 hz1 hz2
  go_enter Tryz.func78, Tryz.ntmps78
  go_wp2_with fail
  refine Calls.mono HMBH.out ?_
  rintro e w1 ⟨av, rfl, hrows1, hb1⟩
  have hin := inverse_any d (takenA d s lost) _ av w1 (table_to HT.out hb1) hd hd2 (by simp [HCL.out]) HRW.out hrows1 HA.out HK.out
  have HIN : Hid _ := hin
  have HB1 : Hid (Below w.heap.size w w1) := hb1
  clear hin hrows1 hb1
  go_wp2_with fail
  refine Calls.mono HIN.out ?_
  rintro e w2 ⟨bv, M, rfl, hwide, hrows2, hb2⟩
  have HWI : Hid (Wide d d (takenA d s lost) M) := hwide
  have hb02 := HB1.out.trans (hb2.mono HB1.out.size)
  obtain ⟨bb, boff, bcap, rfl, hbbl, hbc⟩ := hrows2.pos (by simp; omega)
  have HBC : Hid (∀ k, (h : k < d) → ∃ u, w2.cell? ⟨bb, boff + k, none⟩ = some u ∧ BsAt w2 u (rowF d (fun n => M k (d + n)))) := fun k hk => by
    obtain ⟨u, h1, h2⟩ := hbc k (by simpa using hk)
    exact ⟨u, h1, by simpa using h2⟩
  rw [show ((List.range d).map fun r => rowF d (fun n => M r (d + n))).length = d by simp]
  have HB02 : Hid (Below w.heap.size w w2) := hb02
  have HL2 : Hid (IsC w2 lv lost) := HL.out.to hb02
  have hlb : lost.length < 2 ^ 62 := by omega
  clear hwide hrows2 hbc hb2 hb02 HIN
  go_wp2
  go_loopw [9, 18] (fun t i wr => ∃ (j : Nat) (us : List Value), j ≤ d ∧ i = .int .i64 j ∧ wr.ownsRow w2.heap.size 85 1 t us.length us ∧ ReadAs w2 us (backs d j lost M) ∧ Below w2.heap.size w2 wr) (fun _ i _ => d - (intOf i).toNat)
  case atStart => exact ⟨0, [], Nat.zero_le _, rfl, World.ownsRow_nil _ _ _ _, ⟨rfl, fun k hk => by simp [backs] at hk⟩, Below.refl _ _⟩
  case round =>
    obtain ⟨j, us, hj, rfl, hown, hread, hbel⟩ := hrel
    by_cases hjd : j < d
    · obtain ⟨u, hu, hbs⟩ := HBC.out j hjd
      rw [← hbel.cell (p := ⟨bb, boff + j, none⟩) hbbl] at hu
      obtain ⟨ta, tc, rfl⟩ := Plans.owns_form hown
      have HIC : Hid (IsC wr lv lost) := HL2.out.to hbel
      have HO : Hid (wr.ownsRow w2.heap.size 85 1 (.slice ta us.length tc) us.length us) := hown
      have HRE : Hid (ReadAs w2 us (backs d j lost M)) := hread
      have hul : us.length ≤ 10 := by
        rw [hread.1]; unfold backs; rw [List.length_map]
        have := List.length_filter_le (gone_ lost) (List.range j)
        rw [List.length_range] at this; omega
      have hsz := hbel.size
      by_cases hm : (j : Int) ∈ lost
      · have HD : Hid (decide ((j : Int) ∈ lost) = true) := decide_eq_true hm
        have HNX : Hid (backs d (j + 1) lost M = backs d j lost M ++ [rowF d (fun n => M j (d + n))]) := by
          show _ = _
          rw [backs_next, if_pos (by simp [gone_, hm])]
        have HRN : Hid (ReadAs w2 (us ++ [u]) (backs d j lost M ++ [rowF d (fun n => M j (d + n))])) := by
          refine hread.append ⟨rfl, fun k hk => ?_⟩
          obtain rfl : k = 0 := by simp at hk; omega
          exact ⟨u, rfl, hbs⟩
        have HU1 : Hid (u.oneCell' = true) := one_of_bs hbs
        obtain ⟨ua, uc, rfl⟩ : ∃ ua uc, u = .slice ua d uc := by
          obtain ⟨ua, uc, h, _⟩ := hbs
          exact ⟨ua, uc, by simpa using h⟩
        clear hown hread hbs hm
        go_wp2_with (first | (go_at_call 79; refine (contains_any lost j lv _ HIC.out hlb).mono ?_; rintro e w' ⟨rfl, rfl⟩; rw [HD.out]) | (at_builtin; refine wpList_append_one _ rfl _ _ 89 rfl w2.heap.size 85 (.slice none 0 0) 24 Tryz.underlying89 infoRow8 rfl (by decide) _ us.length us rfl (HO.out.alloc _) ⟨_, 0, none⟩ 1 (.slice ua d uc) rfl ((Blk.new _ _ _).cell_some rfl) HU1.out (by omega) (by simp; omega) ?_; intro v' w3 hown' hbel'))
        have HO3 : Hid (w3.ownsRow w2.heap.size 85 1 v' (us ++ [Value.slice ua d uc]).length (us ++ [Value.slice ua d uc])) := by
          rw [List.length_append]; exact hown'
        have HB3 : Hid (Below w2.heap.size w2 w3) := hbel' _ _ (hbel.alloc hsz _) (Nat.le_refl _)
        clear hown' hbel'
        go_roundw
        case rel => exact ⟨j + 1, us ++ [Value.slice ua d uc], by omega, by go_num, HO3.out, by rw [HNX.out]; exact HRN.out, HB3.out⟩
        case measure => simp [intOf]; omega
      · have HD : Hid (decide ((j : Int) ∈ lost) = false) := decide_eq_false hm
        have HNX : Hid (backs d (j + 1) lost M = backs d j lost M) := by
          show _ = _
          rw [backs_next, if_neg (by simp [gone_, hm]), List.append_nil]
        clear hown hread hbs hm
        go_wp2_with (go_at_call 79; refine (contains_any lost j lv _ HIC.out hlb).mono ?_; rintro e w' ⟨rfl, rfl⟩; rw [HD.out])
        go_roundw
        case rel => exact ⟨j + 1, us, by omega, by go_num, HO.out, by rw [HNX.out]; exact HRE.out, hbel⟩
        case measure => simp [intOf]; omega
    · obtain rfl : d = j := by omega
      have HR : Hid (RowsAt wr _ (backs d d lost M)) := hread.rows (by rw [← hread.1]; exact hown) hbel
      have HB9 : Hid (Below w.heap.size w wr) := HB02.out.trans (hbel.mono HB02.out.size)
      clear hown hread hbel
      go_wp2
      go_ret
      exact ⟨_, M, rfl, HWI.out, HR.out, HB9.out⟩
end Go.Proofs.YtokmllopbfmadaaGreatDoor.Ref
