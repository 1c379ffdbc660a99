import Derived.Lib.AppendZeros
import Derived.Test.YtokmllopbfmadaaDoorGRefAll
namespace Go.Proofs.YtokmllopbfmadaaDoor.Parts
open Go.RowKit Mem FieldWalks Tab ByTab

theorem infoRow8 : (Tryd.prog.info? 71).map (fun i => (i.zero, i.size, i.bytes)) = some (some (.slice none 0 0), 1, 24) := by kernel_rfl

set_option maxRecDepth 100000 in
theorem grow_any (n : Nat) (hn : n ≤ 200) (w : World) :
    Calls Tryd.prog 134 #[.slice none 0 0, .int .i64 n] w fun e w' => ∃ v, e = .returned v ∧ w'.ownsRow w.heap.size 71 1 v 0 [] ∧ Below w.heap.size w w' := by
  by_cases h0 : n = 0
  · subst h0
    go_enter Tryd.func134, Tryd.ntmps134
    go_wp2
    go_ret
    exact ⟨_, rfl, World.ownsRow_nil _ _ _ _, Below.refl _ _⟩
  · obtain ⟨i0, hi, hz0, hz1, hz2⟩ := info_parts infoRow8
    have hr := Lib.run_append_nil_zeros (P := Tryd.prog) w 104 3 104 71 i0 (.slice none 0 0) .i64 .i64 Tryd.underlying104 Tryd.underlying3 hi hz0 n (by omega) (by omega) (by omega) (by rw [hz2]; omega)
    have hge := grownCap_ge w n 0 71
    have hle := grownCap_le_maxLen w n 0 71 (by unfold maxLen; omega)
    generalize grownCap w n 0 71 = cap at hr hge hle
    have HLE : Hid (cap ≤ maxLen) := hle
    clear hle hi hz0 hz1 hz2
    go_enter Tryd.func134, Tryd.ntmps134
    go_wp2_with (at_builtin; refine Lib.wpList_append_run _ rfl _ _ _ _ rfl _ _ rfl rfl _ _ hr ?_)
    go_ret
    refine ⟨_, rfl, ⟨rfl, .inr ⟨w.heap.size, cap, _, rfl, Nat.le_refl _, heap_alloc_new w.drew _, Nat.zero_le _, HLE.out, ?_, ?_⟩⟩, (Below.refl _ _).drew.alloc (Nat.le_refl _) _⟩
    · simp only [Array.size_append, size_zeroCells]
      simp; omega
    · simp

/-- The slice v reads as these lists of rows. -/
def RowssAt (w : World) (v : Value) (R : List (List (List Nat))) : Prop :=
  ∃ b cap, v = .slice (some ⟨b, 0, none⟩) R.length cap ∧ b < w.heap.size ∧ ∀ k, (h : k < R.length) → ∃ u, w.cell? ⟨b, k, none⟩ = some u ∧ RowsAt w u R[k]

theorem run_loadCells_none' {P : Program} (w : World) (a : Addr) : (loadCells a 0).run P w = .ok #[] w := run_loadCells_list (P := P) w a [] (fun j u hu => by simp at hu)
theorem run_append_empty {P : Program} (w : World) (base : Nat) (t ty e : TypeId) (i : TypeInfo) (size : Nat) (ht : P.underlying t = some (.slice e)) (hi : P.info? e = some i)
    (v : Value) (n : Nat) (xs : List Value) (hown : w.ownsRow base e size v n xs) (ao : Option Addr) (c : Nat) :
    (Builtin.append_ #[t, t] ty #[v, .slice ao 0 c]).run P w = .ok v w := by
  rcases hown.2 with ⟨rfl, rfl⟩ | ⟨g, cap, cur, rfl, _, _, hnc, _⟩ <;> cases ao
  · simp [Builtin.append_, run_underlying ht, sizeOf, typeInfo, hi, Builtin.lenOf, Builtin.firstCells]
  · simp [Builtin.append_, run_underlying ht, sizeOf, typeInfo, hi, Builtin.lenOf, Builtin.firstCells, run_loadCells_none']
  · simp [Builtin.append_, run_underlying ht, sizeOf, typeInfo, hi, Builtin.lenOf, Builtin.firstCells, hnc, storeCells]
  · simp [Builtin.append_, run_underlying ht, sizeOf, typeInfo, hi, Builtin.lenOf, Builtin.firstCells, hnc, storeCells, run_loadCells_none']

theorem flat_next {α : Type} (R : List (List α)) (k : Nat) (h : k < R.length) : (R.take (k + 1)).flatten = (R.take k).flatten ++ R[k] := by
  rw [List.take_add_one, List.getElem?_eq_getElem h, List.flatten_append]; simp
theorem flat_le {α : Type} (R : List (List α)) (k : Nat) : (R.take k).flatten.length ≤ R.flatten.length := by
  have e : R.flatten = (R.take k).flatten ++ (R.drop k).flatten := by rw [← List.flatten_append, List.take_append_drop]
  rw [e, List.length_append]; omega

/-- The cells of rows. -/
theorem rows_cells {w : World} {b off : Nat} {rows : List (List Nat)} (h : ∀ k, (h : k < rows.length) → ∃ u, w.cell? ⟨b, off + k, none⟩ = some u ∧ BsAt w u rows[k]) :
    ∃ us : List Value, us.length = rows.length ∧ (∀ k u, us[k]? = some u → w.cell? ⟨b, off + k, none⟩ = some u) ∧ ∀ k, (h : k < rows.length) → ∃ u, us[k]? = some u ∧ BsAt w u rows[k] := by
  induction rows generalizing off with
  | nil => exact ⟨[], rfl, fun k u hu => by simp at hu, fun k hk => by simp at hk⟩
  | cons r rows ih =>
    obtain ⟨u0, hu0, hb0⟩ := h 0 (by simp)
    obtain ⟨us, hl, hc, hr⟩ := ih (off := off + 1) (fun k hk => by
      obtain ⟨u, hu, hb⟩ := h (k + 1) (by simpa using hk)
      exact ⟨u, by rw [show off + 1 + k = off + (k + 1) by omega]; exact hu, by simpa using hb⟩)
    refine ⟨u0 :: us, by simp [hl], fun k u hu => ?_, fun k hk => ?_⟩
    · cases k with
      | zero => simp at hu; subst hu; exact hu0
      | succ k => rw [show off + (k + 1) = off + 1 + k by omega]; exact hc k u (by simpa using hu)
    · cases k with
      | zero => exact ⟨u0, rfl, by simpa using hb0⟩
      | succ k => simpa using hr k (by simpa using hk)
theorem one_of_bs {w : World} {u : Value} {l : List Nat} (h : BsAt w u l) : u.oneCell' = true := by
  obtain ⟨ao, cap, rfl, _⟩ := h; rfl

/-- Values that read as rows. -/
def ReadAs (w : World) (us : List Value) (rows : List (List Nat)) : Prop := us.length = rows.length ∧ ∀ k, (h : k < rows.length) → ∃ u, us[k]? = some u ∧ BsAt w u rows[k]
theorem ReadAs.append {w : World} {us vs : List Value} {a b : List (List Nat)} (h : ReadAs w us a) (k : ReadAs w vs b) : ReadAs w (us ++ vs) (a ++ b) := by
  refine ⟨by simp [h.1, k.1], fun i hi => ?_⟩
  by_cases hl : i < a.length
  · obtain ⟨u, hu, hb⟩ := h.2 i hl
    refine ⟨u, by rw [List.getElem?_append_left (by rw [h.1]; exact hl)]; exact hu, by rw [List.getElem_append_left hl]; exact hb⟩
  · obtain ⟨u, hu, hb⟩ := k.2 (i - a.length) (by simp at hi; omega)
    refine ⟨u, by rw [List.getElem?_append_right (by rw [h.1]; omega), h.1]; exact hu, by rw [List.getElem_append_right (by omega)]; exact hb⟩
theorem ReadAs.rows {w w' : World} {base : Nat} {v : Value} {us : List Value} {rows : List (List Nat)} (h : ReadAs w us rows) (ho : w'.ownsRow base 71 1 v rows.length us) (hb : Below w.heap.size w w') : RowsAt w' v rows := by
  obtain ⟨hl, h2⟩ := ho
  rcases h2 with ⟨rfl, h0⟩ | ⟨g, cap, cur, rfl, hg, hh, _, _, _, ht⟩
  · exact ⟨none, 0, by rw [h0], .inl (List.eq_nil_of_length_eq_zero h0)⟩
  · refine ⟨_, cap, rfl, .inr ⟨g, 0, rfl, lt_of_block hh, fun k hk => ?_⟩⟩
    obtain ⟨u, hu, hbs⟩ := h.2 k hk
    refine ⟨u, ?_, hbs.to hb⟩
    rw [Nat.zero_add, cell_of_row w' g k cur 71 (0, 0) hh]
    rw [Nat.mul_one] at ht
    rw [← ht, List.getElem?_take_of_lt hk] at hu
    simpa using hu

set_option maxRecDepth 100000 in
set_option maxHeartbeats 1000000 in
theorem concat_any (R : List (List (List Nat))) (v : Value) (w : World) (hv : RowssAt w v R) (hR : R.length ≤ 100) (hF : R.flatten.length ≤ 200) :
    Calls Tryd.prog 107 #[v] w fun e w' => ∃ v', e = .returned v' ∧ RowsAt w' v' R.flatten ∧ Below w.heap.size w w' := by
  obtain ⟨b, cap, rfl, hb, hc⟩ := hv
  have HC : Hid (∀ k, (h : k < R.length) → ∃ u, w.cell? ⟨b, k, none⟩ = some u ∧ RowsAt w u R[k]) := hc
  have HF : Hid (R.flatten.length ≤ 200) := hF
  obtain ⟨i0, hi, hz0, hz1, hz2⟩ := info_parts infoRow8
  have HI : Hid (Tryd.prog.info? 71 = some i0 ∧ i0.zero = some (.slice none 0 0) ∧ i0.size = 1 ∧ i0.bytes = 24) := ⟨hi, hz0, hz1, hz2⟩
  clear hc hF hi hz0 hz1 hz2
  go_enter Tryd.func107, Tryd.ntmps107
  go_wp2
  go_loop [3, 11] (fun t i => ∃ k n : Nat, k ≤ R.length ∧ i = .int .i64 k ∧ t = .int .i64 n ∧ n = (R.take k).flatten.length) (fun _ i => R.length - (intOf i).toNat)
  case atStart => exact ⟨0, 0, Nat.zero_le _, rfl, rfl, by simp⟩
  case round =>
    obtain ⟨k, n, hk, rfl, rfl, hn⟩ := hrel
    have hn2 : n ≤ 200 := by rw [hn]; exact Nat.le_trans (flat_le R k) HF.out
    have HN : Hid (n = (R.take k).flatten.length) := hn
    clear hn
    by_cases hlt : k < R.length
    · obtain ⟨u, hu, ao, c, rfl, hr⟩ := HC.out k hlt
      have hm : n + R[k].length ≤ 200 := by
        have := flat_le R (k + 1)
        rw [flat_next R k hlt, List.length_append, ← HN.out] at this
        exact Nat.le_trans this HF.out
      have HM : Hid (n + R[k].length = (R.take (k + 1)).flatten.length) := by
        show _ = _
        rw [flat_next R k hlt, List.length_append, ← HN.out]
      clear hr
      generalize R[k].length = m at hu hm HM
      go_wp2
      go_round
      case rel => exact ⟨k + 1, n + m, by omega, by go_num, by go_num, HM.out⟩
      case measure => simp [intOf]; omega
    · obtain rfl : k = R.length := by omega
      go_wp2_with fail
      refine (grow_any n hn2 w).mono ?_
      rintro e w1 ⟨v1, rfl, hown1, hb1⟩
      go_wp2
      go_loopw [6, 27] (fun t i wr => ∃ k us, k ≤ R.length ∧ i = .int .i64 (k : Nat) ∧ wr.ownsRow w.heap.size 71 1 t us.length us ∧ ReadAs w us (R.take k).flatten ∧ Below w.heap.size w wr) (fun _ i _ => R.length - (intOf i).toNat)
      case atStart => exact ⟨0, [], Nat.zero_le _, rfl, hown1, ⟨by simp, fun k hk => by simp at hk⟩, hb1⟩
      case round =>
        clear hown1 hb1
        obtain ⟨k, us, hk, rfl, hown, hread, hbel⟩ := hrel
        by_cases hlt : k < R.length
        · obtain ⟨u, hu, ao, c, rfl, hr⟩ := HC.out k hlt
          rw [← hbel.cell (p := ⟨b, k, none⟩) hb] at hu
          have HOWN : Hid (wr.ownsRow w.heap.size 71 1 u6 us.length us) := hown
          have hul : us.length + R[k].length ≤ 200 := by
            have := flat_le R (k + 1)
            rw [flat_next R k hlt, List.length_append, ← hread.1] at this
            exact Nat.le_trans this HF.out
          have HREAD : Hid (ReadAs w us (R.take k).flatten) := hread
          have HFN : Hid ((R.take (k + 1)).flatten = (R.take k).flatten ++ R[k]) := flat_next R k hlt
          clear hown hread
          by_cases h0 : R[k] = []
          · have hrun := run_append_empty (P := Tryd.prog) wr w.heap.size 104 104 71 i0 1 Tryd.underlying104 HI.out.1 u6 us.length us HOWN.out ao c
            rw [h0, List.length_nil] at hu
            have HFN2 : Hid ((R.take (k + 1)).flatten = (R.take k).flatten) := by rw [HFN.out, h0]; exact List.append_nil _
            clear hr HFN h0 hul
            go_wp2_with (at_builtin; refine Lib.wpList_append_run _ rfl _ _ _ _ rfl _ _ rfl rfl _ _ hrun ?_)
            go_roundw
            case rel => exact ⟨k + 1, us, by omega, by go_num, HOWN.out, by rw [HFN2.out]; exact HREAD.out, hbel⟩
            case measure => simp [intOf]; omega
          · obtain ⟨rb, off, rfl, hrb, hrc⟩ : ∃ b off, ao = some ⟨b, off, none⟩ ∧ b < w.heap.size ∧ ∀ j, (h : j < R[k].length) → ∃ u, w.cell? ⟨b, off + j, none⟩ = some u ∧ BsAt w u R[k][j] := by
              rcases hr with h | h
              · exact absurd h h0
              · exact h
            obtain ⟨vs, hvl, hvc, hvr⟩ := rows_cells hrc
            have HNEW : Hid (∀ j u, vs[j]? = some u → wr.cell? ((⟨rb, off, none⟩ : Addr).add j) = some u) := fun j u hu => by
              rw [Addr.add_lit, hbel.cell (p := ⟨rb, off + j, none⟩) hrb]; exact hvc j u hu
            have HONE : Hid (∀ u ∈ vs, u.oneCell' = true) := fun u hu => by
              obtain ⟨j, hj, e⟩ := List.mem_iff_getElem.1 hu
              obtain ⟨u', hu', hb'⟩ := hvr j (by omega)
              rw [List.getElem?_eq_getElem hj, Option.some.injEq] at hu'
              rw [← e, hu']; exact one_of_bs hb'
            have HVR : Hid (ReadAs w vs R[k]) := ⟨hvl, hvr⟩
            have HVL : Hid (vs.length = R[k].length * 1) := by rw [Nat.mul_one]; exact hvl
            clear hr hrc hvl hvc hvr h0
            generalize R[k] = rk at hu hul HFN HVR HVL
            have hsz := hbel.size
            go_wp2_with ((at_builtin; refine wpList_append_own _ rfl _ _ 104 rfl w.heap.size 71 i0 (.slice none 0 0) 1 24 Tryd.underlying104 HI.out.1 HI.out.2.1 HI.out.2.2.1 HI.out.2.2.2 rfl (by decide) u6 us.length us rfl HOWN.out ⟨rb, off, none⟩ rk.length c vs rfl HVL.out HNEW.out HONE.out (by unfold maxLen; omega) (by omega) hsz ?_); intro v' w2 hown2 hg2 _)
            have hb2 := below_grown hbel HOWN.out hg2 hsz (Nat.le_refl _)
            have HO2 : Hid (w2.ownsRow w.heap.size 71 1 v' (us ++ vs).length (us ++ vs)) := by
              rw [List.length_append, HVR.out.1]; exact hown2
            clear hown2 hg2
            go_wp2
            go_roundw
            case rel => exact ⟨k + 1, us ++ vs, by omega, by go_num, HO2.out, by rw [HFN.out]; exact HREAD.out.append HVR.out, hb2⟩
            case measure => simp [intOf]; omega
        · obtain rfl : k = R.length := by omega
          rw [List.take_length] at hread
          have HOWN : Hid (wr.ownsRow w.heap.size 71 1 u6 us.length us) := hown
          have HREAD : Hid (ReadAs w us R.flatten) := hread
          clear hown hread
          go_wp2
          go_ret
          refine ⟨_, rfl, ?_, hbel⟩
          have h1 := HOWN.out
          have h2 := HREAD.out
          rw [h2.1] at h1
          exact h2.rows h1 hbel
end Go.Proofs.YtokmllopbfmadaaDoor.Parts

namespace Go.Proofs.YtokmllopbfmadaaDoor.Top
open Go.RowKit Mem FieldWalks Tab ByTab Parts
open Gf (Bytes)

/-- What Sums is asked: in each of the three ways the sums. -/
def SumsOk : Prop := ∀ (x : Nat) (rows ps : List (List Nat)) (L : Nat) (rv pv : Value) (w : World), x ≤ 2 → Table w → RowsAt w rv rows → RowsC w pv ps → Fit rows ps L →
  Calls Tryd.prog 106 #[.int .i64 x, rv, pv] w fun e w' => ∃ v, e = .returned v ∧ RowsC w' v (sums rows ps L) ∧ Below w.heap.size w w'

/-- All pieces of a text, as strings. -/
def pieces (d s : Nat) (str : ByteArray) : List ByteArray :=
  texts (cuts (nums str) d ((str.size + d - 1) / d)) (sums (facs d s) (cuts (nums str) d ((str.size + d - 1) / d)) ((str.size + d - 1) / d))
theorem pieces_length (d s : Nat) (str : ByteArray) : (pieces d s str).length = d + s := by simp [pieces, texts, cuts, sums, facs]
theorem fit (d s : Nat) (str : ByteArray) (hd : 1 ≤ d) (hd2 : d ≤ 10) (hs : s ≤ 6) (hn : str.size ≤ 400) : Fit (facs d s) (cuts (nums str) d ((str.size + d - 1) / d)) ((str.size + d - 1) / d) := by
  have hL := ceil_le str.size d hd
  refine ⟨by simp [cuts]; omega, by simp [cuts]; omega, by simp [facs]; omega, fun j hj => by simp [cuts, cutAt], fun i hi => by simp [cuts, facs, facRow], fun i hi => ?_, fun j hj => Ref.cuts_bytes _ _ _ _ (nums_bytes _) _, by omega⟩
  simp only [facs, List.length_map, List.length_range] at hi
  simp only [facs, List.getElem_map, List.getElem_range]
  exact Ref.facRow_bytes _ _ (by omega)

theorem infoRows8 : (Tryd.prog.info? 104).map (fun i => (i.zero, i.size, i.bytes)) = some (some (.slice none 0 0), 1, 24) := by kernel_rfl
set_option maxRecDepth 100000 in
set_option maxHeartbeats 1000000 in
theorem whole_any (hS : SumsOk) (d s x : Nat) (ps : List (List Nat)) (L : Nat) (cv : Value) (hl : ps.length = d) (hd2 : d ≤ 10) (hs : s ≤ 6) (hx : x ≤ 2) (hfit : Fit (facs d s) ps L) (w : World) (ht : Table w) (hcut : RowsC w cv ps) :
    Calls Tryd.prog 81 #[.int .i64 s, .int .i64 x, cv] w fun e w' =>
      ∃ b, w.heap.size ≤ b ∧ e = .returned (.slice (some ⟨b, 0, none⟩) (d + s) (d + s)) ∧ Blk w' b 9 (strV (texts ps (sums (facs d s) ps L))) ∧ Below w.heap.size w w' := by
  have HFIT : Hid (Fit (facs d s) ps L) := hfit
  have HCUT : Hid (RowsC w cv ps) := hcut
  obtain ⟨ao, ex, rfl, _⟩ := hcut
  rw [hl] at HCUT ⊢
  generalize d + ex = c at HCUT ⊢
  have HL : Hid (ps.length = d) := hl
  clear hfit hl
  go_enter Tryd.func81, Tryd.ntmps81
  go_wp2_with fail
  refine (factors_any d s (by omega) (by omega) _ ht).mono ?_
  rintro e w2 ⟨fv, rfl, hfac, hb2⟩
  have hcut2 := HCUT.out.to hb2
  go_wp2_with fail
  refine (hS x _ _ _ fv (.slice ao d c) _ hx (table_to ht hb2) hfac hcut2 HFIT.out).mono ?_
  rintro e w3 ⟨sv, rfl, hsum, hb3⟩
  have hb13 := hb2.trans (hb3.mono hb2.size)
  have HCUT3 : Hid (RowsAt w3 (.slice ao d c) ps) := (hcut2.to hb3).rows
  have HSUM : Hid (RowsAt w3 sv (sums (facs d s) ps L)) := hsum.rows
  obtain ⟨sao, sc, hsv, _⟩ := hsum.rows
  subst hsv
  have hsl : (sums (facs d s) ps L).length = s := by simp [sums, facs]
  rw [hsl] at HSUM
  rw [hsl]
  have HSL : Hid ((sums (facs d s) ps L).length = s) := hsl
  obtain ⟨i1, hi, hz0, hz1, hz2⟩ := info_parts infoRows8
  clear hfac hcut2 hb2 hb3 hsl hsum
  have hb34 : Below w3.heap.size w3 (w3.alloc (.cells #[.slice ao d c, .slice sao s sc] 104)) := (Below.refl _ _).alloc (Nat.le_refl _) _
  have HBN : Hid (Blk (w3.alloc (.cells #[.slice ao d c, .slice sao s sc] 104)) w3.heap.size 104 [.slice ao d c, .slice sao s sc]) := Blk.new w3 #[.slice ao d c, .slice sao s sc] 104
  have HR : Hid (RowssAt (w3.alloc (.cells #[.slice ao d c, .slice sao s sc] 104)) (.slice (some ⟨w3.heap.size, 0, none⟩) 2 2) [ps, sums (facs d s) ps L]) := by
    refine ⟨_, _, rfl, HBN.out.lt, fun k hk => ?_⟩
    match k, hk with
    | 0, _ => exact ⟨_, HBN.out.cell_some rfl, HCUT3.out.to hb34⟩
    | 1, _ => exact ⟨_, HBN.out.cell_some rfl, HSUM.out.to hb34⟩
  have HB34 : Hid (Below w.heap.size w (w3.alloc (.cells #[.slice ao d c, .slice sao s sc] 104))) := hb13.trans (hb34.mono hb13.size)
  have hfl : [ps, sums (facs d s) ps L].flatten.length = d + s := by simp [HL.out, HSL.out]
  have HFL : Hid ([ps, sums (facs d s) ps L].flatten.length = d + s) := hfl
  clear hb34 hfl
  go_wp2_with fail
  refine (concat_any _ _ _ HR.out (by simp) (by rw [HFL.out]; omega)).mono ?_
  rintro e w5 ⟨v5, rfl, hrows, hb5⟩
  have hb15 := HB34.out.trans (hb5.mono HB34.out.size)
  have HROWS : Hid (RowsAt w5 v5 [ps, sums (facs d s) ps L].flatten) := hrows
  clear hrows hb5 hb13
  go_wp2_with fail
  refine (asTexts_any _ v5 _ HROWS.out (by rw [HFL.out]; omega)).mono ?_
  rintro e w6 ⟨b, hb, rfl, hblk, hb6⟩
  rw [HFL.out]
  have HBLK : Hid (Blk w6 b 9 (strV (texts ps (sums (facs d s) ps L)))) := by
    have : [ps, sums (facs d s) ps L].flatten = ps ++ sums (facs d s) ps L := by simp
    rw [this] at hblk; exact hblk
  clear hblk
  go_wp2
  go_ret
  exact ⟨b, Nat.le_trans hb15.size hb, rfl, HBLK.out, hb15.trans (hb6.mono hb15.size)⟩

set_option maxRecDepth 100000 in
set_option maxHeartbeats 1000000 in
theorem pSpread_any (hS : SumsOk) (d s x : Nat) (str : ByteArray) (hd : 1 ≤ d) (hd2 : d ≤ 10) (hs : s ≤ 6) (hx : x ≤ 2) (hn : str.size ≤ 400) (w : World) (ht : Table w) :
    Calls Tryd.prog 55 #[.int .i64 d, .int .i64 s, .int .i64 x, .string str] w fun e w' =>
      ∃ b, w.heap.size ≤ b ∧ e = .returned (.slice (some ⟨b, 0, none⟩) (d + s) (d + s)) ∧ Blk w' b 9 (strV (pieces d s str)) ∧ Below w.heap.size w w' := by
  have hfit := fit d s str hd hd2 hs hn
  have HFIT : Hid (Fit (facs d s) (cuts (nums str) d ((str.size + d - 1) / d)) ((str.size + d - 1) / d)) := hfit
  clear hfit
  go_enter Tryd.func55, Tryd.ntmps55
  go_wp2_with fail
  refine (cut_any d str hd (by omega) (by omega) _ rfl _).mono ?_
  rintro e w1 ⟨cv, rfl, hcut, hb1⟩
  go_wp2_with fail
  refine (whole_any hS d s x (cuts (nums str) d ((str.size + d - 1) / d)) ((str.size + d - 1) / d) cv (by simp [cuts]) hd2 hs hx HFIT.out _ (table_to ht hb1) hcut).mono ?_
  rintro e w4 ⟨b, hb, rfl, hblk, hb4⟩
  have HBLK : Hid (Blk w4 b 9 (strV (pieces d s str))) := hblk
  clear hblk hcut
  go_wp2
  go_ret
  exact ⟨b, Nat.le_trans hb1.size hb, rfl, HBLK.out, hb1.trans (hb4.mono hb1.size)⟩

/-- What Spread answers with an error. -/
def spreadE (d s x : Int) (n : Nat) : Int := if okCounts d s = true then (if okWay x = true then (if 400 < n then 5 else 0) else 4) else 3

set_option maxRecDepth 100000 in
set_option maxHeartbeats 1000000 in
theorem wSpread_ok (hS : SumsOk) (d s x : Nat) (str : ByteArray) (hd : 1 ≤ d) (hd2 : d ≤ 10) (hs : s ≤ 6) (hx : x ≤ 2) (hn : str.size ≤ 400) (w : World) (ht : Table w) :
    Calls Tryd.prog 22 #[.int .i64 d, .int .i64 s, .int .i64 x, .string str] w fun e w' =>
      ∃ b, w.heap.size ≤ b ∧ e = .returned (.tuple #[.slice (some ⟨b, 0, none⟩) (d + s) (d + s), .int .i64 0]) ∧ Blk w' b 9 (strV (pieces d s str)) ∧ Below w.heap.size w w' := by
  have hok : okCounts d s = true := okCounts_yes _ _ (by omega)
  have how : okWay x = true := okWay_yes _ (by omega)
  go_enter Tryd.func22, Tryd.ntmps22
  go_wp2_with fail
  refine (areCounts_any _ _ _).mono ?_
  rintro e w' ⟨rfl, rfl⟩
  go_wp2_with fail
  refine (isWay_any _ _).mono ?_
  rintro e w' ⟨rfl, rfl⟩
  go_wp2_with fail
  refine (pSpread_any hS d s x str hd hd2 hs hx hn _ ht).mono ?_
  rintro e w1 ⟨b, hb, rfl, hblk, hb1⟩
  go_wp2
  go_ret2
  exact ⟨b, hb, rfl, hblk, hb1⟩
set_option maxRecDepth 100000 in
theorem wSpread_no (d s x : Int) (str : ByteArray) (hlen : str.size ≤ maxLen) (hE : spreadE d s x str.size ≠ 0) (w : World) :
    Calls Tryd.prog 22 #[.int .i64 d, .int .i64 s, .int .i64 x, .string str] w fun e w' =>
      e = .returned (.tuple #[.slice none 0 0, .int .i64 (spreadE d s x str.size)]) ∧ w' = w := by
  unfold maxLen at hlen
  cases hok : okCounts d s
  · rw [show spreadE d s x str.size = 3 by simp [spreadE, hok]]
    clear hE
    go_enter Tryd.func22, Tryd.ntmps22
    go_wp2_with fail
    refine (areCounts_any _ _ _).mono ?_
    rintro e w' ⟨rfl, rfl⟩
    go_wp2
    go_ret2
    exact ⟨rfl, rfl⟩
  · cases how : okWay x
    · rw [show spreadE d s x str.size = 4 by simp [spreadE, hok, how]]
      clear hE
      go_enter Tryd.func22, Tryd.ntmps22
      go_wp2_with fail
      refine (areCounts_any _ _ _).mono ?_
      rintro e w' ⟨rfl, rfl⟩
      go_wp2_with fail
      refine (isWay_any _ _).mono ?_
      rintro e w' ⟨rfl, rfl⟩
      go_wp2
      go_ret2
      exact ⟨rfl, rfl⟩
    · have hbig : 400 < str.size := by
        by_cases h : 400 < str.size
        · exact h
        · exact absurd (by simp [spreadE, hok, how, h]) hE
      rw [show spreadE d s x str.size = 5 by simp [spreadE, hok, how, hbig]]
      clear hE
      go_enter Tryd.func22, Tryd.ntmps22
      go_wp2_with fail
      refine (areCounts_any _ _ _).mono ?_
      rintro e w' ⟨rfl, rfl⟩
      go_wp2_with fail
      refine (isWay_any _ _).mono ?_
      rintro e w' ⟨rfl, rfl⟩
      go_wp2
      go_ret2
      exact ⟨rfl, rfl⟩
set_option maxRecDepth 100000 in
theorem rSpread_no (d s x : Int) (str : ByteArray) (hlen : str.size ≤ maxLen) (hE : spreadE d s x str.size ≠ 0) (w : World) :
    Calls Tryd.prog 57 #[.int .i64 d, .int .i64 s, .int .i64 x, .string str] w fun e w' =>
      e = .returned (.tuple #[.slice none 0 0, .int .i64 (spreadE d s x str.size)]) ∧ w' = w := by
  unfold maxLen at hlen
  cases hok : okCounts d s
  · rw [show spreadE d s x str.size = 3 by simp [spreadE, hok]]
    clear hE
    go_enter Tryd.func57, Tryd.ntmps57
    go_wp2_with fail
    refine (rCounts_any _ _ _).mono ?_
    rintro e w' ⟨rfl, rfl⟩
    go_wp2
    go_ret2
    exact ⟨rfl, rfl⟩
  · cases how : okWay x
    · rw [show spreadE d s x str.size = 4 by simp [spreadE, hok, how]]
      clear hE
      go_enter Tryd.func57, Tryd.ntmps57
      go_wp2_with fail
      refine (rCounts_any _ _ _).mono ?_
      rintro e w' ⟨rfl, rfl⟩
      go_wp2_with fail
      refine (rWay_any _ _).mono ?_
      rintro e w' ⟨rfl, rfl⟩
      go_wp2
      go_ret2
      exact ⟨rfl, rfl⟩
    · have hbig : 400 < str.size := by
        by_cases h : 400 < str.size
        · exact h
        · exact absurd (by simp [spreadE, hok, how, h]) hE
      rw [show spreadE d s x str.size = 5 by simp [spreadE, hok, how, hbig]]
      clear hE
      go_enter Tryd.func57, Tryd.ntmps57
      go_wp2_with fail
      refine (rCounts_any _ _ _).mono ?_
      rintro e w' ⟨rfl, rfl⟩
      go_wp2_with fail
      refine (rWay_any _ _).mono ?_
      rintro e w' ⟨rfl, rfl⟩
      go_wp2
      go_ret2
      exact ⟨rfl, rfl⟩
end Go.Proofs.YtokmllopbfmadaaDoor.Top

namespace Go.Proofs.YtokmllopbfmadaaDoor.Top
open Go.RowKit Mem FieldWalks Tab ByTab Parts

theorem StrsAt.of_blk {w : World} {b : Nat} {ss : List ByteArray} (h : Blk w b 9 (strV ss)) (n cap : Nat) (hn : n = ss.length) : StrsAt w (.slice (some ⟨b, 0, none⟩) n cap) ss := by
  subst hn
  exact ⟨_, _, rfl, .inr ⟨b, 0, rfl, h.lt, fun k hk => by rw [Nat.zero_add]; exact h.cell_some (by simp [strV, hk])⟩⟩
theorem below_drew {w : World} (n : Nat) : Below w.heap.size w (w.drewN n) := below_drewN (Below.refl _ _) n
theorem table_below {w w' : World} {B : Nat} (h : Table w) (hb : Below B w w') (hB : 0 < B) : Table w' := by
  intro k hk
  rw [hb.cell (p := ⟨0, k, none⟩) hB]; exact h k hk
end Go.Proofs.YtokmllopbfmadaaDoor.Top
