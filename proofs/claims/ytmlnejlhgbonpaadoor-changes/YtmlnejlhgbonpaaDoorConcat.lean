import Derived.Test.YtmlnejlhgbonpaaDoorAsTexts
import Derived.Lib.AppendZeros
namespace Go.Proofs.YtmlnejlhgbonpaaDoor.Parts
open Go.RowKit Mem FieldWalks Tab ByTab

theorem infoRow8 : (Tryd.prog.info? 71).map (fun i => (i.zero, i.size, i.bytes)) = some (some (.slice none 0 0), 1, 24) := by kernel_rfl

set_option maxRecDepth 100000 in
theorem grow_any (n : Nat) (hn : n ≤ 200) (w : World) :
    Calls Tryd.prog 107 #[.slice none 0 0, .int .i64 n] w fun e w' => ∃ v, e = .returned v ∧ w'.ownsRow w.heap.size 71 1 v 0 [] ∧ Below w.heap.size w w' := by
  by_cases h0 : n = 0
  · subst h0
    go_enter Tryd.func107, Tryd.ntmps107
    go_wp2
    go_ret
    exact ⟨_, rfl, World.ownsRow_nil _ _ _ _, Below.refl _ _⟩
  · obtain ⟨i0, hi, hz0, hz1, hz2⟩ := info_parts infoRow8
    have hr := Lib.run_append_nil_zeros (P := Tryd.prog) w 98 3 98 71 i0 (.slice none 0 0) .i64 .i64 Tryd.underlying98 Tryd.underlying3 hi hz0 n (by omega) (by omega) (by omega) (by rw [hz2]; omega)
    have hge := grownCap_ge w n 0 71
    have hle := grownCap_le_maxLen w n 0 71 (by unfold maxLen; omega)
    generalize grownCap w n 0 71 = cap at hr hge hle
    have HLE : Hid (cap ≤ maxLen) := hle
    clear hle hi hz0 hz1 hz2
    go_enter Tryd.func107, Tryd.ntmps107
    go_wp2_with (at_builtin; refine Lib.wpList_append_run _ rfl _ _ _ _ rfl _ _ rfl rfl _ _ hr ?_)
    go_ret
    refine ⟨_, rfl, ⟨rfl, .inr ⟨w.heap.size, cap, _, rfl, Nat.le_refl _, heap_alloc_new w.drew _, Nat.zero_le _, HLE.out, ?_, ?_⟩⟩, (Below.refl _ _).drew.alloc (Nat.le_refl _) _⟩
    · simp only [Array.size_append, size_zeroCells]
      simp; omega
    · simp

/-- The slice v reads as these lists of rows. -/
def RowssAt (w : World) (v : Value) (R : List (List (List Nat))) : Prop :=
  ∃ b cap, v = .slice (some ⟨b, 0, none⟩) R.length cap ∧ b < w.heap.size ∧ ∀ k, (h : k < R.length) → ∃ u, w.cell? ⟨b, k, none⟩ = some u ∧ RowsAt w u R[k]

theorem run_loadCells_none' {P : Program} (w : World) (a : Addr) : (loadCells a 0).run P w = .ok #[] w := run_loadCells_list (P := P) w a [] (fun j u hu => by simp at hu)
theorem run_append_empty {P : Program} (w : World) (base : Nat) (t ty e : TypeId) (i : TypeInfo) (size : Nat) (ht : P.underlying t = some (.slice e)) (hi : P.info? e = some i)
    (v : Value) (n : Nat) (xs : List Value) (hown : w.ownsRow base e size v n xs) (ao : Option Addr) (c : Nat) :
    (Builtin.append_ #[t, t] ty #[v, .slice ao 0 c]).run P w = .ok v w := by
  rcases hown.2 with ⟨rfl, rfl⟩ | ⟨g, cap, cur, rfl, _, _, hnc, _⟩ <;> cases ao
  · simp [Builtin.append_, run_underlying ht, sizeOf, typeInfo, hi, Builtin.lenOf, Builtin.firstCells]
  · simp [Builtin.append_, run_underlying ht, sizeOf, typeInfo, hi, Builtin.lenOf, Builtin.firstCells, run_loadCells_none']
  · simp [Builtin.append_, run_underlying ht, sizeOf, typeInfo, hi, Builtin.lenOf, Builtin.firstCells, hnc, storeCells]
  · simp [Builtin.append_, run_underlying ht, sizeOf, typeInfo, hi, Builtin.lenOf, Builtin.firstCells, hnc, storeCells, run_loadCells_none']

theorem flat_next {α : Type} (R : List (List α)) (k : Nat) (h : k < R.length) : (R.take (k + 1)).flatten = (R.take k).flatten ++ R[k] := by
  rw [List.take_add_one, List.getElem?_eq_getElem h, List.flatten_append]; simp
theorem flat_le {α : Type} (R : List (List α)) (k : Nat) : (R.take k).flatten.length ≤ R.flatten.length := by
  have e : R.flatten = (R.take k).flatten ++ (R.drop k).flatten := by rw [← List.flatten_append, List.take_append_drop]
  rw [e, List.length_append]; omega

/-- The cells of rows. -/
theorem rows_cells {w : World} {b off : Nat} {rows : List (List Nat)} (h : ∀ k, (h : k < rows.length) → ∃ u, w.cell? ⟨b, off + k, none⟩ = some u ∧ BsAt w u rows[k]) :
    ∃ us : List Value, us.length = rows.length ∧ (∀ k u, us[k]? = some u → w.cell? ⟨b, off + k, none⟩ = some u) ∧ ∀ k, (h : k < rows.length) → ∃ u, us[k]? = some u ∧ BsAt w u rows[k] := by
  induction rows generalizing off with
  | nil => exact ⟨[], rfl, fun k u hu => by simp at hu, fun k hk => by simp at hk⟩
  | cons r rows ih =>
    obtain ⟨u0, hu0, hb0⟩ := h 0 (by simp)
    obtain ⟨us, hl, hc, hr⟩ := ih (off := off + 1) (fun k hk => by
      obtain ⟨u, hu, hb⟩ := h (k + 1) (by simpa using hk)
      exact ⟨u, by rw [show off + 1 + k = off + (k + 1) by omega]; exact hu, by simpa using hb⟩)
    refine ⟨u0 :: us, by simp [hl], fun k u hu => ?_, fun k hk => ?_⟩
    · cases k with
      | zero => simp at hu; subst hu; exact hu0
      | succ k => rw [show off + (k + 1) = off + 1 + k by omega]; exact hc k u (by simpa using hu)
    · cases k with
      | zero => exact ⟨u0, rfl, by simpa using hb0⟩
      | succ k => simpa using hr k (by simpa using hk)
theorem one_of_bs {w : World} {u : Value} {l : List Nat} (h : BsAt w u l) : u.oneCell' = true := by
  obtain ⟨ao, cap, rfl, _⟩ := h; rfl

/-- Values that read as rows. -/
def ReadAs (w : World) (us : List Value) (rows : List (List Nat)) : Prop := us.length = rows.length ∧ ∀ k, (h : k < rows.length) → ∃ u, us[k]? = some u ∧ BsAt w u rows[k]
theorem ReadAs.append {w : World} {us vs : List Value} {a b : List (List Nat)} (h : ReadAs w us a) (k : ReadAs w vs b) : ReadAs w (us ++ vs) (a ++ b) := by
  refine ⟨by simp [h.1, k.1], fun i hi => ?_⟩
  by_cases hl : i < a.length
  · obtain ⟨u, hu, hb⟩ := h.2 i hl
    refine ⟨u, by rw [List.getElem?_append_left (by rw [h.1]; exact hl)]; exact hu, by rw [List.getElem_append_left hl]; exact hb⟩
  · obtain ⟨u, hu, hb⟩ := k.2 (i - a.length) (by simp at hi; omega)
    refine ⟨u, by rw [List.getElem?_append_right (by rw [h.1]; omega), h.1]; exact hu, by rw [List.getElem_append_right (by omega)]; exact hb⟩
theorem ReadAs.rows {w w' : World} {base : Nat} {v : Value} {us : List Value} {rows : List (List Nat)} (h : ReadAs w us rows) (ho : w'.ownsRow base 71 1 v rows.length us) (hb : Below w.heap.size w w') : RowsAt w' v rows := by
  obtain ⟨hl, h2⟩ := ho
  rcases h2 with ⟨rfl, h0⟩ | ⟨g, cap, cur, rfl, hg, hh, _, _, _, ht⟩
  · exact ⟨none, 0, by rw [h0], .inl (List.eq_nil_of_length_eq_zero h0)⟩
  · refine ⟨_, cap, rfl, .inr ⟨g, 0, rfl, lt_of_block hh, fun k hk => ?_⟩⟩
    obtain ⟨u, hu, hbs⟩ := h.2 k hk
    refine ⟨u, ?_, hbs.to hb⟩
    rw [Nat.zero_add, cell_of_row w' g k cur 71 (0, 0) hh]
    rw [Nat.mul_one] at ht
    rw [← ht, List.getElem?_take_of_lt hk] at hu
    simpa using hu

set_option maxRecDepth 100000 in
set_option maxHeartbeats 1000000 in
theorem concat_any (R : List (List (List Nat))) (v : Value) (w : World) (hv : RowssAt w v R) (hR : R.length ≤ 100) (hF : R.flatten.length ≤ 200) :
    Calls Tryd.prog 88 #[v] w fun e w' => ∃ v', e = .returned v' ∧ RowsAt w' v' R.flatten ∧ Below w.heap.size w w' := by
  obtain ⟨b, cap, rfl, hb, hc⟩ := hv
  have HC : Hid (∀ k, (h : k < R.length) → ∃ u, w.cell? ⟨b, k, none⟩ = some u ∧ RowsAt w u R[k]) := hc
  have HF : Hid (R.flatten.length ≤ 200) := hF
  obtain ⟨i0, hi, hz0, hz1, hz2⟩ := info_parts infoRow8
  have HI : Hid (Tryd.prog.info? 71 = some i0 ∧ i0.zero = some (.slice none 0 0) ∧ i0.size = 1 ∧ i0.bytes = 24) := ⟨hi, hz0, hz1, hz2⟩
  clear hc hF hi hz0 hz1 hz2
  go_enter Tryd.func88, Tryd.ntmps88
  go_wp2
  go_loop [3, 11] (fun t i => ∃ k n : Nat, k ≤ R.length ∧ i = .int .i64 k ∧ t = .int .i64 n ∧ n = (R.take k).flatten.length) (fun _ i => R.length - (intOf i).toNat)
  case atStart => exact ⟨0, 0, Nat.zero_le _, rfl, rfl, by simp⟩
  case round =>
    obtain ⟨k, n, hk, rfl, rfl, hn⟩ := hrel
    have hn2 : n ≤ 200 := by rw [hn]; exact Nat.le_trans (flat_le R k) HF.out
    have HN : Hid (n = (R.take k).flatten.length) := hn
    clear hn
    by_cases hlt : k < R.length
    · obtain ⟨u, hu, ao, c, rfl, hr⟩ := HC.out k hlt
      have hm : n + R[k].length ≤ 200 := by
        have := flat_le R (k + 1)
        rw [flat_next R k hlt, List.length_append, ← HN.out] at this
        exact Nat.le_trans this HF.out
      have HM : Hid (n + R[k].length = (R.take (k + 1)).flatten.length) := by
        show _ = _
        rw [flat_next R k hlt, List.length_append, ← HN.out]
      clear hr
      generalize R[k].length = m at hu hm HM
      go_wp2
      go_round
      case rel => exact ⟨k + 1, n + m, by omega, by go_num, by go_num, HM.out⟩
      case measure => simp [intOf]; omega
    · obtain rfl : k = R.length := by omega
      go_wp2_with fail
      refine (grow_any n hn2 w).mono ?_
      rintro e w1 ⟨v1, rfl, hown1, hb1⟩
      go_wp2
      go_loopw [6, 27] (fun t i wr => ∃ k us, k ≤ R.length ∧ i = .int .i64 (k : Nat) ∧ wr.ownsRow w.heap.size 71 1 t us.length us ∧ ReadAs w us (R.take k).flatten ∧ Below w.heap.size w wr) (fun _ i _ => R.length - (intOf i).toNat)
      case atStart => exact ⟨0, [], Nat.zero_le _, rfl, hown1, ⟨by simp, fun k hk => by simp at hk⟩, hb1⟩
      case round =>
        clear hown1 hb1
        obtain ⟨k, us, hk, rfl, hown, hread, hbel⟩ := hrel
        by_cases hlt : k < R.length
        · obtain ⟨u, hu, ao, c, rfl, hr⟩ := HC.out k hlt
          rw [← hbel.cell (p := ⟨b, k, none⟩) hb] at hu
          have HOWN : Hid (wr.ownsRow w.heap.size 71 1 u6 us.length us) := hown
          have hul : us.length + R[k].length ≤ 200 := by
            have := flat_le R (k + 1)
            rw [flat_next R k hlt, List.length_append, ← hread.1] at this
            exact Nat.le_trans this HF.out
          have HREAD : Hid (ReadAs w us (R.take k).flatten) := hread
          have HFN : Hid ((R.take (k + 1)).flatten = (R.take k).flatten ++ R[k]) := flat_next R k hlt
          clear hown hread
          by_cases h0 : R[k] = []
          · have hrun := run_append_empty (P := Tryd.prog) wr w.heap.size 98 98 71 i0 1 Tryd.underlying98 HI.out.1 u6 us.length us HOWN.out ao c
            rw [h0, List.length_nil] at hu
            have HFN2 : Hid ((R.take (k + 1)).flatten = (R.take k).flatten) := by rw [HFN.out, h0]; exact List.append_nil _
            clear hr HFN h0 hul
            go_wp2_with (at_builtin; refine Lib.wpList_append_run _ rfl _ _ _ _ rfl _ _ rfl rfl _ _ hrun ?_)
            go_roundw
            case rel => exact ⟨k + 1, us, by omega, by go_num, HOWN.out, by rw [HFN2.out]; exact HREAD.out, hbel⟩
            case measure => simp [intOf]; omega
          · obtain ⟨rb, off, rfl, hrb, hrc⟩ : ∃ b off, ao = some ⟨b, off, none⟩ ∧ b < w.heap.size ∧ ∀ j, (h : j < R[k].length) → ∃ u, w.cell? ⟨b, off + j, none⟩ = some u ∧ BsAt w u R[k][j] := by
              rcases hr with h | h
              · exact absurd h h0
              · exact h
            obtain ⟨vs, hvl, hvc, hvr⟩ := rows_cells hrc
            have HNEW : Hid (∀ j u, vs[j]? = some u → wr.cell? ((⟨rb, off, none⟩ : Addr).add j) = some u) := fun j u hu => by
              rw [Addr.add_lit, hbel.cell (p := ⟨rb, off + j, none⟩) hrb]; exact hvc j u hu
            have HONE : Hid (∀ u ∈ vs, u.oneCell' = true) := fun u hu => by
              obtain ⟨j, hj, e⟩ := List.mem_iff_getElem.1 hu
              obtain ⟨u', hu', hb'⟩ := hvr j (by omega)
              rw [List.getElem?_eq_getElem hj, Option.some.injEq] at hu'
              rw [← e, hu']; exact one_of_bs hb'
            have HVR : Hid (ReadAs w vs R[k]) := ⟨hvl, hvr⟩
            have HVL : Hid (vs.length = R[k].length * 1) := by rw [Nat.mul_one]; exact hvl
            clear hr hrc hvl hvc hvr h0
            generalize R[k] = rk at hu hul HFN HVR HVL
            have hsz := hbel.size
            go_wp2_with ((at_builtin; refine wpList_append_own _ rfl _ _ 98 rfl w.heap.size 71 i0 (.slice none 0 0) 1 24 Tryd.underlying98 HI.out.1 HI.out.2.1 HI.out.2.2.1 HI.out.2.2.2 rfl (by decide) u6 us.length us rfl HOWN.out ⟨rb, off, none⟩ rk.length c vs rfl HVL.out HNEW.out HONE.out (by unfold maxLen; omega) (by omega) hsz ?_); intro v' w2 hown2 hg2 _)
            have hb2 := below_grown hbel HOWN.out hg2 hsz (Nat.le_refl _)
            have HO2 : Hid (w2.ownsRow w.heap.size 71 1 v' (us ++ vs).length (us ++ vs)) := by
              rw [List.length_append, HVR.out.1]; exact hown2
            clear hown2 hg2
            go_wp2
            go_roundw
            case rel => exact ⟨k + 1, us ++ vs, by omega, by go_num, HO2.out, by rw [HFN.out]; exact HREAD.out.append HVR.out, hb2⟩
            case measure => simp [intOf]; omega
        · obtain rfl : k = R.length := by omega
          rw [List.take_length] at hread
          have HOWN : Hid (wr.ownsRow w.heap.size 71 1 u6 us.length us) := hown
          have HREAD : Hid (ReadAs w us R.flatten) := hread
          clear hown hread
          go_wp2
          go_ret
          refine ⟨_, rfl, ?_, hbel⟩
          have h1 := HOWN.out
          have h2 := HREAD.out
          rw [h2.1] at h1
          exact h2.rows h1 hbel
end Go.Proofs.YtmlnejlhgbonpaaDoor.Parts
