import Derived.Test.YtokmllopbfmadaaGreatDoorGPkPieces
namespace Go.Proofs.YtokmllopbfmadaaGreatDoor.Ref
open Go.RowKit Mem FieldWalks Tab ByTab Parts
open Gf (Bytes sumTo addTo rowOf dot Gauss outOf)
open Plans (But intsV infoInt rowF rowF_length)

def boolsV (l : List Bool) : List Value := l.map Value.bool
theorem infoBool : (Tryz.prog.info? 4).map (fun i => (i.zero, i.size, i.bytes)) = some (some (.bool false), 1, 1) := by kernel_rfl
theorem make_bools (n : Nat) (hn : n ≤ 100000) (w : World) :
    (Instr.makeSlice 141 (.int .i64 (n : Int)) (.int .i64 (n : Int))).run Tryz.prog w = .ok (.slice (some ⟨w.heap.size, 0, none⟩) n n) (w.alloc (.cells (madeCells #[.bool false] n) 4)) := by
  obtain ⟨i, hi, hz0, hz1, hz2⟩ := info_parts infoBool
  have := run_make (P := Tryz.prog) w 141 4 i (.bool false) Tryz.underlying141 hi hz0 .i64 .i64 n n (by omega) (by omega) (by rw [hz2]; omega) (by omega)
  rw [hz1, Int.toNat_natCast, Nat.mul_one] at this
  exact this
theorem made_bools (w : World) (n : Nat) : Blk (w.alloc (.cells (madeCells #[.bool false] n) 4)) w.heap.size 4 (boolsV (List.replicate n false)) := by
  refine (Blk.new w _ _).eq ?_
  rw [toList_madeCells_one]; simp [boolsV]
theorem bools_at {w : World} {b : Nat} {l : List Bool} (h : Blk w b 4 (boolsV l)) {k : Nat} (hk : k < l.length) : w.cell? ⟨b, k, none⟩ = some (.bool (l.getD k false)) := h.cell_some (by simp [boolsV, hk])
theorem ints_at {w : World} {b : Nat} {l : List Nat} (h : Blk w b 3 (intsV l)) {k : Nat} (hk : k < l.length) : w.cell? ⟨b, k, none⟩ = some (.int .i64 ((l.getD k 0 : Nat) : Int)) := h.cell_some (by simp [intsV, hk])

/-- The memory at the head of each round: U holds which are used, X which is whose. -/
structure Held (w wr : World) (B U X d L j : Nat) (R0 R : List Eqn) (Wl : List Nat) (Ul : List Bool) : Prop where
  far : Far d L j R0 R Wl Ul
  rows : RowsIn X wr B R
  used : Blk wr U 4 (boolsV Ul)
  which : Blk wr X 3 (intsV Wl)
  but : But B w wr

theorem two_set {w : World} {B q : Nat} {p : Addr} {f v : Value} (h1 : p ≠ ⟨B, q * 2, none⟩) (h2 : p ≠ ⟨B, q * 2 + 1, none⟩) : ((w.setCell ⟨B, q * 2, none⟩ f).setCell ⟨B, q * 2 + 1, none⟩ v).cell? p = w.cell? p :=
  (World.cell?_setCell_other _ _ _ _ (Ne.symm h2)).trans (World.cell?_setCell_other _ _ _ _ (Ne.symm h1))
/-- Lists that were there lie in no later block. -/
theorem rows_low {X Y B : Nat} {w w' : World} {R : List Eqn} (h : RowsIn X w B R) (hb : Below w.heap.size w w') (hY : w.heap.size ≤ Y) : RowsIn Y w' B R := by
  obtain ⟨us, hB, hc⟩ := h
  refine ⟨us, hB.to hb, fun r hr => ?_⟩
  obtain ⟨f, v, h1, h2, h3, h4⟩ := hc r hr
  exact ⟨f, v, h1, h2, (h3.mono fun b hb _ => by omega).to hb, (h4.mono fun b hb _ => by omega).to hb⟩
/-- Row r, as a round reads it. -/
theorem row_facts {X B d L r : Nat} {w : World} {R : List Eqn} (h : RowsIn X w B R) (hN : Neat d L R) (hr : r < d) (j : Nat) (hj : j < d) : ∃ fb fc v, w.cell? ⟨B, r * 2, none⟩ = some (.slice (some ⟨fb, 0, none⟩) d fc) ∧ w.cell? ⟨B, r * 2 + 1, none⟩ = some v ∧
    w.frozen? ⟨B, r * 2, none⟩ = false ∧ w.frozen? ⟨B, r * 2 + 1, none⟩ = false ∧ w.cell? ⟨fb, j, none⟩ = some (.int .i64 ((Fof R r j : Nat) : Int)) ∧ fb ≠ X ∧ fb ≠ B ∧ (∃ us, Blk w fb 3 us) ∧ Fof R r j < 256 ∧
    NsP (fun b => b ≠ X) w (.slice (some ⟨fb, 0, none⟩) d fc) (R.getD r ([], [])).1 ∧ NsP (fun b => b ≠ X) w v (R.getD r ([], [])).2 := by
  have hrl : r < R.length := by rw [hN.len]; exact hr
  have hB := h
  obtain ⟨us, hBk, _⟩ := hB
  obtain ⟨f, v, c1, c2, f1, f2, n1, n2⟩ := h.row r hrl
  have hlf := hN.lf r hrl
  have n1' := n1
  obtain ⟨ao, fc, rfl, hx⟩ := n1'
  rcases hx with h0 | ⟨fb, us', rfl, hX, hb, hc⟩
  · rw [h0] at hlf; simp at hlf; omega
  · have e : R.getD r ([], []) = R[r] := by simp [hrl]
    rw [hlf] at c1 n1
    refine ⟨fb, fc, v, c1, c2, f1, f2, ?_, hX, hb.type_ne hBk (by decide), ⟨us', hb⟩, by rw [Fof_eq hrl]; exact (hN.bf r hrl).getD j, by rw [e]; exact n1, by rw [e]; exact n2⟩
    have hj' : j < R[r].1.length := by omega
    rw [hb.cell_some (hc j hj'), Fof_eq hrl]
    simp [hj']
theorem Held.mark {w wr : World} {B U X d L j r : Nat} {R0 R : List Eqn} {Wl : List Nat} {Ul : List Bool} (h : Held w wr B U X d L j R0 R Wl Ul) (hBU : B ≠ U) (hBX : B ≠ X) (hUX : U ≠ X) (hU : w.heap.size ≤ U) (hX : w.heap.size ≤ X) :
    RowsIn X ((wr.setCell ⟨U, r, none⟩ (.bool true)).setCell ⟨X, j, none⟩ (.int .i64 (r : Nat))) B R ∧ Blk ((wr.setCell ⟨U, r, none⟩ (.bool true)).setCell ⟨X, j, none⟩ (.int .i64 (r : Nat))) U 4 (boolsV (Ul.set r true)) ∧
      Blk ((wr.setCell ⟨U, r, none⟩ (.bool true)).setCell ⟨X, j, none⟩ (.int .i64 (r : Nat))) X 3 (intsV (Wl.set j r)) ∧ But B w ((wr.setCell ⟨U, r, none⟩ (.bool true)).setCell ⟨X, j, none⟩ (.int .i64 (r : Nat))) := by
  refine ⟨?_, ?_, ?_, ?_⟩
  · have h1 : RowsIn X (wr.setCell ⟨U, r, none⟩ (.bool true)) B R := h.rows.but ((But.refl U wr).setCell _ _) hBU fun b us hb _ => hb.type_ne h.used (by decide)
    exact h1.but ((But.refl X _).setCell _ _) hBX fun b us _ hb => hb
  · refine ((h.used.set r _).other hUX _).eq ?_
    simp [boolsV, List.map_set]
  · refine ((h.which.other (Ne.symm hUX) _).set j _).eq ?_
    simp [intsV, List.map_set]
  · exact (h.but.cell_new hU _).cell_new hX _
theorem tookTo_getD {R : List Eqn} {j r by_ q i : Nat} (hi : i < R.length) (h : q ≤ i ∨ i = r) : (tookTo R j r by_ q).getD i ([], []) = R.getD i ([], []) := by
  have hl : i < (tookTo R j r by_ q).length := by rw [tookTo_length]; exact hi
  rw [List.getD_eq_getElem?_getD, List.getElem?_eq_getElem hl, Option.getD_some, tookTo_at, if_neg (by omega)]
theorem tookTo_Fof {R : List Eqn} {j r by_ q i : Nat} (hi : i < R.length) (h : q ≤ i ∨ i = r) (k : Nat) : Fof (tookTo R j r by_ q) i k = Fof R i k := by unfold Fof; rw [tookTo_getD hi h]

set_option maxRecDepth 100000 in
set_option maxHeartbeats 2000000 in
theorem solved_any (d L B cap : Nat) (R0 : List Eqn) (w : World) (hN : Neat d L R0) (ker : ∀ x : Nat → Nat, (∀ k, x k < 256) → (∀ r, r < d → dot d (Fof R0 r) x = 0) → ∀ k, k < d → x k = 0)
    (hrows : RowsIn w.heap.size w B R0) (hd : 1 ≤ d) (hd2 : d ≤ 10) (hL : L ≤ 1000) :
    Calls Tryz.prog 84 #[.slice (some ⟨B, 0, none⟩) d cap] w fun e w' =>
      ∃ v ps, e = .returned v ∧ RowsAt w' v ps ∧ ps.length = d ∧ (∀ j, (h : j < ps.length) → ps[j].length = L) ∧ (∀ j, (h : j < ps.length) → Bytes ps[j]) ∧ (∀ q, q < d → ∀ t, t < L → dot d (Fof R0 q) (Gf.colOf ps t) = Vof R0 q t) ∧ But B w w' := by
  have hmk1 := fun w => make_bools d (by omega) w
  have hmk2 := fun w => make_ints d (by omega) w
  have hmk3 := fun w => make_rows d (by omega) w
  have HN : Hid (Neat d L R0) := hN
  have HK : Hid (∀ x : Nat → Nat, (∀ k, x k < 256) → (∀ r, r < d → dot d (Fof R0 r) x = 0) → ∀ k, k < d → x k = 0) := ker
  have HR : Hid (RowsIn w.heap.size w B R0) := hrows
  have hBl := hrows.lt
  clear hN ker hrows
  go_enter Tryz.func84, Tryz.ntmps84
  go_wp2
  obtain ⟨U, hU⟩ : ∃ U, U = w.heap.size := ⟨_, rfl⟩
  obtain ⟨X, hX⟩ : ∃ X, X = w.heap.size + 1 := ⟨_, rfl⟩
  rw [← hX, ← hU]
  have HUX : Hid (U = w.heap.size ∧ X = w.heap.size + 1) := ⟨hU, hX⟩
  have hBU : B ≠ U := by omega
  have hBX : B ≠ X := by omega
  have hUX : U ≠ X := by omega
  clear hU hX
  go_loopw [6] (fun jv wr => ∃ (j : Nat) (R : List Eqn) (Wl : List Nat) (Ul : List Bool), j ≤ d ∧ jv = .int .i64 j ∧ Held w wr B U X d L j R0 R Wl Ul) (fun jv _ => d - (intOf jv).toNat)
  case atStart =>
    obtain ⟨rfl, rfl⟩ := HUX.out
    refine ⟨0, R0, List.replicate d 0, List.replicate d false, Nat.zero_le _, rfl, Far.start HN.out HK.out, ?_, (made_bools w d).alloc _, (by simpa using made_ints (w.alloc (.cells (madeCells #[.bool false] d) 4)) d), ((But.refl _ _).alloc _).alloc _⟩
    exact rows_low HR.out (((Below.refl _ _).alloc (Nat.le_refl _) _).alloc (by simp) _) (by omega)
  case round =>
    obtain ⟨j, R, Wl, Ul, hj, rfl, hheld⟩ := hrel
    by_cases hlt : j < d
    · obtain ⟨ps, hps, hpu, hpf⟩ := hheld.far.gauss.pivot hlt
      have HH : Hid (Held w wr B U X d L j R0 R Wl Ul) := hheld
      clear hheld
      go_wp2
      go_loop [7] (fun rv => ∃ r : Nat, r ≤ ps ∧ rv = .int .i64 r) (fun rv => ps - (intOf rv).toNat)
      case atStart => exact ⟨0, Nat.zero_le _, rfl⟩
      case round =>
        obtain ⟨r, hr, rfl⟩ := hrel
        have hrd : r < d := by omega
        have hul := HH.out.far.ulen
        obtain ⟨fb, fc, fv, c1, c2, z1, z2, c3, hfX, hfB, hfl, hfb, n1, n2⟩ := row_facts HH.out.rows HH.out.far.neat hrd j hlt
        have cu := bools_at HH.out.used (k := r) (by omega)
        obtain ⟨ub, hub⟩ : ∃ ub, ub = Ul.getD r false := ⟨_, rfl⟩
        rw [← hub] at cu
        have HUB : Hid (ub = Ul.getD r false) := hub
        obtain ⟨y, hy⟩ : ∃ y, y = Fof R r j := ⟨_, rfl⟩
        rw [← hy] at c3 hfb
        have HY : Hid (y = Fof R r j) := hy
        have HPU : Hid (Ul.getD ps false = false ∧ Fof R ps j ≠ 0) := ⟨hpu, hpf⟩
        clear n1 n2 hub hy hul z1 z2
        cases ub
        · by_cases hy0 : y = 0
          · have hrp : r < ps := by
              have h1 := HPU.out.2
              have : r ≠ ps := fun e => by subst e; exact h1 (by rw [← HY.out]; exact hy0)
              omega
            have e0 : ((y : Int) == 0) = true := by simp [hy0]
            clear hpu hpf
            go_wp2
            go_round
            case rel => exact ⟨r + 1, by omega, by go_num⟩
            case measure => simp [intOf]; omega
          · have e0 : ((y : Int) == 0) = false := by simp; omega
            have hwlen := HH.out.far.wlen
            have hulen := HH.out.far.ulen
            have hBlr := HH.out.rows.lt
            have cx := ints_at HH.out.which (k := j) (by omega)
            have fu := HH.out.used.free r
            have fx := HH.out.which.free j
            obtain ⟨hR1, hU1, hX1, hb1⟩ := HH.out.mark (r := r) hBU hBX hUX (by have := HUX.out; omega) (by have := HUX.out; omega)
            have HR1 : Hid (RowsIn X ((wr.setCell ⟨U, r, none⟩ (.bool true)).setCell ⟨X, j, none⟩ (.int .i64 (r : Nat))) B R) := hR1
            have HU1 : Hid (Blk ((wr.setCell ⟨U, r, none⟩ (.bool true)).setCell ⟨X, j, none⟩ (.int .i64 (r : Nat))) U 4 (boolsV (Ul.set r true))) := hU1
            have HX1 : Hid (Blk ((wr.setCell ⟨U, r, none⟩ (.bool true)).setCell ⟨X, j, none⟩ (.int .i64 (r : Nat))) X 3 (intsV (Wl.set j r))) := hX1
            have HB1 : Hid (But B w ((wr.setCell ⟨U, r, none⟩ (.bool true)).setCell ⟨X, j, none⟩ (.int .i64 (r : Nat)))) := hb1
            have hfU : fb ≠ U := by
              obtain ⟨us, hbk⟩ := hfl
              exact hbk.type_ne HH.out.used (by decide)
            have m1 := Ne.symm hBU
            have m2 := Ne.symm hBX
            have m3 := Ne.symm hfX
            have m4 := Ne.symm hfU
            clear hR1 hU1 hX1 hb1 hpu hpf
            go_wp2_with (go_at_call 73; refine (over_any y hfb hy0 _).mono ?_; rintro e w2 ⟨rfl, rfl⟩)
            obtain ⟨w1, hw1⟩ : ∃ w1, w1 = (wr.setCell ⟨U, r, none⟩ (.bool true)).setCell ⟨X, j, none⟩ (.int .i64 (r : Nat)) := ⟨_, rfl⟩
            rw [← hw1] at HR1 HU1 HX1 HB1 ⊢
            obtain ⟨bi, hbi⟩ : ∃ bi, bi = Gf.inv y := ⟨_, rfl⟩
            rw [← hbi]
            have hbib : bi < 256 := by rw [hbi]; exact Gf.inv_lt _ hfb
            have HBI : Hid (bi = Gf.inv (Fof R r j)) := by show _ = _; rw [hbi, HY.out]
            have HYN : Hid (y ≠ 0) := hy0
            have HNT : Hid (Neat d L R) := HH.out.far.neat
            clear hw1 hbi c1 c2 c3 cu cx fu fx e0 hy0 hmk1 hmk2
            go_loopw [9] (fun qv wq => ∃ q : Nat, q ≤ d ∧ qv = .int .i64 q ∧ RowsIn X wq B (tookTo R j r bi q) ∧ Blk wq U 4 (boolsV (Ul.set r true)) ∧ Blk wq X 3 (intsV (Wl.set j r)) ∧ But B w wq) (fun qv _ => d - (intOf qv).toNat)
            case atStart => exact ⟨0, Nat.zero_le _, rfl, by rw [tookTo_zero]; exact HR1.out, HU1.out, HX1.out, HB1.out⟩
            case round =>
              clear HR1 HU1 HX1 HB1
              obtain ⟨q, hq, rfl, hrows, hU, hX, hbut⟩ := hrel
              by_cases hqd : q < d
              · have hNq : Neat d L (tookTo R j r bi q) := tookTo_neat HNT.out (by rw [HNT.out.len]; exact hrd)
                have HU2 : Hid (Blk wr U 4 (boolsV (Ul.set r true))) := hU
                have HX2 : Hid (Blk wr X 3 (intsV (Wl.set j r))) := hX
                have HB2 : Hid (But B w wr) := hbut
                have HR2 : Hid (RowsIn X wr B (tookTo R j r bi q)) := hrows
                by_cases hqr : q = r
                · have e1 : ((q : Int) != (r : Int)) = false := by simp [hqr]
                  have HSM : Hid (tookTo R j r bi (q + 1) = tookTo R j r bi q) := tookTo_same hqr
                  clear hU hX hbut hrows hNq
                  go_wp2
                  go_roundw
                  case rel => exact ⟨q + 1, by omega, by go_num, by rw [HSM.out]; exact HR2.out, HU2.out, HX2.out, HB2.out⟩
                  case measure => simp [intOf]; omega
                · have e1 : ((q : Int) != (r : Int)) = true := by simp; omega
                  have hqR : q < R.length := by rw [HNT.out.len]; exact hqd
                  have hrR : r < R.length := by rw [HNT.out.len]; exact hrd
                  obtain ⟨gb, gc, gv, c1, c2, z1, z2, c3, hgX, hgB, hgl, hgb, n1, n2⟩ := row_facts hrows hNq hqd j hlt
                  rw [tookTo_Fof hqR (.inl (Nat.le_refl _))] at c3 hgb
                  rw [tookTo_getD hqR (.inl (Nat.le_refl _))] at n1 n2
                  obtain ⟨x, hx⟩ : ∃ x, x = Fof R q j := ⟨_, rfl⟩
                  rw [← hx] at c3 hgb
                  have HX3 : Hid (x = Fof R q j) := hx
                  clear hx hfl hfX hfB hfb m1 m2 m3 m4 hfU
                  by_cases hx0 : x = 0
                  · have e2 : ((x : Int) != 0) = false := by simp [hx0]
                    have HSM : Hid (tookTo R j r bi (q + 1) = tookTo R j r bi q) := tookTo_none HNT.out hqR hrR hbib (by rw [← HX3.out]; exact hx0)
                    clear hU hX hbut hrows hNq n1 n2
                    go_wp2
                    go_roundw
                    case rel => exact ⟨q + 1, by omega, by go_num, by rw [HSM.out]; exact HR2.out, HU2.out, HX2.out, HB2.out⟩
                    case measure => simp [intOf]; omega
                  · have e2 : ((x : Int) != 0) = true := by simp; omega
                    obtain ⟨kb, kc, kv, d1, d2, y1, y2, d3, hkX, hkB, hkl, hkb, l1, l2⟩ := row_facts hrows hNq hrd j hlt
                    rw [tookTo_getD hrR (.inr rfl)] at l1 l2
                    have eq1 : R.getD q ([], []) = R[q] := by simp [hqR]
                    have er1 : R.getD r ([], []) = R[r] := by simp [hrR]
                    have hmx : Gf.times x bi < 256 := Gf.times_lt _ _ hgb
                    obtain ⟨nf, hnf⟩ : ∃ nf, nf = addTo (Gf.times x bi) (R.getD q ([], [])).1 (R.getD r ([], [])).1 := ⟨_, rfl⟩
                    obtain ⟨nv, hnv⟩ : ∃ nv, nv = addTo (Gf.times x bi) (R.getD q ([], [])).2 (R.getD r ([], [])).2 := ⟨_, rfl⟩
                    have HNW : Hid ((tookTo R j r bi q).set q (nf, nv) = tookTo R j r bi (q + 1)) := by
                      show _ = _
                      rw [← tookTo_set hqr, hnf, hnv, HX3.out]; rfl
                    have HLS : Hid (Calls Tryz.prog 93 #[.agg #[.slice (some ⟨gb, 0, none⟩) d gc, gv], .int .i64 (Gf.times x bi : Nat), .agg #[.slice (some ⟨kb, 0, none⟩) d kc, kv]] wr.drew fun e w' =>
                        ∃ fv vv, e = .returned (.agg #[fv, vv]) ∧ NsP (fun b => wr.heap.size ≤ b) w' fv nf ∧ NsP (fun b => wr.heap.size ≤ b) w' vv nv ∧ Below wr.heap.size wr w') := by
                      rw [eq1] at n1 n2 hnf hnv
                      rw [er1] at l1 l2 hnf hnv
                      rw [hnf, hnv]
                      have := less_any _ _ _ _ d L (Gf.times x bi) _ _ _ _ _ _ _ _ wr.drew (n1.to (Below.refl _ _).drew) (n2.to (Below.refl _ _).drew) (l1.to (Below.refl _ _).drew) (l2.to (Below.refl _ _).drew) (HNT.out.lf q hqR) (HNT.out.lv q hqR) (HNT.out.lf r hrR) (HNT.out.lv r hrR) (HNT.out.bf q hqR) (HNT.out.bv q hqR) (HNT.out.bf r hrR) (HNT.out.bv r hrR) hmx (by omega) hL
                      refine Calls.mono this ?_
                      rintro e w' ⟨fv, vv, he, h1, h2, h3⟩
                      exact ⟨fv, vv, he, h1, h2, (Below.refl _ _).drew.trans h3⟩
                    clear hnf hnv
                    clear hU hX hbut hrows hNq n1 n2 l1 l2 eq1 er1 d3 hkX hkB hkl hkb y1 y2
                    have i1 : (0 : Int) ≤ (q : Int) := by omega
                    have i2 : (q : Int) < (d : Int) := by omega
                    have i3 : (0 : Int) ≤ (r : Int) := by omega
                    have i4 : (r : Int) < (d : Int) := by omega
                    have i5 : (0 : Int) ≤ (j : Int) := by omega
                    have i6 : (j : Int) < (d : Int) := by omega
                    have o1 : ¬ q * 2 = r * 2 := by omega
                    have o2 : ¬ q * 2 + 1 = r * 2 := by omega
                    have o3 : ¬ q * 2 = r * 2 + 1 := by omega
                    have o4 : ¬ q * 2 + 1 = r * 2 + 1 := by omega
                    have o5 : ¬ B = gb := Ne.symm hgB
                    have hBw : B < wr.heap.size := HR2.out.lt
                    have hXw : X < wr.heap.size := HX2.out.lt
                    have hgw : gb < wr.heap.size := by obtain ⟨us, hb⟩ := hgl; exact hb.lt
                    have HA : Hid ((⟨B, r * 2, none⟩ : Addr) ≠ ⟨B, q * 2, none⟩ ∧ (⟨B, r * 2, none⟩ : Addr) ≠ ⟨B, q * 2 + 1, none⟩ ∧ (⟨B, r * 2 + 1, none⟩ : Addr) ≠ ⟨B, q * 2, none⟩ ∧ (⟨B, r * 2 + 1, none⟩ : Addr) ≠ ⟨B, q * 2 + 1, none⟩ ∧ (⟨gb, j, none⟩ : Addr) ≠ ⟨B, q * 2, none⟩ ∧ (⟨gb, j, none⟩ : Addr) ≠ ⟨B, q * 2 + 1, none⟩) := by
                      refine ⟨?_, ?_, ?_, ?_, ?_, ?_⟩ <;> intro h <;> injection h <;> omega
                    have HS : Hid (wr.drew.cell? ⟨B, r * 2, none⟩ = some (.slice (some ⟨kb, 0, none⟩) d kc) ∧ wr.drew.cell? ⟨B, r * 2 + 1, none⟩ = some kv ∧ wr.drew.cell? ⟨gb, j, none⟩ = some (.int .i64 (x : Int))) := ⟨d1, d2, c3⟩
                    clear hgl
                    go_wp2_with fail
                    refine wp_region_held (S := fun wx => wx.cell? ⟨B, r * 2, none⟩ = some (.slice (some ⟨kb, 0, none⟩) d kc) ∧ wx.cell? ⟨B, r * 2 + 1, none⟩ = some kv ∧ wx.cell? ⟨gb, j, none⟩ = some (.int .i64 (x : Int))) rfl ?_
                    refine wpAnyH_take (i := 0) (v := (.slice (some ⟨B, 0, none⟩) d cap)) rfl (by kernel_rfl) (by kernel_rfl) (by kernel_rfl) (fun _ _ _ h => h) (Or.inl ⟨by rfl, fun w hw => by go_simp⟩) HS.out ?_
                    refine wpAnyH_take (i := 1) (v := (.int .i64 (q : Int))) rfl (by kernel_rfl) (by kernel_rfl) (by kernel_rfl) (fun _ _ _ h => h) (Or.inl ⟨by rfl, fun w hw => by go_simp⟩) HS.out ?_
                    refine wpAnyH_take (i := 2) (v := (.slice (some ⟨B, 0, none⟩) d cap)) rfl (by kernel_rfl) (by kernel_rfl) (by kernel_rfl) (fun _ _ _ h => h) (Or.inl ⟨by rfl, fun w hw => by go_simp⟩) HS.out ?_
                    refine wpAnyH_take (i := 3) (v := (.int .i64 (q : Int))) rfl (by kernel_rfl) (by kernel_rfl) (by kernel_rfl) (fun _ _ _ h => h) (Or.inl ⟨by rfl, fun w hw => by go_simp⟩) HS.out ?_
                    refine wpAnyH_take (i := 4) (v := (.pointer (some ⟨B, q * 2, none⟩))) rfl (by kernel_rfl) (by kernel_rfl) (by kernel_rfl) (fun _ _ _ h => h) (Or.inl ⟨by rfl, fun w hw => by go_simp⟩) HS.out ?_
                    simp only [Act.put]
                    refine wpAnyH_take (i := 6) (v := (.slice (some ⟨B, 0, none⟩) d cap)) rfl (by kernel_rfl) (by kernel_rfl) (by kernel_rfl) (fun _ _ _ h => h) (Or.inl ⟨by rfl, fun w hw => by go_simp⟩) HS.out ?_
                    refine wpAnyH_take (i := 7) (v := (.int .i64 (q : Int))) rfl (by kernel_rfl) (by kernel_rfl) (by kernel_rfl) (fun _ _ _ h => h) (Or.inl ⟨by rfl, fun w hw => by go_simp⟩) HS.out ?_
                    refine wpAnyH_take (i := 8) (v := (.pointer (some ⟨B, q * 2, none⟩))) rfl (by kernel_rfl) (by kernel_rfl) (by kernel_rfl) (fun _ _ _ h => h) (Or.inl ⟨by rfl, fun w hw => by go_simp⟩) HS.out ?_
                    refine wpAnyH_take (i := 9) (v := (.pointer (some ⟨B, q * 2, none⟩))) rfl (by kernel_rfl) (by kernel_rfl) (by kernel_rfl) (fun _ _ _ h => h) (Or.inl ⟨by rfl, fun w hw => by go_simp⟩) HS.out ?_
                    refine wpAnyH_take (i := 11) (v := (.int .i64 (j : Int))) rfl (by kernel_rfl) (by kernel_rfl) (by kernel_rfl) (fun _ _ _ h => h) (Or.inl ⟨by rfl, fun w hw => by go_simp⟩) HS.out ?_
                    simp only [Act.put]
                    refine wpAnyH_take (i := 14) (v := (.int .i64 (bi : Int))) rfl (by kernel_rfl) (by kernel_rfl) (by kernel_rfl) (fun _ _ _ h => h) (Or.inl ⟨by rfl, fun w hw => by go_simp⟩) HS.out ?_
                    refine wpAnyH_take (i := 16) (v := (.slice (some ⟨B, 0, none⟩) d cap)) rfl (by kernel_rfl) (by kernel_rfl) (by kernel_rfl) (fun _ _ _ h => h) (Or.inl ⟨by rfl, fun w hw => by go_simp⟩) HS.out ?_
                    refine wpAnyH_take (i := 17) (v := (.int .i64 (r : Int))) rfl (by kernel_rfl) (by kernel_rfl) (by kernel_rfl) (fun _ _ _ h => h) (Or.inl ⟨by rfl, fun w hw => by go_simp⟩) HS.out ?_
                    refine wpAnyH_take (i := 18) (v := (.pointer (some ⟨B, r * 2, none⟩))) rfl (by kernel_rfl) (by kernel_rfl) (by kernel_rfl) (fun _ _ _ h => h) (Or.inl ⟨by rfl, fun w hw => by go_simp⟩) HS.out ?_
                    refine wpAnyH_take (i := 19) (v := (.agg #[.slice (some ⟨kb, 0, none⟩) d kc, kv])) rfl (by kernel_rfl) (by kernel_rfl) (by kernel_rfl) (fun _ _ _ h => h) (Or.inl ⟨by rfl, fun w hw => by obtain ⟨t1, t2, t3⟩ := hw; go_simp⟩) HS.out ?_
                    simp only [Act.put, List.setIfInBounds_toArray]
                    refine wpAnyH_ready (rs := [5, 10]) (by kernel_rfl) (by simp) ?_
                    refine AllReadyH.cons rfl (fun K hK => ?_) (AllReadyH.cons rfl (fun K hK => ?_) AllReadyH.nil)
                    · go_simp
                      refine hK.out _ _ HS.out (fun _ => ?_)
                      clear hK K
                      refine wpAnyH_ready (rs := [10]) (by kernel_rfl) (by simp) ?_
                      refine AllReadyH.cons rfl (fun K hK => ?_) AllReadyH.nil
                      go_simp
                      refine hK.out _ _ HS.out (fun _ => ?_)
                      clear hK K
                      refine wpAnyH_take (i := 12) (v := (.pointer (some ⟨gb, j, none⟩))) rfl (by kernel_rfl) (by kernel_rfl) (by kernel_rfl) (fun _ _ _ h => h) (Or.inl ⟨by rfl, fun w hw => by go_simp⟩) HS.out ?_
                      refine wpAnyH_take (i := 13) (v := (.int .i64 (x : Int))) rfl (by kernel_rfl) (by kernel_rfl) (by kernel_rfl) (fun _ _ _ h => h) (Or.inl ⟨by rfl, fun w hw => by obtain ⟨t1, t2, t3⟩ := hw; go_simp⟩) HS.out ?_
                      simp only [Act.put, List.setIfInBounds_toArray]
                      refine wpAnyH_ready (rs := [15]) (by kernel_rfl) (by simp) ?_
                      refine AllReadyH.cons rfl (fun K hK => ?_) AllReadyH.nil
                      go_simp
                      refine (times_any x bi hgb hbib _).mono ?_
                      rintro e w2 ⟨rfl, rfl⟩
                      dsimp only
                      refine hK.out _ _ HS.out (fun _ => ?_)
                      clear hK K
                      refine wpAnyH_ready (rs := [20]) (by kernel_rfl) (by simp) ?_
                      refine AllReadyH.cons rfl (fun K hK => ?_) AllReadyH.nil
                      go_simp
                      refine Calls.mono HLS.out ?_
                      rintro e w2 ⟨fv, vv, rfl, hfv, hvv, hbl⟩
                      obtain ⟨fa_, fc_, rfl⟩ := hfv.form
                      obtain ⟨va_, vc_, rfl⟩ := hvv.form
                      have s1 := (hbl.cell (p := ⟨B, r * 2, none⟩) hBw).trans d1
                      have s2 := (hbl.cell (p := ⟨B, r * 2 + 1, none⟩) hBw).trans d2
                      have s3 := (hbl.cell (p := ⟨gb, j, none⟩) hgw).trans c3
                      have s4 := (hbl.cell (p := ⟨B, q * 2, none⟩) hBw).trans c1
                      have s5 := (hbl.cell (p := ⟨B, q * 2 + 1, none⟩) hBw).trans c2
                      have s6 := (hbl.frozen (p := ⟨B, q * 2, none⟩) hBw).trans z1
                      have s7 := (hbl.frozen (p := ⟨B, q * 2 + 1, none⟩) hBw).trans z2
                      dsimp only
                      refine hK.out _ _ ⟨s1, s2, s3⟩ (fun _ => ?_)
                      clear hK K
                      have HS2 : Hid (w2.cell? ⟨B, r * 2, none⟩ = some (.slice (some ⟨kb, 0, none⟩) d kc) ∧ w2.cell? ⟨B, r * 2 + 1, none⟩ = some kv ∧ w2.cell? ⟨gb, j, none⟩ = some (.int .i64 (x : Int))) := ⟨s1, s2, s3⟩
                      refine wpAnyH_take (i := 21) (v := (.pointer (some ⟨B, q * 2, none⟩))) rfl (by kernel_rfl) (by kernel_rfl) (by kernel_rfl) (fun _ _ _ h => h) (Or.inl ⟨by rfl, fun w hw => by go_simp⟩) HS2.out ?_
                      simp only [Act.put, List.setIfInBounds_toArray]
                      refine wpAnyH_ready (rs := [22]) (by kernel_rfl) (by simp) ?_
                      refine AllReadyH.cons rfl (fun K hK => ?_) AllReadyH.nil
                      go_simp
                      refine hK.out _ _ ⟨(two_set HA.out.1 HA.out.2.1).trans s1, (two_set HA.out.2.2.1 HA.out.2.2.2.1).trans s2, (two_set HA.out.2.2.2.2.1 HA.out.2.2.2.2.2).trans s3⟩ (fun _ => ?_)
                      clear hK K
                      refine wpAnyH_done (by kernel_rfl) ?_ _
                      go_wp2
                      go_roundw
                      case rel => exact ⟨q + 1, by omega, by go_num, by rw [← HNW.out]; exact (HR2.out.to hbl).put q (nf, nv) _ _ (hfv.mono fun b _ hb => by omega) (hvv.mono fun b _ hb => by omega), ((HU2.out.to hbl).other (Ne.symm hBU) _).other (Ne.symm hBU) _, ((HX2.out.to hbl).other (Ne.symm hBX) _).other (Ne.symm hBX) _, ((HB2.out.to hbl).setCell _ _).setCell _ _⟩
                      case measure => simp [intOf]; omega
                    · go_simp
                      refine hK.out _ _ HS.out (fun _ => ?_)
                      clear hK K
                      refine wpAnyH_take (i := 12) (v := (.pointer (some ⟨gb, j, none⟩))) rfl (by kernel_rfl) (by kernel_rfl) (by kernel_rfl) (fun _ _ _ h => h) (Or.inl ⟨by rfl, fun w hw => by go_simp⟩) HS.out ?_
                      refine wpAnyH_take (i := 13) (v := (.int .i64 (x : Int))) rfl (by kernel_rfl) (by kernel_rfl) (by kernel_rfl) (fun _ _ _ h => h) (Or.inl ⟨by rfl, fun w hw => by obtain ⟨t1, t2, t3⟩ := hw; go_simp⟩) HS.out ?_
                      simp only [Act.put, List.setIfInBounds_toArray]
                      refine wpAnyH_ready (rs := [5, 15]) (by kernel_rfl) (by simp) ?_
                      refine AllReadyH.cons rfl (fun K hK => ?_) (AllReadyH.cons rfl (fun K hK => ?_) AllReadyH.nil)
                      · go_simp
                        refine hK.out _ _ HS.out (fun _ => ?_)
                        clear hK K
                        refine wpAnyH_ready (rs := [15]) (by kernel_rfl) (by simp) ?_
                        refine AllReadyH.cons rfl (fun K hK => ?_) AllReadyH.nil
                        go_simp
                        refine (times_any x bi hgb hbib _).mono ?_
                        rintro e w2 ⟨rfl, rfl⟩
                        dsimp only
                        refine hK.out _ _ HS.out (fun _ => ?_)
                        clear hK K
                        refine wpAnyH_ready (rs := [20]) (by kernel_rfl) (by simp) ?_
                        refine AllReadyH.cons rfl (fun K hK => ?_) AllReadyH.nil
                        go_simp
                        refine Calls.mono HLS.out ?_
                        rintro e w2 ⟨fv, vv, rfl, hfv, hvv, hbl⟩
                        obtain ⟨fa_, fc_, rfl⟩ := hfv.form
                        obtain ⟨va_, vc_, rfl⟩ := hvv.form
                        have s1 := (hbl.cell (p := ⟨B, r * 2, none⟩) hBw).trans d1
                        have s2 := (hbl.cell (p := ⟨B, r * 2 + 1, none⟩) hBw).trans d2
                        have s3 := (hbl.cell (p := ⟨gb, j, none⟩) hgw).trans c3
                        have s4 := (hbl.cell (p := ⟨B, q * 2, none⟩) hBw).trans c1
                        have s5 := (hbl.cell (p := ⟨B, q * 2 + 1, none⟩) hBw).trans c2
                        have s6 := (hbl.frozen (p := ⟨B, q * 2, none⟩) hBw).trans z1
                        have s7 := (hbl.frozen (p := ⟨B, q * 2 + 1, none⟩) hBw).trans z2
                        dsimp only
                        refine hK.out _ _ ⟨s1, s2, s3⟩ (fun _ => ?_)
                        clear hK K
                        have HS2 : Hid (w2.cell? ⟨B, r * 2, none⟩ = some (.slice (some ⟨kb, 0, none⟩) d kc) ∧ w2.cell? ⟨B, r * 2 + 1, none⟩ = some kv ∧ w2.cell? ⟨gb, j, none⟩ = some (.int .i64 (x : Int))) := ⟨s1, s2, s3⟩
                        refine wpAnyH_take (i := 21) (v := (.pointer (some ⟨B, q * 2, none⟩))) rfl (by kernel_rfl) (by kernel_rfl) (by kernel_rfl) (fun _ _ _ h => h) (Or.inl ⟨by rfl, fun w hw => by go_simp⟩) HS2.out ?_
                        simp only [Act.put, List.setIfInBounds_toArray]
                        refine wpAnyH_ready (rs := [22]) (by kernel_rfl) (by simp) ?_
                        refine AllReadyH.cons rfl (fun K hK => ?_) AllReadyH.nil
                        go_simp
                        refine hK.out _ _ ⟨(two_set HA.out.1 HA.out.2.1).trans s1, (two_set HA.out.2.2.1 HA.out.2.2.2.1).trans s2, (two_set HA.out.2.2.2.2.1 HA.out.2.2.2.2.2).trans s3⟩ (fun _ => ?_)
                        clear hK K
                        refine wpAnyH_done (by kernel_rfl) ?_ _
                        go_wp2
                        go_roundw
                        case rel => exact ⟨q + 1, by omega, by go_num, by rw [← HNW.out]; exact (HR2.out.to hbl).put q (nf, nv) _ _ (hfv.mono fun b _ hb => by omega) (hvv.mono fun b _ hb => by omega), ((HU2.out.to hbl).other (Ne.symm hBU) _).other (Ne.symm hBU) _, ((HX2.out.to hbl).other (Ne.symm hBX) _).other (Ne.symm hBX) _, ((HB2.out.to hbl).setCell _ _).setCell _ _⟩
                        case measure => simp [intOf]; omega
                      · go_simp
                        refine (times_any x bi hgb hbib _).mono ?_
                        rintro e w2 ⟨rfl, rfl⟩
                        dsimp only
                        refine hK.out _ _ HS.out (fun _ => ?_)
                        clear hK K
                        refine wpAnyH_ready (rs := [5]) (by kernel_rfl) (by simp) ?_
                        refine AllReadyH.cons rfl (fun K hK => ?_) AllReadyH.nil
                        go_simp
                        refine hK.out _ _ HS.out (fun _ => ?_)
                        clear hK K
                        refine wpAnyH_ready (rs := [20]) (by kernel_rfl) (by simp) ?_
                        refine AllReadyH.cons rfl (fun K hK => ?_) AllReadyH.nil
                        go_simp
                        refine Calls.mono HLS.out ?_
                        rintro e w2 ⟨fv, vv, rfl, hfv, hvv, hbl⟩
                        obtain ⟨fa_, fc_, rfl⟩ := hfv.form
                        obtain ⟨va_, vc_, rfl⟩ := hvv.form
                        have s1 := (hbl.cell (p := ⟨B, r * 2, none⟩) hBw).trans d1
                        have s2 := (hbl.cell (p := ⟨B, r * 2 + 1, none⟩) hBw).trans d2
                        have s3 := (hbl.cell (p := ⟨gb, j, none⟩) hgw).trans c3
                        have s4 := (hbl.cell (p := ⟨B, q * 2, none⟩) hBw).trans c1
                        have s5 := (hbl.cell (p := ⟨B, q * 2 + 1, none⟩) hBw).trans c2
                        have s6 := (hbl.frozen (p := ⟨B, q * 2, none⟩) hBw).trans z1
                        have s7 := (hbl.frozen (p := ⟨B, q * 2 + 1, none⟩) hBw).trans z2
                        dsimp only
                        refine hK.out _ _ ⟨s1, s2, s3⟩ (fun _ => ?_)
                        clear hK K
                        have HS2 : Hid (w2.cell? ⟨B, r * 2, none⟩ = some (.slice (some ⟨kb, 0, none⟩) d kc) ∧ w2.cell? ⟨B, r * 2 + 1, none⟩ = some kv ∧ w2.cell? ⟨gb, j, none⟩ = some (.int .i64 (x : Int))) := ⟨s1, s2, s3⟩
                        refine wpAnyH_take (i := 21) (v := (.pointer (some ⟨B, q * 2, none⟩))) rfl (by kernel_rfl) (by kernel_rfl) (by kernel_rfl) (fun _ _ _ h => h) (Or.inl ⟨by rfl, fun w hw => by go_simp⟩) HS2.out ?_
                        simp only [Act.put, List.setIfInBounds_toArray]
                        refine wpAnyH_ready (rs := [22]) (by kernel_rfl) (by simp) ?_
                        refine AllReadyH.cons rfl (fun K hK => ?_) AllReadyH.nil
                        go_simp
                        refine hK.out _ _ ⟨(two_set HA.out.1 HA.out.2.1).trans s1, (two_set HA.out.2.2.1 HA.out.2.2.2.1).trans s2, (two_set HA.out.2.2.2.2.1 HA.out.2.2.2.2.2).trans s3⟩ (fun _ => ?_)
                        clear hK K
                        refine wpAnyH_done (by kernel_rfl) ?_ _
                        go_wp2
                        go_roundw
                        case rel => exact ⟨q + 1, by omega, by go_num, by rw [← HNW.out]; exact (HR2.out.to hbl).put q (nf, nv) _ _ (hfv.mono fun b _ hb => by omega) (hvv.mono fun b _ hb => by omega), ((HU2.out.to hbl).other (Ne.symm hBU) _).other (Ne.symm hBU) _, ((HX2.out.to hbl).other (Ne.symm hBX) _).other (Ne.symm hBX) _, ((HB2.out.to hbl).setCell _ _).setCell _ _⟩
                        case measure => simp [intOf]; omega
              · obtain rfl : q = d := by omega
                have HNXT : Hid (Held w wr B U X q L (j + 1) R0 (tookTo R j r bi q) (Wl.set j r) (Ul.set r true)) := by
                  refine ⟨?_, hrows, hU, hX, hbut⟩
                  rw [HBI.out]
                  exact HH.out.far.next hlt hrd HUB.out.symm (by rw [← HY.out]; exact HYN.out)
                clear hrows hU hX hbut
                go_wp2
                go_roundw
                case rel => exact ⟨j + 1, _, _, _, by omega, by go_num, HNXT.out⟩
                case measure => simp [intOf]; omega
        · have hrp : r < ps := by
            have h1 := HPU.out.1
            have : r ≠ ps := fun e => by subst e; rw [← HUB.out] at h1; cases h1
            omega
          clear hpu hpf
          go_wp2
          go_round
          case rel => exact ⟨r + 1, by omega, by go_num⟩
          case measure => simp [intOf]; omega
    · obtain rfl : j = d := by omega
      obtain ⟨w5, rfl⟩ : ∃ w5, w5 = wr := ⟨_, rfl⟩
      have HH : Hid (Held w w5 B U X j L j R0 R Wl Ul) := hheld
      obtain ⟨f, hf⟩ : ∃ f : Nat → List Nat, f = fun k => (List.range L).map fun t => Gf.times (Vof R (Wl.getD k 0) t) (Gf.inv (Fof R (Wl.getD k 0) k)) := ⟨_, rfl⟩
      have HF : Hid (f = fun k => (List.range L).map fun t => Gf.times (Vof R (Wl.getD k 0) t) (Gf.inv (Fof R (Wl.getD k 0) k))) := hf
      have HFL : Hid (∀ k, (f k).length = L) := fun k => by rw [hf]; simp
      clear hf hheld hmk1 hmk2
      go_wp2
      go_loopw [11] (fun jv wq => ∃ k : Nat, k ≤ j ∧ jv = .int .i64 k ∧ DataF wq w5.heap.size j L k f ∧ Below w5.heap.size w5 wq) (fun jv _ => j - (intOf jv).toNat)
      case atStart => exact ⟨0, Nat.zero_le _, rfl, DataF.start w5 j L f, (Below.refl _ _).alloc (Nat.le_refl _) _⟩
      case round =>
        obtain ⟨k, hk, rfl, hdat, hbel⟩ := hrel
        obtain ⟨w6, rfl⟩ : ∃ w6, w6 = wr := ⟨_, rfl⟩
        by_cases hkd : k < j
        · have hwlt := HH.out.far.gauss.wlt k hkd
          have hwl := HH.out.far.wlen
          obtain ⟨fb, fc, fv, c1, c2, z1, z2, c3, hfX, hfB, hfl, hfb, n1, n2⟩ := row_facts HH.out.rows HH.out.far.neat hwlt k hkd
          have cx := ints_at HH.out.which (k := k) (by omega)
          have hone := HH.out.far.gauss.one k hkd
          obtain ⟨rw_, hrw⟩ : ∃ rw_, rw_ = Wl.getD k 0 := ⟨_, rfl⟩
          have hwlt' : rw_ < j := by rw [hrw]; exact hwlt
          simp only [← hrw] at c1 c2 c3 cx hone hfb n1 n2
          obtain ⟨y, hy⟩ : ∃ y, y = Fof R rw_ k := ⟨_, rfl⟩
          rw [← hy] at c3 hfb
          have hy0 : y ≠ 0 := by rw [hy]; exact hone
          have hBw : B < w5.heap.size := HH.out.rows.lt
          have hXw : X < w5.heap.size := HH.out.which.lt
          have hfw : fb < w5.heap.size := by obtain ⟨us, hb⟩ := hfl; exact hb.lt
          have hszi := hbel.size
          rw [← hbel.cell (p := ⟨B, rw_ * 2, none⟩) hBw] at c1
          rw [← hbel.cell (p := ⟨B, rw_ * 2 + 1, none⟩) hBw] at c2
          rw [← hbel.cell (p := ⟨fb, k, none⟩) hfw] at c3
          rw [← hbel.cell (p := ⟨X, k, none⟩) hXw] at cx
          obtain ⟨va, vc, rfl⟩ := n2.form
          have hlv : (R.getD rw_ ([], [])).2.length = L := by
            have hrl : rw_ < R.length := by rw [HH.out.far.neat.len]; exact hwlt'
            have e : R.getD rw_ ([], []) = R[rw_] := by simp [hrl]
            rw [e]; exact HH.out.far.neat.lv rw_ hrl
          rw [hlv] at c2 n2
          have HN2 : Hid (NsP (fun b => b ≠ X) w5 (.slice va L vc) (R.getD rw_ ([], [])).2) := n2
          have HD : Hid (DataF w6 w5.heap.size j L k f) := hdat
          have HFK : Hid (∀ t (h : t < (f k).length), (f k)[t] = Gf.times (Vof R rw_ t) (Gf.inv y)) := by
            intro t h
            simp only [HF.out, hy, hrw]; simp
          have HLV : Hid ((R.getD rw_ ([], [])).2.length = L) := hlv
          have HBV : Hid (∀ t, Vof R rw_ t < 256) := by
            intro t
            have hrl : rw_ < R.length := by rw [HH.out.far.neat.len]; exact hwlt'
            rw [Vof_eq hrl]; exact (HH.out.far.neat.bv rw_ hrl).getD t
          have i1 : (rw_ : Int) < (j : Int) := by omega
          have hfw6 : fb < w6.heap.size := by omega
          clear hrw hy hone n1 n2 hdat hfl hlv hwlt hmk3
          go_wp2_with (go_at_call 73; refine (over_any y hfb hy0 _).mono ?_; rintro e w2 ⟨rfl, rfl⟩)
          obtain ⟨bi, hbi⟩ : ∃ bi, bi = Gf.inv y := ⟨_, rfl⟩
          rw [← hbi]
          have hbib : bi < 256 := by rw [hbi]; exact Gf.inv_lt _ hfb
          rw [← hbi] at HFK
          clear hbi
          obtain ⟨wi, hwi⟩ : ∃ wi, wi = w6.alloc (.cells #[.slice (some ⟨fb, 0, none⟩) j fc, .slice va L vc] 130) := ⟨_, rfl⟩
          rw [← hwi]
          have hb6 : Below w6.heap.size w6 wi := by rw [hwi]; exact (Below.refl _ _).alloc (Nat.le_refl _) _
          have hRV : Blk wi w6.heap.size 130 [.slice (some ⟨fb, 0, none⟩) j fc, .slice va L vc] := by rw [hwi]; exact Blk.new w6 _ _
          have hdat := HD.out.to hb6
          obtain ⟨us, husl, husB⟩ := hdat.blk
          have hOi : w5.heap.size < wi.heap.size := husB.lt
          have hRi : w6.heap.size < wi.heap.size := hRV.lt
          have hRV1 := hRV.cell_some (k := 1) rfl
          have hbwi : Below w5.heap.size w5 wi := hbel.trans (hb6.mono hszi)
          have HBW : Hid (Below w5.heap.size w5 wi) := hbwi
          have HDI : Hid (DataF wi w5.heap.size j L k f) := hdat
          have HFI : Hid (Laid wi wi w5.heap.size k (.slice none 0 0)) := hdat.first hkd
          have HUB : Hid (Blk wi w5.heap.size 85 us) := husB
          have HRV1 : Hid (wi.cell? ⟨w6.heap.size, 1, none⟩ = some (.slice va L vc)) := hRV1
          have hOR : w5.heap.size ≠ w6.heap.size := husB.type_ne hRV (by decide)
          have hw5i : w5.heap.size ≤ wi.heap.size := by omega
          have hO5 : w5.heap.size ≤ w5.heap.size := Nat.le_refl _
          clear hwi hb6 hRV hdat husB hRV1 hbwi HD c1 c2 c3 cx hbel
          have HOB : Hid (w5.heap.size = w5.heap.size) := rfl
          go_loopw [14] (fun tv wq => ∃ (t : Nat) (v : Value), t ≤ L ∧ tv = .int .i64 t ∧ Laid wi wq w5.heap.size k v ∧ wq.ownsRow wi.heap.size 5 1 v t (firstV (f k) t) ∧ Below w5.heap.size w5 wq) (fun tv _ => L - (intOf tv).toNat)
          case atStart => exact ⟨0, _, Nat.zero_le _, rfl, HFI.out, World.ownsRow_nil _ _ _ _, HBW.out⟩
          case round =>
            obtain ⟨t, v, ht, rfl, hlaid, hown, hbq⟩ := hrel
            obtain ⟨va0, vc0, rfl⟩ := owns_slice hown
            have hszq := hlaid.size
            have hOr : w5.heap.size < wr.heap.size := by omega
            have hOn : w5.heap.size ≠ wr.heap.size := by omega
            have qv : wr.cell? ⟨w6.heap.size, 1, none⟩ = some (.slice va L vc) := (World.cell?_of_block (hlaid.rest w6.heap.size (Ne.symm hOR) hRi)).trans HRV1.out
            by_cases htlt : t < L
            · obtain ⟨hc1, hf1⟩ := Laid.cell' hlaid HUB.out husl hkd
              obtain ⟨vb, vc1, e1, hvl, hvc⟩ := HN2.out.pos (by rw [HLV.out]; omega)
              injection e1 with e11 e12 e13
              subst e11 e13
              clear e12
              have hxc := hvc t (by rw [HLV.out]; exact htlt)
              obtain ⟨x, hx⟩ : ∃ x, x = Vof R rw_ t := ⟨_, rfl⟩
              have hxe : (R.getD rw_ ([], [])).2[t]'(by rw [HLV.out]; exact htlt) = x := by
                rw [hx]; unfold Vof
                rw [List.getD_eq_getElem?_getD (l := (R.getD rw_ ([], [])).2), List.getElem?_eq_getElem (by rw [HLV.out]; exact htlt), Option.getD_some]
              rw [hxe, ← hbq.cell (p := ⟨vb, t, none⟩) hvl] at hxc
              have hxb : x < 256 := by rw [hx]; exact HBV.out t
              have hVi : vb < wi.heap.size := by have := HOB.out; omega
              have HNX : Hid (firstV (f k) t ++ [.int .u8 ((Gf.times x bi : Nat) : Int)] = firstV (f k) (t + 1)) := by
                show _ = _
                have hl : t < (f k).length := by rw [HFL.out k]; exact htlt
                rw [← firstV_next (f k) t hl, HFK.out t hl, hx]
              have hmb : Gf.times x bi < 256 := Gf.times_lt _ _ hxb
              have HS : Hid (wr.drew.cell? ⟨w6.heap.size, 1, none⟩ = some (.slice (some ⟨vb, 0, none⟩) L vc) ∧ wr.drew.cell? ⟨vb, t, none⟩ = some (.int .i64 (x : Int))) := ⟨qv, hxc⟩
              have HSA : Hid ((wr.drew.alloc (.cells #[.int .u8 ((Gf.times x bi : Nat) : Int)] 5)).cell? ⟨w6.heap.size, 1, none⟩ = some (.slice (some ⟨vb, 0, none⟩) L vc) ∧ (wr.drew.alloc (.cells #[.int .u8 ((Gf.times x bi : Nat) : Int)] 5)).cell? ⟨vb, t, none⟩ = some (.int .i64 (x : Int))) := by
                have hb := (Below.refl wr.heap.size wr).drew.alloc (Nat.le_refl _) (.cells #[.int .u8 ((Gf.times x bi : Nat) : Int)] 5)
                exact ⟨(hb.cell (p := ⟨w6.heap.size, 1, none⟩) (by show w6.heap.size < wr.heap.size; omega)).trans qv, (hb.cell (p := ⟨vb, t, none⟩) (by show vb < wr.heap.size; omega)).trans hxc⟩
              have HA : Hid ((⟨w5.heap.size, k, none⟩ : Addr) ≠ ⟨w6.heap.size, 1, none⟩ ∧ (⟨w5.heap.size, k, none⟩ : Addr) ≠ ⟨vb, t, none⟩) := by
                have := HOB.out
                refine ⟨?_, ?_⟩ <;> intro h <;> injection h <;> omega
              have hwx : IntKind.u8.wrap ((Gf.times x bi : Nat) : Int) = ((Gf.times x bi : Nat) : Int) := byte_conv _ hmb
              have hwx2 : ((Gf.times x bi : Nat) : Int) % 256 = ((Gf.times x bi : Nat) : Int) := by omega
              have i2 : (k : Int) < (j : Int) := by omega
              have i3 : (t : Int) < (L : Int) := by omega
              clear hvc hx hxe
              go_wp2_with fail
              refine wp_region_held (S := fun wx => wx.cell? ⟨w6.heap.size, 1, none⟩ = some (.slice (some ⟨vb, 0, none⟩) L vc) ∧ wx.cell? ⟨vb, t, none⟩ = some (.int .i64 (x : Int))) rfl ?_
              refine wpAnyH_take (i := 0) (v := (.slice (some ⟨w5.heap.size, 0, none⟩) j j)) rfl (by kernel_rfl) (by kernel_rfl) (by kernel_rfl) (fun _ _ _ h => h) (Or.inl ⟨by rfl, fun w hw => by go_simp⟩) HS.out ?_
              refine wpAnyH_take (i := 1) (v := (.int .i64 (k : Int))) rfl (by kernel_rfl) (by kernel_rfl) (by kernel_rfl) (fun _ _ _ h => h) (Or.inl ⟨by rfl, fun w hw => by go_simp⟩) HS.out ?_
              refine wpAnyH_take (i := 2) (v := (.slice (some ⟨w5.heap.size, 0, none⟩) j j)) rfl (by kernel_rfl) (by kernel_rfl) (by kernel_rfl) (fun _ _ _ h => h) (Or.inl ⟨by rfl, fun w hw => by go_simp⟩) HS.out ?_
              refine wpAnyH_take (i := 3) (v := (.int .i64 (k : Int))) rfl (by kernel_rfl) (by kernel_rfl) (by kernel_rfl) (fun _ _ _ h => h) (Or.inl ⟨by rfl, fun w hw => by go_simp⟩) HS.out ?_
              refine wpAnyH_take (i := 4) (v := (.pointer (some ⟨w5.heap.size, k, none⟩))) rfl (by kernel_rfl) (by kernel_rfl) (by kernel_rfl) (fun _ _ _ h => h) (Or.inl ⟨by rfl, fun w hw => by go_simp⟩) HS.out ?_
              simp only [Act.put]
              refine wpAnyH_take (i := 6) (v := (.pointer (some ⟨w6.heap.size, 1, none⟩))) rfl (by kernel_rfl) (by kernel_rfl) (by kernel_rfl) (fun _ _ _ h => h) (Or.inl ⟨by rfl, fun w hw => by go_simp⟩) HS.out ?_
              refine wpAnyH_take (i := 7) (v := (.slice (some ⟨vb, 0, none⟩) L vc)) rfl (by kernel_rfl) (by kernel_rfl) (by kernel_rfl) (fun _ _ _ h => h) (Or.inl ⟨by rfl, fun w hw => by obtain ⟨t1, t2⟩ := hw; go_simp⟩) HS.out ?_
              refine wpAnyH_take (i := 8) (v := (.int .i64 (t : Int))) rfl (by kernel_rfl) (by kernel_rfl) (by kernel_rfl) (fun _ _ _ h => h) (Or.inl ⟨by rfl, fun w hw => by go_simp⟩) HS.out ?_
              refine wpAnyH_take (i := 9) (v := (.pointer (some ⟨vb, t, none⟩))) rfl (by kernel_rfl) (by kernel_rfl) (by kernel_rfl) (fun _ _ _ h => h) (Or.inl ⟨by rfl, fun w hw => by go_simp⟩) HS.out ?_
              refine wpAnyH_take (i := 10) (v := (.int .i64 (x : Int))) rfl (by kernel_rfl) (by kernel_rfl) (by kernel_rfl) (fun _ _ _ h => h) (Or.inl ⟨by rfl, fun w hw => by obtain ⟨t1, t2⟩ := hw; go_simp⟩) HS.out ?_
              simp only [Act.put]
              refine wpAnyH_take (i := 11) (v := (.int .i64 (bi : Int))) rfl (by kernel_rfl) (by kernel_rfl) (by kernel_rfl) (fun _ _ _ h => h) (Or.inl ⟨by rfl, fun w hw => by go_simp⟩) HS.out ?_
              simp only [Act.put, List.setIfInBounds_toArray]
              refine wpAnyH_ready (rs := [5, 12]) (by kernel_rfl) (by simp) ?_
              refine AllReadyH.cons rfl (fun K hK => ?_) (AllReadyH.cons rfl (fun K hK => ?_) AllReadyH.nil)
              · go_simp
                refine hK.out _ _ HS.out (fun _ => ?_)
                clear hK K
                refine wpAnyH_ready (rs := [12]) (by kernel_rfl) (by simp) ?_
                refine AllReadyH.cons rfl (fun K hK => ?_) AllReadyH.nil
                go_simp
                refine (times_any x bi hxb hbib _).mono ?_
                rintro e w2 ⟨rfl, rfl⟩
                dsimp only
                refine hK.out _ _ HS.out (fun _ => ?_)
                clear hK K
                refine wpAnyH_take (i := 13) (v := (.int .u8 (Gf.times x bi : Nat))) rfl (by kernel_rfl) (by kernel_rfl) (by kernel_rfl) (fun _ _ _ h => h) (Or.inl ⟨by rfl, fun w hw => by go_simp⟩) HS.out ?_
                simp only [Act.put, List.setIfInBounds_toArray]
                refine wpAnyH_ready (rs := [14]) (by kernel_rfl) (by simp) ?_
                refine AllReadyH.cons rfl (fun K hK => ?_) AllReadyH.nil
                go_simp
                refine hK.out _ _ (by exact HSA.out) (fun _ => ?_)
                clear hK K
                refine wpAnyH_ready (rs := [15]) (by kernel_rfl) (by simp) ?_
                refine AllReadyH.cons rfl (fun K hK => ?_) AllReadyH.nil
                refine step_append_one rfl _ _ 85 rfl wi.heap.size 5 (.int .u8 0) 1 Tryz.underlying85 infoByte rfl (by decide) (.slice va0 t vc0) t _ rfl (by exact (hown.alloc _).drew) ⟨wr.heap.size, 0, none⟩ 1 (.int .u8 (Gf.times x bi : Nat)) rfl (by exact (Blk.new wr _ _).cell_some rfl) rfl (by omega) (by simp; omega) ?_
                rw [HNX.out]
                intro v' w2 hown' hbel'
                obtain ⟨va', vc', rfl⟩ := owns_slice hown'
                have hb2 := hbel' wi.heap.size wr ((Below.refl _ _).alloc hszq _).drew (Nat.le_refl _)
                have u2 := (hb2.cell (p := ⟨w5.heap.size, k, none⟩) (by exact hOi)).trans hc1
                have f2 := (hb2.frozen (p := ⟨w5.heap.size, k, none⟩) (by exact hOi)).trans hf1
                have HS2 : Hid (w2.cell? ⟨w6.heap.size, 1, none⟩ = some (.slice (some ⟨vb, 0, none⟩) L vc) ∧ w2.cell? ⟨vb, t, none⟩ = some (.int .i64 (x : Int))) := ⟨(hb2.cell (p := ⟨w6.heap.size, 1, none⟩) (by exact hRi)).trans HS.out.1, (hb2.cell (p := ⟨vb, t, none⟩) (by exact hVi)).trans HS.out.2⟩
                refine hK.out _ _ HS2.out (fun _ => ?_)
                clear hK K
                refine wpAnyH_take (i := 16) (v := (.pointer (some ⟨w5.heap.size, k, none⟩))) rfl (by kernel_rfl) (by kernel_rfl) (by kernel_rfl) (fun _ _ _ h => h) (Or.inl ⟨by rfl, fun w hw => by go_simp⟩) HS2.out ?_
                simp only [Act.put, List.setIfInBounds_toArray]
                refine wpAnyH_ready (rs := [17]) (by kernel_rfl) (by simp) ?_
                refine AllReadyH.cons rfl (fun K hK => ?_) AllReadyH.nil
                go_simp
                refine hK.out _ _ ⟨(World.cell?_setCell_other _ _ _ _ HA.out.1).trans HS2.out.1, (World.cell?_setCell_other _ _ _ _ HA.out.2).trans HS2.out.2⟩ (fun _ => ?_)
                clear hK K
                refine wpAnyH_done (by kernel_rfl) ?_ _
                go_wp2
                go_roundw
                case rel => exact ⟨t + 1, _, by omega, by go_num, hlaid.again hb2 HUB.out, ownsRow_setCell_below hown' (by exact hOi) _, (hbq.trans (hb2.mono hw5i)).setCell (by exact hO5) _⟩
                case measure => simp [intOf]; omega
              · go_simp
                refine (times_any x bi hxb hbib _).mono ?_
                rintro e w2 ⟨rfl, rfl⟩
                dsimp only
                refine hK.out _ _ HS.out (fun _ => ?_)
                clear hK K
                refine wpAnyH_take (i := 13) (v := (.int .u8 (Gf.times x bi : Nat))) rfl (by kernel_rfl) (by kernel_rfl) (by kernel_rfl) (fun _ _ _ h => h) (Or.inl ⟨by rfl, fun w hw => by go_simp⟩) HS.out ?_
                simp only [Act.put, List.setIfInBounds_toArray]
                refine wpAnyH_ready (rs := [5, 14]) (by kernel_rfl) (by simp) ?_
                refine AllReadyH.cons rfl (fun K hK => ?_) (AllReadyH.cons rfl (fun K hK => ?_) AllReadyH.nil)
                · go_simp
                  refine hK.out _ _ HS.out (fun _ => ?_)
                  clear hK K
                  refine wpAnyH_ready (rs := [14]) (by kernel_rfl) (by simp) ?_
                  refine AllReadyH.cons rfl (fun K hK => ?_) AllReadyH.nil
                  go_simp
                  refine hK.out _ _ (by exact HSA.out) (fun _ => ?_)
                  clear hK K
                  refine wpAnyH_ready (rs := [15]) (by kernel_rfl) (by simp) ?_
                  refine AllReadyH.cons rfl (fun K hK => ?_) AllReadyH.nil
                  refine step_append_one rfl _ _ 85 rfl wi.heap.size 5 (.int .u8 0) 1 Tryz.underlying85 infoByte rfl (by decide) (.slice va0 t vc0) t _ rfl (by exact (hown.alloc _).drew) ⟨wr.heap.size, 0, none⟩ 1 (.int .u8 (Gf.times x bi : Nat)) rfl (by exact (Blk.new wr _ _).cell_some rfl) rfl (by omega) (by simp; omega) ?_
                  rw [HNX.out]
                  intro v' w2 hown' hbel'
                  obtain ⟨va', vc', rfl⟩ := owns_slice hown'
                  have hb2 := hbel' wi.heap.size wr ((Below.refl _ _).alloc hszq _).drew (Nat.le_refl _)
                  have u2 := (hb2.cell (p := ⟨w5.heap.size, k, none⟩) (by exact hOi)).trans hc1
                  have f2 := (hb2.frozen (p := ⟨w5.heap.size, k, none⟩) (by exact hOi)).trans hf1
                  have HS2 : Hid (w2.cell? ⟨w6.heap.size, 1, none⟩ = some (.slice (some ⟨vb, 0, none⟩) L vc) ∧ w2.cell? ⟨vb, t, none⟩ = some (.int .i64 (x : Int))) := ⟨(hb2.cell (p := ⟨w6.heap.size, 1, none⟩) (by exact hRi)).trans HS.out.1, (hb2.cell (p := ⟨vb, t, none⟩) (by exact hVi)).trans HS.out.2⟩
                  refine hK.out _ _ HS2.out (fun _ => ?_)
                  clear hK K
                  refine wpAnyH_take (i := 16) (v := (.pointer (some ⟨w5.heap.size, k, none⟩))) rfl (by kernel_rfl) (by kernel_rfl) (by kernel_rfl) (fun _ _ _ h => h) (Or.inl ⟨by rfl, fun w hw => by go_simp⟩) HS2.out ?_
                  simp only [Act.put, List.setIfInBounds_toArray]
                  refine wpAnyH_ready (rs := [17]) (by kernel_rfl) (by simp) ?_
                  refine AllReadyH.cons rfl (fun K hK => ?_) AllReadyH.nil
                  go_simp
                  refine hK.out _ _ ⟨(World.cell?_setCell_other _ _ _ _ HA.out.1).trans HS2.out.1, (World.cell?_setCell_other _ _ _ _ HA.out.2).trans HS2.out.2⟩ (fun _ => ?_)
                  clear hK K
                  refine wpAnyH_done (by kernel_rfl) ?_ _
                  go_wp2
                  go_roundw
                  case rel => exact ⟨t + 1, _, by omega, by go_num, hlaid.again hb2 HUB.out, ownsRow_setCell_below hown' (by exact hOi) _, (hbq.trans (hb2.mono hw5i)).setCell (by exact hO5) _⟩
                  case measure => simp [intOf]; omega
                · go_simp
                  refine hK.out _ _ (by exact HSA.out) (fun _ => ?_)
                  clear hK K
                  refine wpAnyH_ready (rs := [5]) (by kernel_rfl) (by simp) ?_
                  refine AllReadyH.cons rfl (fun K hK => ?_) AllReadyH.nil
                  go_simp
                  refine hK.out _ _ (by exact HSA.out) (fun _ => ?_)
                  clear hK K
                  refine wpAnyH_ready (rs := [15]) (by kernel_rfl) (by simp) ?_
                  refine AllReadyH.cons rfl (fun K hK => ?_) AllReadyH.nil
                  refine step_append_one rfl _ _ 85 rfl wi.heap.size 5 (.int .u8 0) 1 Tryz.underlying85 infoByte rfl (by decide) (.slice va0 t vc0) t _ rfl (by exact (hown.alloc _).drew) ⟨wr.heap.size, 0, none⟩ 1 (.int .u8 (Gf.times x bi : Nat)) rfl (by exact (Blk.new wr _ _).cell_some rfl) rfl (by omega) (by simp; omega) ?_
                  rw [HNX.out]
                  intro v' w2 hown' hbel'
                  obtain ⟨va', vc', rfl⟩ := owns_slice hown'
                  have hb2 := hbel' wi.heap.size wr ((Below.refl _ _).alloc hszq _).drew (Nat.le_refl _)
                  have u2 := (hb2.cell (p := ⟨w5.heap.size, k, none⟩) (by exact hOi)).trans hc1
                  have f2 := (hb2.frozen (p := ⟨w5.heap.size, k, none⟩) (by exact hOi)).trans hf1
                  have HS2 : Hid (w2.cell? ⟨w6.heap.size, 1, none⟩ = some (.slice (some ⟨vb, 0, none⟩) L vc) ∧ w2.cell? ⟨vb, t, none⟩ = some (.int .i64 (x : Int))) := ⟨(hb2.cell (p := ⟨w6.heap.size, 1, none⟩) (by exact hRi)).trans HS.out.1, (hb2.cell (p := ⟨vb, t, none⟩) (by exact hVi)).trans HS.out.2⟩
                  refine hK.out _ _ HS2.out (fun _ => ?_)
                  clear hK K
                  refine wpAnyH_take (i := 16) (v := (.pointer (some ⟨w5.heap.size, k, none⟩))) rfl (by kernel_rfl) (by kernel_rfl) (by kernel_rfl) (fun _ _ _ h => h) (Or.inl ⟨by rfl, fun w hw => by go_simp⟩) HS2.out ?_
                  simp only [Act.put, List.setIfInBounds_toArray]
                  refine wpAnyH_ready (rs := [17]) (by kernel_rfl) (by simp) ?_
                  refine AllReadyH.cons rfl (fun K hK => ?_) AllReadyH.nil
                  go_simp
                  refine hK.out _ _ ⟨(World.cell?_setCell_other _ _ _ _ HA.out.1).trans HS2.out.1, (World.cell?_setCell_other _ _ _ _ HA.out.2).trans HS2.out.2⟩ (fun _ => ?_)
                  clear hK K
                  refine wpAnyH_done (by kernel_rfl) ?_ _
                  go_wp2
                  go_roundw
                  case rel => exact ⟨t + 1, _, by omega, by go_num, hlaid.again hb2 HUB.out, ownsRow_setCell_below hown' (by exact hOi) _, (hbq.trans (hb2.mono hw5i)).setCell (by exact hO5) _⟩
                  case measure => simp [intOf]; omega
            · obtain rfl : t = L := by omega
              have ho0 : wr.ownsRow 0 5 1 (.slice va0 t vc0) t (bytesV (f k)) := by
                have := owns_zero hown
                rw [← HFL.out k, firstV_all, HFL.out k] at this
                exact this
              have HRR : Hid (DataF wr w5.heap.size j t (k + 1) f) := HDI.out.laid hkd hlaid ho0
              have HBQ : Hid (Below w5.heap.size w5 wr) := hbq
              clear hlaid hown ho0 hbq
              go_wp2
              go_roundw
              case rel => exact ⟨k + 1, by omega, by go_num, HRR.out, HBQ.out⟩
              case measure => simp [intOf]; omega
        · obtain rfl : k = j := by omega
          have HRA : Hid (RowsAt w6 (.slice (some ⟨w5.heap.size, 0, none⟩) k k) ((List.range k).map f)) := hdat.rows fun i _ => HFL.out i
          have HBE : Hid (Below w5.heap.size w5 w6) := hbel
          clear hdat hbel
          go_wp2
          go_ret
          refine ⟨_, (List.range k).map f, rfl, HRA.out, by simp, fun i h => by simp [HFL.out], fun i h => ?_, fun q hq t ht => ?_, HH.out.but.to HBE.out⟩
          · intro x hx
            simp only [List.getElem_map, List.getElem_range, HF.out, List.mem_map, List.mem_range] at hx
            obtain ⟨t, ht, rfl⟩ := hx
            have hi : i < k := by simpa using h
            have hlt := HH.out.far.gauss.wlt i hi
            have hrl : Wl.getD i 0 < R.length := by rw [HH.out.far.neat.len]; exact hlt
            refine Gf.times_lt _ _ ?_
            rw [Vof_eq hrl]; exact (HH.out.far.neat.bv _ hrl).getD t
          · have := solved_fits HH.out.far q hq t ht
            rw [HF.out]; exact this
end Go.Proofs.YtokmllopbfmadaaGreatDoor.Ref
