import Derived.Test.YtokmllopbfmadabDoorGSpoilMath
import Derived.Test.YtokmllopbfmadabDoorGKSpread
import Derived.Test.YtokmllopbfmadabDoorGKGone
import Derived.Test.YtokmllopbfmadabDoorGPChange
/- spoilt: frames of a pack are spoilt. -/
namespace Go.Proofs.YtokmllopbfmadabDoor.KeepW
open Go.RowKit Mem FieldWalks Tab ByTab Parts Ref Top
open Gf (Bytes)
open Plans (wpList_append_row made_cells owns_form infoInt grown_keeps intsV)

/-- The slice v reads as these spoils: six numbers each. -/
def SpAt (w : World) (v : Value) (ls : List (List Int)) : Prop :=
  ∃ ao cap, v = .slice ao ls.length cap ∧ (ls = [] ∨ ∃ b off, ao = some ⟨b, off, none⟩ ∧ b < w.heap.size ∧ ∀ k, (h : k < ls.length) → ∀ r, r < 6 → w.cell? ⟨b, off + k * 6 + r, none⟩ = some (.int .i64 (ls[k].getD r 0)))
theorem frame_div (d s L : Nat) (h : 1 ≤ d) : (((10 + (d + s) * (L + 5) : Nat) : Int) - 10).tdiv ((d : Int) + s) = ((L + 5 : Nat) : Int) := by
  have e : (((10 + (d + s) * (L + 5) : Nat) : Int) - 10) = ((d : Int) + s) * ((L + 5 : Nat) : Int) := by push_cast; omega
  rw [e, Int.mul_tdiv_cancel_left _ (by omega)]
theorem row8_grown {w w' : World} {base n B : Nat} {v : Value} {xs : List Value} {l : List Nat} (h : w.ownsRow base 3 1 v n xs) (hg : w.grownBy w' v.ownBlock) (hr : Row8 w B l) : Row8 w' B l := by
  refine hr.of_block (hg.block B hr.lt fun e1 => ?_)
  rcases h.2 with ⟨rfl, _⟩ | ⟨g', cap, cur', rfl, _, hh, _⟩
  · simp [Value.ownBlock] at e1
  · simp [Value.ownBlock] at e1
    subst e1
    obtain ⟨cs, fr, h8, _⟩ := hr
    rw [h8] at hh
    simp at hh
theorem owns_set8 {w : World} {base n B : Nat} {v : Value} {xs : List Value} {l : List Nat} (h : w.ownsRow base 3 1 v n xs) (hr : Row8 w B l) (k : Nat) (u : Value) : (w.setCell ⟨B, k, none⟩ u).ownsRow base 3 1 v n xs := by
  obtain ⟨a1, a2⟩ := h
  refine ⟨a1, ?_⟩
  rcases a2 with a2 | ⟨g, cp, cur, hv, hgb, hh, rr⟩
  · exact Or.inl a2
  · have hb : Blk w g 3 cur.toList := by unfold Blk; rw [hh]
    have := hb.other (a := ⟨B, k, none⟩) (fun e => hr.type_ne hb (by decide) e.symm) u
    unfold Blk at this
    exact Or.inr ⟨g, cp, cur, hv, hgb, this, rr⟩
set_option maxRecDepth 100000 in
set_option maxHeartbeats 8000000 in
theorem kspoilt_any (d s n L lb b base : Nat) (T q : ByteArray) (ps : List ByteArray) (fs : List (List Nat)) (ls : List (List Int)) (lv : Value) (w : World) (hspr : Spr w base b d s T lb) (hq : Spoilt q d s n L ps [] fs) (hls : SpAt w lv ls) (hll : ls.length < 2 ^ 62) (hlb : ∀ l, l ∈ ls → ∀ r, -9223372036854775808 ≤ l.getD r 0 ∧ l.getD r 0 ≤ 9223372036854775807) :
    Calls Tryd.prog 8 #[.pointer (some ⟨b, 0, none⟩), .string q, lv] w fun e w' => ∃ q' bad fs' v, e = .returned (.tuple #[.string q', v]) ∧ Spoilt q' d s n L ps bad fs' ∧ bad.Nodup ∧ bad.length ≤ s ∧ w'.ownsRow w.heap.size 3 1 v bad.length (intsV bad) ∧ Below w.heap.size w w' := by
  obtain ⟨ao, cap, rfl, hc⟩ := hls
  have HC : Hid (ls = [] ∨ ∃ b off, ao = some ⟨b, off, none⟩ ∧ b < w.heap.size ∧ ∀ k, (h : k < ls.length) → ∀ r, r < 6 → w.cell? ⟨b, off + k * 6 + r, none⟩ = some (.int .i64 (ls[k].getD r 0))) := hc
  have HLB : Hid (∀ l, l ∈ ls → ∀ r, -9223372036854775808 ≤ l.getD r 0 ∧ l.getD r 0 ≤ 9223372036854775807) := hlb
  have HQ : Hid (Spoilt q d s n L ps [] fs) := hq
  have hd1 := hq.is.d1
  have hd2 := hq.is.d2
  have hs2 := hq.is.s2
  have hL4 : L ≤ 400 := by have := hq.is.eL; have := ceil_le n d hd1; have := hq.is.n2; omega
  have hqs := hq.is.size
  have hfd := frame_div d s L hd1
  have hqm : (d + s) * (L + 5) ≤ 16 * 405 := Nat.mul_le_mul (by omega) (by omega)
  obtain ⟨Z, hZ⟩ : ∃ Z, Z = 10 + (d + s) * (L + 5) := ⟨_, rfl⟩
  rw [← hZ] at hqs hfd
  have hZ2 : Z ≤ 7000 := by omega
  have HZ : Hid (Z = 10 + (d + s) * (L + 5)) := hZ
  obtain ⟨F, hF⟩ : ∃ F, F = L + 5 := ⟨_, rfl⟩
  rw [← hF] at hfd
  have HF : Hid (F = L + 5) := hF
  have hF4 : F ≤ 405 := by omega
  have hF5 : 5 ≤ F := by omega
  have o0 := hspr.obj.cell_some (k := 0) rfl
  have o1 := hspr.obj.cell_some (k := 1) rfl
  have hbl := hspr.obj.lt
  have HOB : Hid (Blk w b 30 [.int .i64 (d : Nat), .int .i64 (s : Nat), .string T, .slice (some ⟨lb, 0, none⟩) (d + s) (d + s)]) := hspr.obj
  have o0' : w.drew.cell? ⟨b, 0, none⟩ = some (.int .i64 (d : Int)) := o0
  have o1' : w.drew.cell? ⟨b, 1, none⟩ = some (.int .i64 (s : Int)) := o1
  clear hc hlb hq hZ hqm hspr hF
  go_enter Tryd.func8, Tryd.ntmps8
  go_wp2_with fail
  go_quiet (fail)
  have hconv := Lib.run_convert_string_bytes (P := Tryd.prog) (w.drewN nq) 9 56 5 q Tryd.underlying9 Tryd.underlying56 Tryd.underlying5
  rw [hqs] at hconv
  have HB0 : Hid (Below w.heap.size w (Lib.bytesWorld (w.drewN nq) 5 q)) := (below_drewN (Below.refl _ _) nq).trans ((below_bytes _ q).mono (Nat.le_refl _))
  have HR0 : Hid (Row8 (Lib.bytesWorld (w.drewN nq) 5 q) w.heap.size (nums q)) := Row8.new (w.drewN nq) q
  generalize grownCap (w.drewN nq) Z 0 5 = gc at hconv
  generalize Lib.bytesWorld (w.drewN nq) 5 q = wb at HB0 HR0 hconv
  have HCV : Hid ((convert 9 56 (.string q)).run Tryd.prog (w.drewN nq) = .ok (.slice (some ⟨w.heap.size, 0, none⟩) Z gc) wb) := hconv
  clear hconv
  go_wp2_with (refine wpList_convert_w _ rfl 9 56 _ rfl (.string q) _ wb rfl HCV.out ?_)
  go_loopw [10, 11] (fun t iv wr => ∃ (i : Nat) (bad l : List Nat) (fs' : List (List Nat)), i ≤ ls.length ∧ iv = .int .i64 i ∧ Bytes l ∧ Row8 wr w.heap.size l ∧ Spoilt (mkS l) d s n L ps bad fs' ∧ bad.Nodup ∧ bad.length ≤ s ∧ wr.ownsRow w.heap.size 3 1 t bad.length (intsV bad) ∧ Below w.heap.size w wr) (fun _ iv _ => ls.length - (intOf iv).toNat)
  case atStart => exact ⟨0, [], nums q, fs, Nat.zero_le _, rfl, nums_bytes q, HR0.out, by rw [mkS_nums]; exact HQ.out, List.nodup_nil, Nat.zero_le _, World.ownsRow_nil _ _ _ _, HB0.out⟩
  case round =>
    obtain ⟨i, bad, l, fs', hi, rfl, hby, hrow, hsp, hnd, hbs, hown, hbel⟩ := hrel
    have k0 := (hbel.cell (p := ⟨b, 0, none⟩) hbl).trans o0
    have k1 := (hbel.cell (p := ⟨b, 1, none⟩) hbl).trans o1
    have hsz := hbel.size
    obtain ⟨ta, tc, rfl⟩ := owns_form hown
    have HOW : Hid (wr.ownsRow w.heap.size 3 1 (.slice ta bad.length tc) bad.length (intsV bad)) := hown
    have HROW : Hid (Row8 wr w.heap.size l) := hrow
    have HSP : Hid (Spoilt (mkS l) d s n L ps bad fs') := hsp
    have HBY : Hid (Bytes l) := hby
    have HND : Hid (bad.Nodup) := hnd
    have HBEL : Hid (Below w.heap.size w wr) := hbel
    have hll2 : l.length = Z := by rw [← mkS_size, hsp.is.size, HZ.out]
    clear hown hrow hsp hby hnd
    by_cases hgo : i < ls.length ∧ bad.length < s
    · obtain ⟨hil, hbl2⟩ := hgo
      have e1 : decide ((i : Int) < (ls.length : Int)) = true := decide_eq_true (by omega)
      have e2 : decide ((bad.length : Int) < (s : Int)) = true := decide_eq_true (by omega)
      obtain ⟨sb, off, rfl, hsb, hc⟩ : ∃ b off, ao = some ⟨b, off, none⟩ ∧ b < w.heap.size ∧ ∀ k, (h : k < ls.length) → ∀ r, r < 6 → w.cell? ⟨b, off + k * 6 + r, none⟩ = some (.int .i64 (ls[k].getD r 0)) := by
        rcases HC.out with h | h
        · rw [h] at hil; simp at hil
        · exact h
      have c0 : wr.cell? ⟨sb, off + i * 6, none⟩ = some (.int .i64 (ls[i].getD 0 0)) := (hbel.cell (p := ⟨sb, off + i * 6 + 0, none⟩) hsb).trans (hc i hil 0 (by omega))
      have hki : (i : Int) < (ls.length : Int) := by omega
      have c1 := (hbel.cell (p := ⟨sb, off + i * 6 + 1, none⟩) hsb).trans (hc i hil 1 (by omega))
      have c2 := (hbel.cell (p := ⟨sb, off + i * 6 + 2, none⟩) hsb).trans (hc i hil 2 (by omega))
      have c3 := (hbel.cell (p := ⟨sb, off + i * 6 + 3, none⟩) hsb).trans (hc i hil 3 (by omega))
      have c4 := (hbel.cell (p := ⟨sb, off + i * 6 + 4, none⟩) hsb).trans (hc i hil 4 (by omega))
      have c5 := (hbel.cell (p := ⟨sb, off + i * 6 + 5, none⟩) hsb).trans (hc i hil 5 (by omega))
      have hbd := HLB.out ls[i] (List.getElem_mem _)
      generalize ls[i] = sp at c0 c1 c2 c3 c4 c5 hbd
      obtain ⟨x0, hx0⟩ : ∃ x, x = sp.getD 0 0 := ⟨_, rfl⟩
      obtain ⟨x1, hx1⟩ : ∃ x, x = sp.getD 1 0 := ⟨_, rfl⟩
      obtain ⟨x2, hx2⟩ : ∃ x, x = sp.getD 2 0 := ⟨_, rfl⟩
      obtain ⟨x3, hx3⟩ : ∃ x, x = sp.getD 3 0 := ⟨_, rfl⟩
      obtain ⟨x4, hx4⟩ : ∃ x, x = sp.getD 4 0 := ⟨_, rfl⟩
      obtain ⟨x5, hx5⟩ : ∃ x, x = sp.getD 5 0 := ⟨_, rfl⟩
      rw [← hx0] at c0
      rw [← hx1] at c1
      rw [← hx2] at c2
      rw [← hx3] at c3
      rw [← hx4] at c4
      rw [← hx5] at c5
      have HX0 : Hid (-9223372036854775808 ≤ x0 ∧ x0 ≤ 9223372036854775807) := by rw [hx0]; exact hbd 0
      have HX1 : Hid (-9223372036854775808 ≤ x1 ∧ x1 ≤ 9223372036854775807) := by rw [hx1]; exact hbd 1
      have HX2 : Hid (-9223372036854775808 ≤ x2 ∧ x2 ≤ 9223372036854775807) := by rw [hx2]; exact hbd 2
      have HX3 : Hid (-9223372036854775808 ≤ x3 ∧ x3 ≤ 9223372036854775807) := by rw [hx3]; exact hbd 3
      have HX4 : Hid (-9223372036854775808 ≤ x4 ∧ x4 ≤ 9223372036854775807) := by rw [hx4]; exact hbd 4
      have HX5 : Hid (-9223372036854775808 ≤ x5 ∧ x5 ≤ 9223372036854775807) := by rw [hx5]; exact hbd 5
      clear hx0 hx1 hx2 hx3 hx4 hx5 hbd hc
      obtain ⟨p, hp⟩ : ∃ p, p = pickI x0 (d + s) := ⟨_, rfl⟩
      have hpl : p < d + s := by rw [hp]; exact pickI_lt _ _ (by omega)
      have HP0 : Hid (∀ W, Calls Tryd.prog 7 #[.int .i64 x0, .int .i64 ((d : Int) + s)] W fun e w' => e = .returned (.int .i64 (p : Nat)) ∧ w' = W) := by
        intro W
        rw [hp]; exact kpick_any x0 (d + s) W (by omega) (by omega) HX0.out.1 HX0.out.2
      clear hp
      go_wp2_with fail
      go_quiet ((go_at_call 7; exact Calls.quiet_of_same (HP0.out _)))
      go_wp2
      go_loop [13, 14] (fun o kv => ∃ k : Nat, k ≤ bad.length ∧ kv = .int .i64 k ∧ o = .bool (decide (p ∈ bad.take k))) (fun _ kv => bad.length - (intOf kv).toNat)
      case atStart => exact ⟨0, Nat.zero_le _, rfl, by simp⟩
      case round =>
        obtain ⟨k, hk, rfl, rfl⟩ := hrel
        by_cases hkl : k < bad.length
        · obtain ⟨g, hta, hcell⟩ : ∃ g, ta = some ⟨g, 0, none⟩ ∧ wr.cell? ⟨g, k, none⟩ = some (.int .i64 (bad[k] : Nat)) := by
            rcases HOW.out.2 with ⟨h0, h1⟩ | ⟨g, cap, cur, h0, _, hh, _, _, _, ht⟩
            · omega
            · injection h0 with h0 _ _
              refine ⟨g, h0, ?_⟩
              rw [cell_of_row wr g k cur 3 (0, 0) hh]
              rw [Nat.mul_one] at ht
              have : (cur.toList.take bad.length)[k]? = some (.int .i64 (bad[k] : Nat)) := by rw [ht]; simp [intsV, hkl]
              rw [List.getElem?_take_of_lt hkl] at this
              simpa using this
          subst hta
          obtain ⟨y, hy⟩ : ∃ y, y = bad[k] := ⟨_, rfl⟩
          rw [← hy] at hcell
          have hcell' : (wr.drewN nq).cell? ⟨g, k, none⟩ = some (.int .i64 (y : Int)) := hcell
          have HY : Hid (bad.take (k + 1) = bad.take k ++ [y]) := by show _ = _; rw [hy, List.take_add_one, List.getElem?_eq_getElem hkl]; rfl
          obtain ⟨o, ho⟩ : ∃ o, o = decide (p ∈ bad.take k) := ⟨_, rfl⟩
          have HO : Hid (o = decide (p ∈ bad.take k)) := ho
          rw [← ho]
          clear hy ho
          cases o
          · have HO2 : Hid (decide (p ∈ bad.take (k + 1)) = ((y : Int) == (p : Int))) := by
              show _ = _
              have h0 : p ∉ bad.take k := by have := HO.out; simpa using this
              rw [HY.out]
              by_cases e : y = p
              · simp [e]
              · have e' : ¬ p = y := fun h => e h.symm
                have e2 : ((y : Int) == (p : Int)) = false := by simp; omega
                rw [e2]; simp [h0, e']
            go_wp2
            go_round
            case rel => exact ⟨k + 1, by omega, by go_num, by rw [HO2.out]⟩
            case measure => simp [intOf]; omega
          · have HO2 : Hid (decide (p ∈ bad.take (k + 1)) = true) := by
              show _ = _
              have h0 : p ∈ bad.take k := by have := HO.out; simpa using this.symm
              rw [HY.out]; simp [h0]
            go_wp2
            go_round
            case rel => exact ⟨k + 1, by omega, by go_num, by rw [HO2.out]⟩
            case measure => simp [intOf]; omega
        · obtain rfl : k = bad.length := by omega
          rw [List.take_length]
          by_cases hmem : p ∈ bad
          · have ed : decide (p ∈ bad) = true := decide_eq_true hmem
            rw [ed]
            clear hmem ed
            have bq : Below wr.heap.size wr (wr.drewN nq) := below_drewN (Below.refl _ _) nq
            have HREL : Hid (Row8 (wr.drewN nq) w.heap.size l ∧ (wr.drewN nq).ownsRow w.heap.size 3 1 (.slice ta bad.length tc) bad.length (intsV bad) ∧ Below w.heap.size w (wr.drewN nq)) := ⟨HROW.out.to bq, ownsRow_to HOW.out bq, HBEL.out.trans (bq.mono hsz)⟩
            clear bq
            go_wp2
            go_roundw
            case rel => exact ⟨i + 1, bad, l, fs', by omega, by go_num, HBY.out, HREL.out.1, HSP.out, HND.out, hbs, HREL.out.2.1, HREL.out.2.2⟩
            case measure => simp [intOf]; omega
          · have ed : decide (p ∈ bad) = false := decide_eq_false hmem
            have HMEM : Hid (p ∉ bad) := hmem
            rw [ed]
            clear hmem ed
            obtain ⟨fr, hfr⟩ : ∃ fr, fr = pickI x1 F := ⟨_, rfl⟩
            have hfl : fr < F := by rw [hfr]; exact pickI_lt _ _ (by omega)
            have HP1 : Hid (∀ W, Calls Tryd.prog 7 #[.int .i64 x1, .int .i64 (F : Int)] W fun e w' => e = .returned (.int .i64 (fr : Nat)) ∧ w' = W) := by
              intro W
              rw [hfr]; exact kpick_any x1 F W (by omega) (by omega) HX1.out.1 HX1.out.2
            clear hfr
            have d1 : (wr.drewN nq).cell? ⟨sb, off + i * 6 + 1, none⟩ = some (.int .i64 x1) := c1
            go_wp2_with fail
            refine (HP1.out _).mono ?_
            rintro e w2 ⟨rfl, rfl⟩
            have bq : Below wr.heap.size wr (wr.drewN nq) := below_drewN (Below.refl _ _) nq
            have HREL : Hid (Row8 (wr.drewN nq) w.heap.size l ∧ (wr.drewN nq).ownsRow w.heap.size 3 1 (.slice ta bad.length tc) bad.length (intsV bad) ∧ Below w.heap.size w (wr.drewN nq)) := ⟨HROW.out.to bq, ownsRow_to HOW.out bq, HBEL.out.trans (bq.mono hsz)⟩
            have d2 : (wr.drewN nq).cell? ⟨sb, off + i * 6 + 2, none⟩ = some (.int .i64 x2) := c2
            have d3 : (wr.drewN nq).cell? ⟨sb, off + i * 6 + 3, none⟩ = some (.int .i64 x3) := c3
            have d4 : (wr.drewN nq).cell? ⟨sb, off + i * 6 + 4, none⟩ = some (.int .i64 x4) := c4
            have d5 : (wr.drewN nq).cell? ⟨sb, off + i * 6 + 5, none⟩ = some (.int .i64 x5) := c5
            obtain ⟨y0, hy0⟩ : ∃ y, y = pickI x2 255 := ⟨_, rfl⟩
            obtain ⟨y1, hy1⟩ : ∃ y, y = pickI x3 256 := ⟨_, rfl⟩
            obtain ⟨y2, hy2⟩ : ∃ y, y = pickI x4 256 := ⟨_, rfl⟩
            obtain ⟨y3, hy3⟩ : ∃ y, y = pickI x5 256 := ⟨_, rfl⟩
            have ly0 : y0 < 255 := by rw [hy0]; exact pickI_lt _ _ (by omega)
            have ly1 : y1 < 256 := by rw [hy1]; exact pickI_lt _ _ (by omega)
            have ly2 : y2 < 256 := by rw [hy2]; exact pickI_lt _ _ (by omega)
            have ly3 : y3 < 256 := by rw [hy3]; exact pickI_lt _ _ (by omega)
            have HPA : Hid (∀ W, Calls Tryd.prog 7 #[.int .i64 x2, .int .i64 255] W fun e w' => e = .returned (.int .i64 (y0 : Nat)) ∧ w' = W) := by
              intro W; rw [hy0]; exact kpick_any x2 255 W (by omega) (by omega) HX2.out.1 HX2.out.2
            have HPB : Hid (∀ W, Calls Tryd.prog 7 #[.int .i64 x3, .int .i64 256] W fun e w' => e = .returned (.int .i64 (y1 : Nat)) ∧ w' = W) := by
              intro W; rw [hy1]; exact kpick_any x3 256 W (by omega) (by omega) HX3.out.1 HX3.out.2
            have HPC : Hid (∀ W, Calls Tryd.prog 7 #[.int .i64 x4, .int .i64 256] W fun e w' => e = .returned (.int .i64 (y2 : Nat)) ∧ w' = W) := by
              intro W; rw [hy2]; exact kpick_any x4 256 W (by omega) (by omega) HX4.out.1 HX4.out.2
            have HPD : Hid (∀ W, Calls Tryd.prog 7 #[.int .i64 x5, .int .i64 256] W fun e w' => e = .returned (.int .i64 (y3 : Nat)) ∧ w' = W) := by
              intro W; rw [hy3]; exact kpick_any x5 256 W (by omega) (by omega) HX5.out.1 HX5.out.2
            have hki2 : (i : Int) < (ls.length : Int) := hki
            clear hy0 hy1 hy2 hy3 bq c0 c1 c2 c3 c4 c5 d1
            generalize wr.drewN nq = w4 at HREL d2 d3 d4 d5 ⊢
            by_cases hend : fr < F - 4
            · have e5 : decide ((fr : Int) < (F : Int) - 4) = true := decide_eq_true (by omega)
              obtain ⟨E, hE⟩ : ∃ E : Nat, (F : Int) - 4 = (E : Int) := ⟨F - 4, by omega⟩
              go_wp2_with fail
              go_region_held3 (fun wx => wx.cell? ⟨sb, off + i * 6 + 2, none⟩ = some (.int .i64 x2) ∧ wx.cell? ⟨sb, off + i * 6 + 3, none⟩ = some (.int .i64 x3) ∧ wx.cell? ⟨sb, off + i * 6 + 4, none⟩ = some (.int .i64 x4) ∧ wx.cell? ⟨sb, off + i * 6 + 5, none⟩ = some (.int .i64 x5)) (go_keep) (first | (go_at_call 7; with_reducible refine (HPA.out _).mono ?_; rintro e w5 ⟨rfl, rfl⟩) | (go_at_call 7; with_reducible refine (HPB.out _).mono ?_; rintro e w5 ⟨rfl, rfl⟩) | (go_at_call 7; with_reducible refine (HPC.out _).mono ?_; rintro e w5 ⟨rfl, rfl⟩) | (go_at_call 7; with_reducible refine (HPD.out _).mono ?_; rintro e w5 ⟨rfl, rfl⟩))
              have hwr1 : IntKind.i64.wrap (1 + (y0 : Int)) = ((1 + y0 : Nat) : Int) := by rw [IntKind.wrap_i64]; omega
              rw [hwr1]
              have hlt4 : w.heap.size < w4.heap.size := HREL.out.1.lt
              have Y6' : Blk (w4.alloc (.cells #[.int .i64 ((1 + y0 : Nat) : Int), .int .i64 (y1 : Int), .int .i64 (y2 : Int), .int .i64 (y3 : Int)] 3)).drew w4.heap.size 3 (intsV [1 + y0, y1, y2, y3]) := (Blk.new w4 _ _)
              have b46 : Below w4.heap.size w4 (w4.alloc (.cells #[.int .i64 ((1 + y0 : Nat) : Int), .int .i64 (y1 : Int), .int .i64 (y2 : Int), .int .i64 (y3 : Int)] 3)).drew := ((Below.refl _ _).alloc (Nat.le_refl _) _).drew
              generalize hw6 : (w4.alloc _).drew = w6
              rw [hw6] at Y6' b46
              have Y6 : Hid (Blk w6 w4.heap.size 3 (intsV [1 + y0, y1, y2, y3])) := Y6'
              have R6 : Hid (Row8 w6 w.heap.size l) := HREL.out.1.to b46
              have O6 : Hid (w6.ownsRow w.heap.size 3 1 (.slice ta bad.length tc) bad.length (intsV bad)) := ownsRow_to HREL.out.2.1 b46
              have B6 : Hid (Below w.heap.size w w6) := HREL.out.2.2.trans (b46.mono (by omega))
              obtain ⟨YB, hYB⟩ : ∃ YB, YB = w4.heap.size := ⟨_, rfl⟩
              rw [← hYB] at Y6 hlt4 ⊢
              obtain ⟨g, hg⟩ : ∃ g : Nat → Nat, g = fun j => [1 + y0, y1, y2, y3].getD j 0 := ⟨_, rfl⟩
              have HG0 : Hid (g 0 ≠ 0) := by show _ ≠ _; rw [hg]; simp
              have HGB : Hid (∀ j, g j < 256) := by
                intro j; rw [hg]
                match j with
                | 0 => simp; omega
                | 1 => simpa using ly1
                | 2 => simpa using ly2
                | 3 => simpa using ly3
                | j + 4 => simp
              have HGC : Hid (∀ (W : World), Blk W YB 3 (intsV [1 + y0, y1, y2, y3]) → ∀ k, k < 4 → W.cell? ⟨YB, k, none⟩ = some (.int .i64 (g k : Nat))) := by
                intro W hW k hk
                refine hW.cell_some ?_
                rw [hg]
                match k, hk with
                | 0, _ => rfl
                | 1, _ => rfl
                | 2, _ => rfl
                | 3, _ => rfl
              generalize intsV [1 + y0, y1, y2, y3] = yv at Y6 HGC
              clear hw6 b46 Y6' HREL hYB hg hwr1 d2 d3 d4 d5 HPA HPB HPC HPD ly0 ly1 ly2 ly3 HP1
              go_wp2
              go_loopw [18] (fun kv wq => ∃ (k : Nat) (l3 : List Nat), k ≤ 4 ∧ fr + k ≤ E ∧ kv = .int .i64 k ∧ Row8 wq w.heap.size l3 ∧ Hitting l3 d s n L fs' p fr g k ∧ Blk wq YB 3 yv ∧ wq.ownsRow w.heap.size 3 1 (.slice ta bad.length tc) bad.length (intsV bad) ∧ Below w.heap.size w wq) (fun kv _ => 4 - (intOf kv).toNat)
              case atStart => exact ⟨0, l, by omega, by omega, rfl, R6.out, Hitting.start HBY.out HSP.out.is (by rw [HSP.out.is.len]; exact hpl) fr g, Y6.out, O6.out, B6.out⟩
              case round =>
                clear R6 Y6 O6 B6
                obtain ⟨k, l3, hk4, hkE, rfl, hr3, hh3, hy3, ho3, hb3⟩ := hrel
                have hl3 : l3.length = Z := by rw [hh3.length, HZ.out]
                have HR3 : Hid (Row8 wr w.heap.size l3) := hr3
                have HH3 : Hid (Hitting l3 d s n L fs' p fr g k) := hh3
                have HY3 : Hid (Blk wr YB 3 yv) := hy3
                have HO3 : Hid (wr.ownsRow w.heap.size 3 1 (.slice ta bad.length tc) bad.length (intsV bad)) := ho3
                have HB3 : Hid (Below w.heap.size w wr) := hb3
                by_cases hgo3 : k < 4 ∧ fr + k < E
                · obtain ⟨hk, hke⟩ := hgo3
                  have e6 : decide ((k : Int) < 4) = true := decide_eq_true (by omega)
                  have e7 : decide ((fr : Int) + (k : Int) < (E : Int)) = true := decide_eq_true (by omega)
                  obtain ⟨PF, hPF⟩ : ∃ PF, PF = p * F := ⟨_, rfl⟩
                  have hpf : (p : Int) * (F : Int) = (PF : Int) := by rw [hPF]; push_cast; rfl
                  obtain ⟨at_, hat⟩ : ∃ a, a = 10 + PF + fr + k := ⟨_, rfl⟩
                  have hplc : at_ < Z := by
                    have := hh3.place (show fr + k < L + 5 by have := HF.out; omega)
                    rw [hl3, ← HF.out, ← hPF] at this
                    omega
                  have hati : 10 + (PF : Int) + (fr : Int) + (k : Int) = (at_ : Int) := by omega
                  have hPFb : PF ≤ 7000 := by omega
                  have hal : at_ < l3.length := by omega
                  have m1 := hr3.cell at_ hal
                  have m3 := hr3.free at_ hal
                  have m2 := HGC.out wr hy3 k hk
                  have hob : l3[at_] < 256 := hh3.bytes _ (List.getElem_mem hal)
                  have hvb := HGB.out k
                  have hod : l3.getD at_ 0 = l3[at_] := by rw [List.getD_eq_getElem?_getD, List.getElem?_eq_getElem hal, Option.getD_some]
                  have hnx := hh3.next (show fr + k < L + 5 by have := HF.out; omega) hvb
                  rw [← HF.out, ← hPF, ← hat, hod] at hnx
                  obtain ⟨o, ho⟩ : ∃ o, o = l3[at_] := ⟨_, rfl⟩
                  obtain ⟨v, hv⟩ : ∃ v, v = g k := ⟨_, rfl⟩
                  rw [← ho] at m1 hob hnx
                  rw [← hv] at m2 hvb hnx
                  obtain ⟨nv, hnv⟩ : ∃ nv, nv = o ^^^ v := ⟨_, rfl⟩
                  rw [← hnv] at hnx
                  have hxor : bits .xor .u8 (o : Int) (v : Int) = (nv : Int) := by rw [hnv]; exact u8_xor_nat _ _ hob hvb
                  have HNX : Hid (Hitting (l3.set at_ nv) d s n L fs' p fr g (k + 1)) := hnx
                  have ik : (k : Int) < 4 := by omega
                  have ia : (at_ : Int) < (Z : Int) := by omega
                  have HYN : Hid (YB ≠ w.heap.size) := by show _ ≠ _; omega
                  clear hnx hnv ho hv hod hal hat hPF hr3 hh3 hy3 ho3 hb3
                  go_wp2_with fail
                  go_region
                  go_wp2
                  go_roundw
                  case rel => exact ⟨k + 1, l3.set at_ nv, by omega, by omega, by go_num, (HR3.out.set at_ nv).to (Below.refl _ _).drew, HNX.out, (HY3.out.other HYN.out _).drew, ownsRow_to (owns_set8 HO3.out HR3.out _ _) (Below.refl _ _).drew, (HB3.out.setCell (Nat.le_refl _) _).drew⟩
                  case measure => simp [intOf]; omega
                · have hit : Hit L fr k g := ⟨by omega, hk4, HG0.out, HGB.out, by have := HF.out; omega⟩
                  obtain ⟨fs2, hsp2⟩ := hh3.done HSP.out HMEM.out hit
                  have HS2 : Hid (Spoilt (mkS l3) d s n L ps (bad ++ [p]) fs2) := hsp2
                  have HBY3 : Hid (Bytes l3) := hh3.bytes
                  have HND2 : Hid ((bad ++ [p]).Nodup) := by
                    show List.Nodup _
                    rw [List.nodup_append]
                    refine ⟨HND.out, by simp, fun a ha b hb e => ?_⟩
                    rw [List.mem_singleton] at hb
                    exact HMEM.out (by rw [← hb, ← e]; exact ha)
                  have HNC : Hid (intsV bad ++ [.int .i64 (p : Int)] = intsV (bad ++ [p])) := by show _ = _; simp [intsV]
                  have hown := HO3.out
                  have hsz3 := HB3.out.size
                  clear hit hsp2 hr3 hh3 hy3 ho3 hb3
                  by_cases hk : k < 4
                  · have e6 : decide ((k : Int) < 4) = true := decide_eq_true (by omega)
                    have e7 : decide ((fr : Int) + (k : Int) < (E : Int)) = false := decide_eq_false (by omega)
                    go_wp2_with (at_builtin; refine wpList_append_row _ rfl _ _ 32 rfl w.heap.size 3 (.int .i64 0) 1 8 Tryd.underlying32 infoInt rfl (by decide) (by decide) _ _ _ rfl (by exact hown.alloc _) ⟨wr.heap.size, 0, none⟩ 1 [.int .i64 (p : Int)] rfl rfl (made_cells wr 3 _) (by simp [Value.oneCell']) (by omega) (by simp; omega) ?_; rw [HNC.out]; intro v' w7 hown' hg' hbel')
                    have HB7 : Hid (Below w.heap.size w w7) := hbel' _ _ (HB3.out.alloc hsz3 _) (Nat.le_refl _)
                    have HR7 : Hid (Row8 w7 w.heap.size l3) := row8_grown (hown.alloc _) hg' (HR3.out.to ((Below.refl _ _).alloc (Nat.le_refl _) _))
                    have HO7 : Hid (w7.ownsRow w.heap.size 3 1 v' (bad ++ [p]).length (intsV (bad ++ [p]))) := by
                      show w7.ownsRow _ _ _ _ _ _
                      rw [List.length_append, List.length_singleton]; exact hown'
                    clear hg' hbel' hown'
                    go_roundw
                    case rel => exact ⟨i + 1, bad ++ [p], l3, fs2, by omega, by go_num, HBY3.out, HR7.out, HS2.out, HND2.out, by simp; omega, HO7.out, HB7.out⟩
                    case measure => simp [intOf]; omega
                  · have e6 : decide ((k : Int) < 4) = false := decide_eq_false (by omega)
                    go_wp2_with (at_builtin; refine wpList_append_row _ rfl _ _ 32 rfl w.heap.size 3 (.int .i64 0) 1 8 Tryd.underlying32 infoInt rfl (by decide) (by decide) _ _ _ rfl (by exact hown.alloc _) ⟨wr.heap.size, 0, none⟩ 1 [.int .i64 (p : Int)] rfl rfl (made_cells wr 3 _) (by simp [Value.oneCell']) (by omega) (by simp; omega) ?_; rw [HNC.out]; intro v' w7 hown' hg' hbel')
                    have HB7 : Hid (Below w.heap.size w w7) := hbel' _ _ (HB3.out.alloc hsz3 _) (Nat.le_refl _)
                    have HR7 : Hid (Row8 w7 w.heap.size l3) := row8_grown (hown.alloc _) hg' (HR3.out.to ((Below.refl _ _).alloc (Nat.le_refl _) _))
                    have HO7 : Hid (w7.ownsRow w.heap.size 3 1 v' (bad ++ [p]).length (intsV (bad ++ [p]))) := by
                      show w7.ownsRow _ _ _ _ _ _
                      rw [List.length_append, List.length_singleton]; exact hown'
                    clear hg' hbel' hown'
                    go_roundw
                    case rel => exact ⟨i + 1, bad ++ [p], l3, fs2, by omega, by go_num, HBY3.out, HR7.out, HS2.out, HND2.out, by simp; omega, HO7.out, HB7.out⟩
                    case measure => simp [intOf]; omega
            · have e5 : decide ((fr : Int) < (F : Int) - 4) = false := decide_eq_false (by omega)
              go_wp2_with fail
              go_region_held3 (fun wx => wx.cell? ⟨sb, off + i * 6 + 2, none⟩ = some (.int .i64 x2) ∧ wx.cell? ⟨sb, off + i * 6 + 3, none⟩ = some (.int .i64 x3) ∧ wx.cell? ⟨sb, off + i * 6 + 4, none⟩ = some (.int .i64 x4) ∧ wx.cell? ⟨sb, off + i * 6 + 5, none⟩ = some (.int .i64 x5)) (go_keep) (first | (go_at_call 7; with_reducible refine (HPA.out _).mono ?_; rintro e w5 ⟨rfl, rfl⟩) | (go_at_call 7; with_reducible refine (HPB.out _).mono ?_; rintro e w5 ⟨rfl, rfl⟩) | (go_at_call 7; with_reducible refine (HPC.out _).mono ?_; rintro e w5 ⟨rfl, rfl⟩) | (go_at_call 7; with_reducible refine (HPD.out _).mono ?_; rintro e w5 ⟨rfl, rfl⟩))
              have hwr1 : IntKind.i64.wrap (1 + (y0 : Int)) = ((1 + y0 : Nat) : Int) := by rw [IntKind.wrap_i64]; omega
              rw [hwr1]
              have hlt4 : w.heap.size < w4.heap.size := HREL.out.1.lt
              have Y6' : Blk (w4.alloc (.cells #[.int .i64 ((1 + y0 : Nat) : Int), .int .i64 (y1 : Int), .int .i64 (y2 : Int), .int .i64 (y3 : Int)] 3)).drew w4.heap.size 3 (intsV [1 + y0, y1, y2, y3]) := (Blk.new w4 _ _)
              have b46 : Below w4.heap.size w4 (w4.alloc (.cells #[.int .i64 ((1 + y0 : Nat) : Int), .int .i64 (y1 : Int), .int .i64 (y2 : Int), .int .i64 (y3 : Int)] 3)).drew := ((Below.refl _ _).alloc (Nat.le_refl _) _).drew
              generalize hw6 : (w4.alloc _).drew = w6
              rw [hw6] at Y6' b46
              have Y6 : Hid (Blk w6 w4.heap.size 3 (intsV [1 + y0, y1, y2, y3])) := Y6'
              have R6 : Hid (Row8 w6 w.heap.size l) := HREL.out.1.to b46
              have O6 : Hid (w6.ownsRow w.heap.size 3 1 (.slice ta bad.length tc) bad.length (intsV bad)) := ownsRow_to HREL.out.2.1 b46
              have B6 : Hid (Below w.heap.size w w6) := HREL.out.2.2.trans (b46.mono (by omega))
              obtain ⟨YB, hYB⟩ : ∃ YB, YB = w4.heap.size := ⟨_, rfl⟩
              rw [← hYB] at Y6 hlt4 ⊢
              obtain ⟨g, hg⟩ : ∃ g : Nat → Nat, g = fun j => [1 + y0, y1, y2, y3].getD j 0 := ⟨_, rfl⟩
              have HG0 : Hid (g 0 ≠ 0) := by show _ ≠ _; rw [hg]; simp
              have HGB : Hid (∀ j, g j < 256) := by
                intro j; rw [hg]
                match j with
                | 0 => simp; omega
                | 1 => simpa using ly1
                | 2 => simpa using ly2
                | 3 => simpa using ly3
                | j + 4 => simp
              have HGC : Hid (∀ (W : World), Blk W YB 3 (intsV [1 + y0, y1, y2, y3]) → ∀ k, k < 4 → W.cell? ⟨YB, k, none⟩ = some (.int .i64 (g k : Nat))) := by
                intro W hW k hk
                refine hW.cell_some ?_
                rw [hg]
                match k, hk with
                | 0, _ => rfl
                | 1, _ => rfl
                | 2, _ => rfl
                | 3, _ => rfl
              generalize intsV [1 + y0, y1, y2, y3] = yv at Y6 HGC
              clear hw6 b46 Y6' HREL hYB hg hwr1 d2 d3 d4 d5 HPA HPB HPC HPD ly0 ly1 ly2 ly3 HP1
              go_wp2
              go_loopw [18] (fun kv wq => ∃ (k : Nat) (l3 : List Nat), k ≤ 4 ∧ fr + k ≤ F ∧ kv = .int .i64 k ∧ Row8 wq w.heap.size l3 ∧ Hitting l3 d s n L fs' p fr g k ∧ Blk wq YB 3 yv ∧ wq.ownsRow w.heap.size 3 1 (.slice ta bad.length tc) bad.length (intsV bad) ∧ Below w.heap.size w wq) (fun kv _ => 4 - (intOf kv).toNat)
              case atStart => exact ⟨0, l, by omega, by omega, rfl, R6.out, Hitting.start HBY.out HSP.out.is (by rw [HSP.out.is.len]; exact hpl) fr g, Y6.out, O6.out, B6.out⟩
              case round =>
                clear R6 Y6 O6 B6
                obtain ⟨k, l3, hk4, hkE, rfl, hr3, hh3, hy3, ho3, hb3⟩ := hrel
                have hl3 : l3.length = Z := by rw [hh3.length, HZ.out]
                have HR3 : Hid (Row8 wr w.heap.size l3) := hr3
                have HH3 : Hid (Hitting l3 d s n L fs' p fr g k) := hh3
                have HY3 : Hid (Blk wr YB 3 yv) := hy3
                have HO3 : Hid (wr.ownsRow w.heap.size 3 1 (.slice ta bad.length tc) bad.length (intsV bad)) := ho3
                have HB3 : Hid (Below w.heap.size w wr) := hb3
                by_cases hgo3 : k < 4 ∧ fr + k < F
                · obtain ⟨hk, hke⟩ := hgo3
                  have e6 : decide ((k : Int) < 4) = true := decide_eq_true (by omega)
                  have e7 : decide ((fr : Int) + (k : Int) < (F : Int)) = true := decide_eq_true (by omega)
                  obtain ⟨PF, hPF⟩ : ∃ PF, PF = p * F := ⟨_, rfl⟩
                  have hpf : (p : Int) * (F : Int) = (PF : Int) := by rw [hPF]; push_cast; rfl
                  obtain ⟨at_, hat⟩ : ∃ a, a = 10 + PF + fr + k := ⟨_, rfl⟩
                  have hplc : at_ < Z := by
                    have := hh3.place (show fr + k < L + 5 by have := HF.out; omega)
                    rw [hl3, ← HF.out, ← hPF] at this
                    omega
                  have hati : 10 + (PF : Int) + (fr : Int) + (k : Int) = (at_ : Int) := by omega
                  have hPFb : PF ≤ 7000 := by omega
                  have hal : at_ < l3.length := by omega
                  have m1 := hr3.cell at_ hal
                  have m3 := hr3.free at_ hal
                  have m2 := HGC.out wr hy3 k hk
                  have hob : l3[at_] < 256 := hh3.bytes _ (List.getElem_mem hal)
                  have hvb := HGB.out k
                  have hod : l3.getD at_ 0 = l3[at_] := by rw [List.getD_eq_getElem?_getD, List.getElem?_eq_getElem hal, Option.getD_some]
                  have hnx := hh3.next (show fr + k < L + 5 by have := HF.out; omega) hvb
                  rw [← HF.out, ← hPF, ← hat, hod] at hnx
                  obtain ⟨o, ho⟩ : ∃ o, o = l3[at_] := ⟨_, rfl⟩
                  obtain ⟨v, hv⟩ : ∃ v, v = g k := ⟨_, rfl⟩
                  rw [← ho] at m1 hob hnx
                  rw [← hv] at m2 hvb hnx
                  obtain ⟨nv, hnv⟩ : ∃ nv, nv = o ^^^ v := ⟨_, rfl⟩
                  rw [← hnv] at hnx
                  have hxor : bits .xor .u8 (o : Int) (v : Int) = (nv : Int) := by rw [hnv]; exact u8_xor_nat _ _ hob hvb
                  have HNX : Hid (Hitting (l3.set at_ nv) d s n L fs' p fr g (k + 1)) := hnx
                  have ik : (k : Int) < 4 := by omega
                  have ia : (at_ : Int) < (Z : Int) := by omega
                  have HYN : Hid (YB ≠ w.heap.size) := by show _ ≠ _; omega
                  clear hnx hnv ho hv hod hal hat hPF hr3 hh3 hy3 ho3 hb3
                  go_wp2_with fail
                  go_region
                  go_wp2
                  go_roundw
                  case rel => exact ⟨k + 1, l3.set at_ nv, by omega, by omega, by go_num, (HR3.out.set at_ nv).to (Below.refl _ _).drew, HNX.out, (HY3.out.other HYN.out _).drew, ownsRow_to (owns_set8 HO3.out HR3.out _ _) (Below.refl _ _).drew, (HB3.out.setCell (Nat.le_refl _) _).drew⟩
                  case measure => simp [intOf]; omega
                · have hit : Hit L fr k g := ⟨by omega, hk4, HG0.out, HGB.out, by have := HF.out; omega⟩
                  obtain ⟨fs2, hsp2⟩ := hh3.done HSP.out HMEM.out hit
                  have HS2 : Hid (Spoilt (mkS l3) d s n L ps (bad ++ [p]) fs2) := hsp2
                  have HBY3 : Hid (Bytes l3) := hh3.bytes
                  have HND2 : Hid ((bad ++ [p]).Nodup) := by
                    show List.Nodup _
                    rw [List.nodup_append]
                    refine ⟨HND.out, by simp, fun a ha b hb e => ?_⟩
                    rw [List.mem_singleton] at hb
                    exact HMEM.out (by rw [← hb, ← e]; exact ha)
                  have HNC : Hid (intsV bad ++ [.int .i64 (p : Int)] = intsV (bad ++ [p])) := by show _ = _; simp [intsV]
                  have hown := HO3.out
                  have hsz3 := HB3.out.size
                  clear hit hsp2 hr3 hh3 hy3 ho3 hb3
                  by_cases hk : k < 4
                  · have e6 : decide ((k : Int) < 4) = true := decide_eq_true (by omega)
                    have e7 : decide ((fr : Int) + (k : Int) < (F : Int)) = false := decide_eq_false (by omega)
                    go_wp2_with (at_builtin; refine wpList_append_row _ rfl _ _ 32 rfl w.heap.size 3 (.int .i64 0) 1 8 Tryd.underlying32 infoInt rfl (by decide) (by decide) _ _ _ rfl (by exact hown.alloc _) ⟨wr.heap.size, 0, none⟩ 1 [.int .i64 (p : Int)] rfl rfl (made_cells wr 3 _) (by simp [Value.oneCell']) (by omega) (by simp; omega) ?_; rw [HNC.out]; intro v' w7 hown' hg' hbel')
                    have HB7 : Hid (Below w.heap.size w w7) := hbel' _ _ (HB3.out.alloc hsz3 _) (Nat.le_refl _)
                    have HR7 : Hid (Row8 w7 w.heap.size l3) := row8_grown (hown.alloc _) hg' (HR3.out.to ((Below.refl _ _).alloc (Nat.le_refl _) _))
                    have HO7 : Hid (w7.ownsRow w.heap.size 3 1 v' (bad ++ [p]).length (intsV (bad ++ [p]))) := by
                      show w7.ownsRow _ _ _ _ _ _
                      rw [List.length_append, List.length_singleton]; exact hown'
                    clear hg' hbel' hown'
                    go_roundw
                    case rel => exact ⟨i + 1, bad ++ [p], l3, fs2, by omega, by go_num, HBY3.out, HR7.out, HS2.out, HND2.out, by simp; omega, HO7.out, HB7.out⟩
                    case measure => simp [intOf]; omega
                  · have e6 : decide ((k : Int) < 4) = false := decide_eq_false (by omega)
                    go_wp2_with (at_builtin; refine wpList_append_row _ rfl _ _ 32 rfl w.heap.size 3 (.int .i64 0) 1 8 Tryd.underlying32 infoInt rfl (by decide) (by decide) _ _ _ rfl (by exact hown.alloc _) ⟨wr.heap.size, 0, none⟩ 1 [.int .i64 (p : Int)] rfl rfl (made_cells wr 3 _) (by simp [Value.oneCell']) (by omega) (by simp; omega) ?_; rw [HNC.out]; intro v' w7 hown' hg' hbel')
                    have HB7 : Hid (Below w.heap.size w w7) := hbel' _ _ (HB3.out.alloc hsz3 _) (Nat.le_refl _)
                    have HR7 : Hid (Row8 w7 w.heap.size l3) := row8_grown (hown.alloc _) hg' (HR3.out.to ((Below.refl _ _).alloc (Nat.le_refl _) _))
                    have HO7 : Hid (w7.ownsRow w.heap.size 3 1 v' (bad ++ [p]).length (intsV (bad ++ [p]))) := by
                      show w7.ownsRow _ _ _ _ _ _
                      rw [List.length_append, List.length_singleton]; exact hown'
                    clear hg' hbel' hown'
                    go_roundw
                    case rel => exact ⟨i + 1, bad ++ [p], l3, fs2, by omega, by go_num, HBY3.out, HR7.out, HS2.out, HND2.out, by simp; omega, HO7.out, HB7.out⟩
                    case measure => simp [intOf]; omega
    · have hbs2 : BsAt wr (.slice (some ⟨w.heap.size, 0, none⟩) Z gc) l := ⟨_, gc, by rw [hll2], .inr ⟨w.heap.size, 0, rfl, HROW.out.lt, fun k hk => by rw [Nat.zero_add]; exact HROW.out.cell k hk⟩⟩
      have HCS : Hid ((convert 56 9 (.slice (some ⟨w.heap.size, 0, none⟩) Z gc)).run Tryd.prog wr = .ok (.string (mkS l)) wr) := conv_str wr _ l hbs2
      clear hbs2
      by_cases h : i < ls.length
      · have e1 : decide ((i : Int) < (ls.length : Int)) = true := decide_eq_true (by omega)
        have e2 : decide ((bad.length : Int) < (s : Int)) = false := decide_eq_false (by omega)
        go_wp2_with (refine wpList_convert _ rfl 56 9 _ rfl _ (.string (mkS l)) rfl HCS.out ?_)
        all_goals first
          | (exfalso; omega)
          | (go_ret2; exact ⟨mkS l, bad, fs', _, rfl, HSP.out, HND.out, hbs, HOW.out, HBEL.out⟩)
      · have e1 : decide ((i : Int) < (ls.length : Int)) = false := decide_eq_false (by omega)
        go_wp2_with (refine wpList_convert _ rfl 56 9 _ rfl _ (.string (mkS l)) rfl HCS.out ?_)
        all_goals first
          | (exfalso; omega)
          | (go_ret2; exact ⟨mkS l, bad, fs', _, rfl, HSP.out, HND.out, hbs, HOW.out, HBEL.out⟩)
end Go.Proofs.YtokmllopbfmadabDoor.KeepW
