import Derived.Test.YtokmllopbfmadabDoorGPRows
import Derived.Test.YtokmllopbfmadabDoorGShaped
import Derived.Test.YtokmllopbfmadabDoorGSolve
namespace Go.Proofs.YtokmllopbfmadabDoor.Ref
open Go.RowKit Mem FieldWalks Tab ByTab Parts
open Gf (Bytes wide0 swapR scaleR takeR Wide)
open Plans (But rowF)

theorem infoU8 : (Tryd.prog.info? 5).map (fun i => (i.zero, i.size, i.bytes)) = some (some (.int .u8 0), 1, 1) := by kernel_rfl
theorem eql_nilB (a : Option Addr) (n c : Nat) (w : World) : (binOp .eql 56 (.slice a n c) (.slice none 0 0)).run Tryd.prog w = .ok (.bool a.isNone) w := Lib.run_eql_slice_nil w 56 5 a n c 0 0 Tryd.underlying56
theorem owns_blk {w : World} {base : Nat} {v : Value} {l : List Nat} (h : w.ownsRow base 5 1 v l.length (bytesV l)) (hl : 0 < l.length) : ∃ b c, v = .slice (some ⟨b, 0, none⟩) l.length c ∧ base ≤ b ∧ Row8 w b l := by
  obtain ⟨_, h2⟩ := h
  rcases h2 with ⟨_, h0⟩ | ⟨g, cap, cur, rfl, hg, hh, h3, h4, h5, ht⟩
  · omega
  · refine ⟨g, cap, rfl, hg, cur, (0, 0), hh, fun k hk => ?_, by omega, .inr rfl⟩
    rw [Nat.mul_one] at ht
    have : (cur.toList.take l.length)[k]? = some (.int .u8 (l[k] : Nat)) := by rw [ht]; exact bytesV_at hk
    rw [List.getElem?_take_of_lt hk] at this
    simpa using this

theorem table_below' {w w' : World} {B : Nat} (h : Table w) (hb : Below B w w') (hB : 0 < B) : Table w' := by
  intro k hk
  rw [hb.cell (p := ⟨0, k, none⟩) hB]; exact h k hk

set_option maxRecDepth 100000 in
set_option maxHeartbeats 1000000 in
theorem clone_any (l : List Nat) (n : Nat) (hn : n = l.length) (hl : 0 < l.length) (hl2 : l.length ≤ 1000) (b off c : Nat) (w : World) (hc : ∀ k, (h : k < l.length) → w.cell? ⟨b, off + k, none⟩ = some (.int .u8 (l[k] : Nat))) (hb : b < w.heap.size) :
    Calls Tryd.prog 78 #[.slice (some ⟨b, off, none⟩) n c] w fun e w' => ∃ b' c', e = .returned (.slice (some ⟨b', 0, none⟩) n c') ∧ w.heap.size ≤ b' ∧ Row8 w' b' l ∧ Below w.heap.size w w' := by
  subst hn
  have hnil := fun w => eql_nilB (some ⟨b, off, none⟩) l.length c w
  obtain ⟨i0, hi, hz0, hz1, hz2⟩ := info_parts infoU8
  have HI : Hid (Tryd.prog.info? 5 = some i0 ∧ i0.zero = some (.int .u8 0) ∧ i0.size = 1 ∧ i0.bytes = 1) := ⟨hi, hz0, hz1, hz2⟩
  have HW1 : Hid (Below w.heap.size w (w.alloc (.cells #[] 5))) := (Below.refl _ _).alloc (Nat.le_refl _) _
  have HOW : Hid ((w.alloc (.cells #[] 5)).ownsRow w.heap.size 5 1 (.slice (some ⟨w.heap.size, 0, none⟩) 0 0) 0 []) := World.ownsRow_lit w #[] 0 (Nat.le_refl _) (by unfold maxLen; omega) rfl
  have HSR : Hid (∀ j v, (bytesV l)[j]? = some v → (w.alloc (.cells #[] 5)).cell? ((⟨b, off, none⟩ : Addr).add j) = some v) := fun j v hv => by
    have hj : j < l.length := by have := (List.getElem?_eq_some_iff.1 hv).1; simpa using this
    rw [Addr.add_lit, HW1.out.cell (p := ⟨b, off + j, none⟩) hb, hc j hj, ← hv, bytesV_at hj]
  have HONE : Hid (∀ v ∈ bytesV l, v.oneCell' = true) := by intro v hv; simp [bytesV] at hv; obtain ⟨n, _, rfl⟩ := hv; rfl
  have HLL : Hid ((bytesV l).length = l.length * 1) := by show _ = _; simp
  clear hi hz0 hz1 hz2 hc
  go_enter Tryd.func78, Tryd.ntmps78
  go_wp2_with ((at_builtin; refine wpList_append_own _ rfl _ _ 56 rfl w.heap.size 5 i0 (.int .u8 0) 1 1 Tryd.underlying56 HI.out.1 HI.out.2.1 HI.out.2.2.1 HI.out.2.2.2 rfl (by decide) _ 0 [] rfl HOW.out ⟨b, off, none⟩ l.length c (bytesV l) rfl HLL.out HSR.out HONE.out (by unfold maxLen; omega) (by omega) (by simp) ?_); intro v' w2 hown2 hg2 _)
  have hb2 := below_grown HW1.out HOW.out hg2 (by simp) (Nat.le_refl _)
  rw [Nat.zero_add, List.nil_append] at hown2
  obtain ⟨b', c', rfl, hb', hr'⟩ := owns_blk hown2 hl
  have HR : Hid (Row8 w2 b' l) := hr'
  clear hown2 hg2 hr'
  go_wp2
  go_ret
  exact ⟨b', c', rfl, hb', HR.out, hb2⟩

/-- The first r rows of the list at B are there. -/
def Fill8 (w : World) (B n r : Nat) (rows : Nat → List Nat) : Prop := ∃ us : List Value, us.length = n ∧ Blk w B 56 us ∧ ∀ k, k < r → ∃ b c, us[k]? = some (.slice (some ⟨b, 0, none⟩) (rows k).length c) ∧ Row8 w b (rows k)
theorem Fill8.start {w : World} {B n : Nat} {us : List Value} (h : Blk w B 56 us) (hl : us.length = n) (rows : Nat → List Nat) : Fill8 w B n 0 rows := ⟨us, hl, h, fun k hk => by omega⟩
theorem Fill8.to {w w' : World} {B n r : Nat} {rows : Nat → List Nat} (h : Fill8 w B n r rows) (hb : Below w.heap.size w w') : Fill8 w' B n r rows := by
  obtain ⟨us, h1, h2, h3⟩ := h
  refine ⟨us, h1, h2.to hb, fun k hk => ?_⟩
  obtain ⟨b, c, h4, h5⟩ := h3 k hk
  exact ⟨b, c, h4, h5.to hb⟩
theorem Fill8.cell {w : World} {B n r : Nat} {rows : Nat → List Nat} (h : Fill8 w B n r rows) (k : Nat) (hk : k < n) : (∃ v, w.cell? ⟨B, k, none⟩ = some v) ∧ w.frozen? ⟨B, k, none⟩ = false ∧ B < w.heap.size := by
  obtain ⟨us, h1, h2, h3⟩ := h
  exact ⟨⟨us[k]'(by omega), h2.cell_some (by simp [show k < us.length by omega])⟩, h2.free k, h2.lt⟩
theorem Fill8.step {w : World} {B n r b c m : Nat} {rows : Nat → List Nat} (h : Fill8 w B n r rows) (hr : r < n) (hb : Row8 w b (rows r)) (hm : m = (rows r).length) : Fill8 (w.setCell ⟨B, r, none⟩ (.slice (some ⟨b, 0, none⟩) m c)) B n (r + 1) rows := by
  obtain ⟨us, h1, h2, h3⟩ := h
  subst hm
  refine ⟨us.set r _, by simpa using h1, h2.set r _, fun k hk => ?_⟩
  by_cases e : k = r
  · subst e
    exact ⟨b, c, by simp [show k < us.length by omega], hb.other (a := ⟨B, k, none⟩) (hb.type_ne h2 (by decide)) _⟩
  · obtain ⟨b', c', h4, h5⟩ := h3 k (by omega)
    exact ⟨b', c', by rw [List.getElem?_set_ne (by omega)]; exact h4, h5.other (a := ⟨B, r, none⟩) (h5.type_ne h2 (by decide)) _⟩
theorem Fill8.rows {w : World} {B n : Nat} {rows : Nat → List Nat} (h : Fill8 w B n n rows) (ls : List (List Nat)) (hl : ls.length = n) (he : ∀ k, (h : k < ls.length) → ls[k] = rows k) : RowsAt w (.slice (some ⟨B, 0, none⟩) n n) ls := by
  obtain ⟨us, h1, h2, h3⟩ := h
  refine ⟨_, n, by rw [hl], .inr ⟨B, 0, rfl, h2.lt, fun k hk => ?_⟩⟩
  obtain ⟨b, c, h4, h5⟩ := h3 k (by omega)
  exact ⟨_, by rw [Nat.zero_add]; exact h2.cell_some h4, by rw [he k hk]; exact h5.bs _ _ rfl⟩
/-- Reading a row of the list, with its room. -/
theorem Outs.at {base : Nat} {w : World} {g n L : Nat} {rows : Nat → List Nat} {bs : List Nat} {us : List Value} (h : OutAt w g n L bs us rows) (hcap : ∀ q, (h : q < bs.length) → us[q]? = some (.slice (some ⟨bs[q], 0, none⟩) L L)) (p : Nat) (hp : p < n) (hl : ∀ b, b ∈ bs → base ≤ b) :
    ∃ b, ∃ hb : p < bs.length, bs[p] = b ∧ w.cell? ⟨g, p, none⟩ = some (.slice (some ⟨b, 0, none⟩) L L) ∧ Row8 w b (rows p) ∧ g ≠ b ∧ base ≤ b := by
  have hlen := h.len
  have hpb : p < bs.length := by omega
  exact ⟨bs[p], hpb, rfl, h.list.cell_some (hcap p hpb), h.row p hpb, Ne.symm ((h.row p hpb).type_ne h.list (by decide)), hl _ (List.getElem_mem _)⟩

set_option maxRecDepth 100000 in
set_option maxHeartbeats 4000000 in
theorem inverse_any (d : Nat) (A : Nat → Nat → Nat) (rows : List (List Nat)) (rv : Value) (w : World) (ht : Table w) (hd : 1 ≤ d) (hd2 : d ≤ 10) (hlr : rows.length = d) (hrow : ∀ n, (h : n < rows.length) → rows[n] = rowF d (A n)) (hr : RowsAt w rv rows)
    (hA : ∀ n, n < d → ∀ k, k < d → A n k < 256) (hker : ∀ x : Nat → Nat, (∀ k, x k < 256) → (∀ r, r < d → Gf.dot d (A r) x = 0) → ∀ k, k < d → x k = 0) :
    Calls Tryd.prog 63 #[rv] w fun e w' => ∃ v M, e = .returned v ∧ Wide d d A M ∧ RowsAt w' v ((List.range d).map fun r => rowF d (fun n => M r (d + n))) ∧ Below w.heap.size w w' := by
  have HA : Hid (∀ n, n < d → ∀ k, k < d → A n k < 256) := hA
  have HT : Hid (Table w) := ht
  have hw0 : 0 < w.heap.size := block_lt_of_cell (ht 0 (by decide))
  have HWU := withUnits_any d A rows rv w hd hd2 hlr hrow hr
  have HW0 : Hid (Wide d 0 A (wide0 d A)) := Wide.start d A hA hker
  obtain ⟨rao, rcap, rfl, _⟩ := hr
  rw [hlr] at HWU ⊢
  obtain ⟨D, hD⟩ : ∃ D, D = 2 * d := ⟨_, rfl⟩
  rw [← hD] at HWU
  have HWUH : Hid (Calls Tryd.prog 74 #[.slice rao d rcap] w fun e w' => ∃ g, w.heap.size ≤ g ∧ e = .returned (.slice (some ⟨g, 0, none⟩) d d) ∧ Outs w.heap.size w' g d D (fun r => rowF D (wide0 d A r)) ∧ Below w.heap.size w w') := HWU
  have HDD : Hid (D = 2 * d) := hD
  have hD1 : D ≤ 20 := by omega
  have hD2 : 2 * d ≤ D := by omega
  have hD3 : D ≤ 2 * d := by omega
  have hmk := fun w => make_rows d (by omega) w
  clear HWU hD hlr hrow hA hker ht
  go_enter Tryd.func63, Tryd.ntmps63
  go_wp2_with fail
  refine Calls.mono HWUH.out ?_
  rintro e w1 ⟨g, hg, rfl, hout1, hb1⟩
  have HO1 : Hid (Outs w.heap.size w1 g d D (fun r => rowF D (wide0 d A r))) := hout1
  have HB1 : Hid (Below w.heap.size w w1) := hb1
  clear hout1 hb1 HWUH
  go_wp2
  go_loopw [13] (fun i wr => ∃ (c : Nat) (M : Nat → Nat → Nat), c ≤ d ∧ i = .int .i64 c ∧ Wide d c A M ∧ Outs w.heap.size wr g d D (fun q => rowF D (M q)) ∧ Below w.heap.size w wr) (fun i _ => d - (intOf i).toNat)
  case atStart => exact ⟨0, wide0 d A, Nat.zero_le _, rfl, HW0.out, HO1.out, HB1.out⟩
  case round =>
    clear HO1 HB1 HW0
    obtain ⟨c, M, hc, rfl, hwide, hout, hbel⟩ := hrel
    by_cases hcd : c < d
    · have HBR := bringUp_any w.heap.size g d D c d M wr (by omega) (by omega) hcd (by omega) hg hout (hwide.pivot hcd)
      have HWI : Hid (Wide d c A M) := hwide
      have HBL : Hid (Below w.heap.size w wr) := hbel
      clear hwide hout hbel
      go_wp2_with fail
      refine Calls.mono HBR ?_
      rintro e w2 ⟨rfl, p, hcp, hpd, hpiv, hout2, hb2⟩
      have hb02 := HBL.out.trans hb2
      have HW2 : Hid (Wide d c A (swapR M c p)) := HWI.out.swap hcd hcp hpd
      have hM1 : swapR M c p c = M p := by simp [swapR]
      obtain ⟨bs, us, hoa, hlow, hcap⟩ := hout2
      obtain ⟨b1, hb1l, hb1e, l1, hrw, hgb1, hb1b⟩ := Outs.at hoa hcap c hcd hlow
      have HOA : Hid (OutAt w2 g d D bs us (fun q => rowF D (swapR M c p q))) := hoa
      have HLOW : Hid (∀ b, b ∈ bs → w.heap.size ≤ b) := hlow
      have HCAP : Hid (∀ q, (h : q < bs.length) → us[q]? = some (.slice (some ⟨bs[q], 0, none⟩) D D)) := hcap
      have HB1E : Hid (bs[c]'hb1l = b1) := hb1e
      obtain ⟨x, hx⟩ : ∃ x, x = swapR M c p c c := ⟨_, rfl⟩
      have hx0 : x ≠ 0 := by rw [hx, hM1]; exact hpiv
      have hxb : x < 256 := by rw [hx]; exact HW2.out.byte c hcd c (by omega)
      have cx := hrw.cell c (by simp; omega)
      rw [show (rowF D (swapR M c p c))[c]'(by simp; omega) = x by simp [rowF, hx]] at cx
      have HX : Hid (x = swapR M c p c c) := hx
      have HX0 : Hid (swapR M c p c c ≠ 0) := by rw [← hx]; exact hx0
      have HBY : Hid (∀ k, k < D → swapR M c p c k < 256) := fun k hk => HW2.out.byte c hcd k (by omega)
      have hfb : Gf.inv x < 256 := Gf.inv_lt x hxb
      have hb10 : b1 ≠ 0 := by omega
      have hglt := hoa.list.lt
      have HT2 : Hid (Table w2) := table_below' HT.out hb02 hw0
      have HRW : Hid (Row8 w2.drew b1 (rowF D (swapR M c p c))) := hrw.to (Below.refl _ _).drew
      have HS : Hid (w2.drew.cell? ⟨g, c, none⟩ = some (.slice (some ⟨b1, 0, none⟩) D D)) := l1
      have HB02 : Hid (Below w.heap.size w w2) := hb02
      have i1 : (c : Int) < (D : Int) := by omega
      clear hb2 hpiv hoa hlow hcap hb1e hx hx0 hrw hM1 HBR HWI HBL hb02
      go_wp2_with fail
      refine wp_region_held (S := fun wx => wx.cell? ⟨g, c, none⟩ = some (.slice (some ⟨b1, 0, none⟩) D D)) rfl ?_
      refine wpAnyH_take (i := 0) (v := (.slice (some ⟨g, 0, none⟩) d d)) rfl (by kernel_rfl) (by kernel_rfl) (by kernel_rfl) (fun _ _ _ h => h) (Or.inl ⟨by rfl, fun w hw => by go_simp⟩) HS.out ?_
      refine wpAnyH_take (i := 1) (v := (.int .i64 (c : Int))) rfl (by kernel_rfl) (by kernel_rfl) (by kernel_rfl) (fun _ _ _ h => h) (Or.inl ⟨by rfl, fun w hw => by go_simp⟩) HS.out ?_
      refine wpAnyH_take (i := 2) (v := (.pointer (some ⟨g, c, none⟩))) rfl (by kernel_rfl) (by kernel_rfl) (by kernel_rfl) (fun _ _ _ h => h) (Or.inl ⟨by rfl, fun w hw => by go_simp⟩) HS.out ?_
      refine wpAnyH_take (i := 3) (v := (.slice (some ⟨b1, 0, none⟩) D D)) rfl (by kernel_rfl) (by kernel_rfl) (by kernel_rfl) (fun _ _ _ h => h) (Or.inl ⟨by rfl, fun w hw => by go_simp⟩) HS.out ?_
      refine wpAnyH_take (i := 4) (v := (.slice (some ⟨g, 0, none⟩) d d)) rfl (by kernel_rfl) (by kernel_rfl) (by kernel_rfl) (fun _ _ _ h => h) (Or.inl ⟨by rfl, fun w hw => by go_simp⟩) HS.out ?_
      simp only [Act.put]
      refine wpAnyH_take (i := 5) (v := (.int .i64 (c : Int))) rfl (by kernel_rfl) (by kernel_rfl) (by kernel_rfl) (fun _ _ _ h => h) (Or.inl ⟨by rfl, fun w hw => by go_simp⟩) HS.out ?_
      refine wpAnyH_take (i := 6) (v := (.pointer (some ⟨g, c, none⟩))) rfl (by kernel_rfl) (by kernel_rfl) (by kernel_rfl) (fun _ _ _ h => h) (Or.inl ⟨by rfl, fun w hw => by go_simp⟩) HS.out ?_
      refine wpAnyH_take (i := 7) (v := (.slice (some ⟨b1, 0, none⟩) D D)) rfl (by kernel_rfl) (by kernel_rfl) (by kernel_rfl) (fun _ _ _ h => h) (Or.inl ⟨by rfl, fun w hw => by go_simp⟩) HS.out ?_
      refine wpAnyH_take (i := 8) (v := (.int .i64 (c : Int))) rfl (by kernel_rfl) (by kernel_rfl) (by kernel_rfl) (fun _ _ _ h => h) (Or.inl ⟨by rfl, fun w hw => by go_simp⟩) HS.out ?_
      refine wpAnyH_take (i := 9) (v := (.pointer (some ⟨b1, c, none⟩))) rfl (by kernel_rfl) (by kernel_rfl) (by kernel_rfl) (fun _ _ _ h => h) (Or.inl ⟨by rfl, fun w hw => by go_simp⟩) HS.out ?_
      simp only [Act.put, List.setIfInBounds_toArray]
      refine wpAnyH_ready (rs := [10]) (by kernel_rfl) (by simp) ?_
      refine AllReadyH.cons rfl (fun K hK => ?_) AllReadyH.nil
      go_simp
      refine hK.out _ _ HS.out (fun _ => ?_)
      clear hK K
      refine wpAnyH_ready (rs := [11]) (by kernel_rfl) (by simp) ?_
      refine AllReadyH.cons rfl (fun K hK => ?_) AllReadyH.nil
      go_simp
      refine (inv_any x hxb _ (by exact HT2.out)).mono ?_
      rintro e w' ⟨rfl, rfl⟩
      dsimp only
      refine hK.out _ _ HS.out (fun _ => ?_)
      clear hK K
      refine wpAnyH_ready (rs := [12]) (by kernel_rfl) (by simp) ?_
      refine AllReadyH.cons rfl (fun K hK => ?_) AllReadyH.nil
      go_simp
      refine (scale_any D (swapR M c p c) (Gf.inv x) b1 D (by omega) HBY.out hfb hb10 _ (by exact HT2.out) HRW.out).mono ?_
      rintro e w3 ⟨rfl, hr3, hbut3⟩
      dsimp only
      refine hK.out _ _ (by rw [hbut3.cell (p := ⟨g, c, none⟩) hgb1 hglt]; exact HS.out) (fun _ => ?_)
      clear hK K
      refine wpAnyH_done (by kernel_rfl) ?_ _
      obtain ⟨M2, hM2⟩ : ∃ M2, M2 = scaleR (swapR M c p) c (Gf.inv (swapR M c p c c)) := ⟨_, rfl⟩
      have HW3 : Hid (Wide d c A M2 ∧ M2 c c = 1) := by rw [hM2]; exact HW2.out.scale hcd HA.out HX0.out
      have HO3 : Hid (Outs w.heap.size w3 g d D (fun q => rowF D (M2 q))) := by
        have h1 := OutAt.but (HOA.out.to (Below.refl _ _).drew) c hb1l (rowF D fun k => Gf.times (swapR M c p c k) (Gf.inv x)) (by rw [HB1E.out]; exact hbut3) (by rw [HB1E.out]; exact hr3) (by simp)
        refine ⟨bs, us, h1.congr fun q hq => ?_, HLOW.out, HCAP.out⟩
        rw [hM2]
        by_cases e : q = c
        · subst e
          rw [if_pos rfl]
          exact Plans.rowF_congr fun k _ => by simp [scaleR, HX.out]
        · rw [if_neg e]
          exact Plans.rowF_congr fun k _ => by simp [scaleR, e]
      have HB3 : Hid (Below w.heap.size w w3) := hbut3.below HB02.out.drew hb1b (by exact HB02.out.size)
      clear hM2 hr3 hbut3 HOA HLOW HCAP HB1E HX HX0 HBY HRW HS HB02 HT2 HW2 l1 cx hglt hgb1 hb1b hfb hb10 hxb hb1l
      go_wp2
      go_loopw [34] (fun i wq => ∃ q : Nat, q ≤ d ∧ i = .int .i64 q ∧ Outs w.heap.size wq g d D (fun p => rowF D (if p < q then takeR M2 c p else M2 p)) ∧ Below w.heap.size w wq) (fun i _ => d - (intOf i).toNat)
      case atStart => exact ⟨0, Nat.zero_le _, rfl, HO3.out.congr fun p _ => by simp, HB3.out⟩
      case round =>
        clear HO3 HB3
        obtain ⟨q, hq, rfl, hout4, hb4⟩ := hrel
        by_cases hqd : q < d
        · by_cases eqc : q = c
          · have e0 : ((q : Int) != (c : Int)) = false := by simp; omega
            have HO5 : Hid (Outs w.heap.size wr g d D (fun p => rowF D (if p < q + 1 then takeR M2 c p else M2 p))) := hout4.congr fun p hp => by
              by_cases e1 : p < q
              · rw [if_pos (by omega), if_pos e1]
              · rw [if_neg e1]
                by_cases e2 : p = q
                · rw [if_pos (by omega), e2, eqc]
                  exact Plans.rowF_congr fun k _ => by simp [takeR]
                · rw [if_neg (by omega)]
            have HB5 : Hid (Below w.heap.size w wr) := hb4
            clear hout4 hb4 eqc
            go_wp2
            go_roundw
            case rel => exact ⟨q + 1, by omega, by go_num, HO5.out, HB5.out⟩
            case measure => simp [intOf]; omega
          · have e0 : ((q : Int) != (c : Int)) = true := by simp; omega
            have e0' : ¬ (q : Int) = (c : Int) := by omega
            obtain ⟨bs, us, hoa, hlow, hcap⟩ := hout4
            obtain ⟨b2, hb2l, hb2e, l2, hrw2, hgb2, hb2b⟩ := Outs.at hoa hcap q hqd hlow
            obtain ⟨b3, hb3l, hb3e, l3, hrw3, hgb3, hb3b⟩ := Outs.at hoa hcap c hcd hlow
            rw [if_neg (by omega)] at hrw2
            have hcrow : (if c < q then takeR M2 c c else M2 c) = M2 c := by
              split
              · funext k; simp [takeR]
              · rfl
            rw [hcrow] at hrw3
            have hb23 : b2 ≠ b3 := by
              intro e
              have hnd := hoa.nodup
              rw [List.Nodup, List.pairwise_iff_getElem] at hnd
              rw [← hb2e, ← hb3e] at e
              rcases Nat.lt_or_gt_of_ne eqc with hlt | hlt
              · exact hnd q c hb2l hb3l hlt e
              · exact hnd c q hb3l hb2l hlt e.symm
            obtain ⟨y, hy⟩ : ∃ y, y = M2 q c := ⟨_, rfl⟩
            have hyb : y < 256 := by rw [hy]; exact HW3.out.1.byte q hqd c (by omega)
            have cy := hrw2.cell c (by simp; omega)
            rw [show (rowF D (M2 q))[c]'(by simp; omega) = y by simp [rowF, hy]] at cy
            have HY : Hid (y = M2 q c) := hy
            have HY1 : Hid (∀ k, k < D → M2 q k < 256) := fun k hk => HW3.out.1.byte q hqd k (by omega)
            have HY2 : Hid (∀ k, k < D → M2 c k < 256) := fun k hk => HW3.out.1.byte c hcd k (by omega)
            have hb20 : b2 ≠ 0 := by omega
            have hglt2 := hoa.list.lt
            have HT4 : Hid (Table wr) := table_below' HT.out hb4 hw0
            have HRW2 : Hid (Row8 wr.drew b2 (rowF D (M2 q))) := hrw2.to (Below.refl _ _).drew
            have HRW3 : Hid (Row8 wr.drew b3 (rowF D (M2 c))) := hrw3.to (Below.refl _ _).drew
            have HS2 : Hid (wr.drew.cell? ⟨g, q, none⟩ = some (.slice (some ⟨b2, 0, none⟩) D D) ∧ wr.drew.cell? ⟨g, c, none⟩ = some (.slice (some ⟨b3, 0, none⟩) D D)) := ⟨l2, l3⟩
            have HOA : Hid (OutAt wr g d D bs us (fun p => rowF D (if p < q then takeR M2 c p else M2 p))) := hoa
            have HLOW : Hid (∀ b, b ∈ bs → w.heap.size ≤ b) := hlow
            have HCAP : Hid (∀ q, (h : q < bs.length) → us[q]? = some (.slice (some ⟨bs[q], 0, none⟩) D D)) := hcap
            have HB2E : Hid (bs[q]'hb2l = b2) := hb2e
            have HB4 : Hid (Below w.heap.size w wr) := hb4
            clear hoa hlow hcap hrw2 hrw3 hb2e hb3e hcrow hy hb4 hgb3 hb3b
            go_wp2_with fail
            refine wp_region_held (S := fun wx => wx.cell? ⟨g, q, none⟩ = some (.slice (some ⟨b2, 0, none⟩) D D) ∧ wx.cell? ⟨g, c, none⟩ = some (.slice (some ⟨b3, 0, none⟩) D D)) rfl ?_
            refine wpAnyH_take (i := 0) (v := (.slice (some ⟨g, 0, none⟩) d d)) rfl (by kernel_rfl) (by kernel_rfl) (by kernel_rfl) (fun _ _ _ h => h) (Or.inl ⟨by rfl, fun w hw => by go_simp⟩) HS2.out ?_
            refine wpAnyH_take (i := 1) (v := (.int .i64 (q : Int))) rfl (by kernel_rfl) (by kernel_rfl) (by kernel_rfl) (fun _ _ _ h => h) (Or.inl ⟨by rfl, fun w hw => by go_simp⟩) HS2.out ?_
            refine wpAnyH_take (i := 2) (v := (.pointer (some ⟨g, q, none⟩))) rfl (by kernel_rfl) (by kernel_rfl) (by kernel_rfl) (fun _ _ _ h => h) (Or.inl ⟨by rfl, fun w hw => by go_simp⟩) HS2.out ?_
            refine wpAnyH_take (i := 3) (v := (.slice (some ⟨b2, 0, none⟩) D D)) rfl (by kernel_rfl) (by kernel_rfl) (by kernel_rfl) (fun _ _ _ h => h) (Or.inl ⟨by rfl, fun w hw => by obtain ⟨t1, t2⟩ := hw; go_simp⟩) HS2.out ?_
            refine wpAnyH_take (i := 4) (v := (.slice (some ⟨g, 0, none⟩) d d)) rfl (by kernel_rfl) (by kernel_rfl) (by kernel_rfl) (fun _ _ _ h => h) (Or.inl ⟨by rfl, fun w hw => by go_simp⟩) HS2.out ?_
            simp only [Act.put]
            refine wpAnyH_take (i := 5) (v := (.int .i64 (q : Int))) rfl (by kernel_rfl) (by kernel_rfl) (by kernel_rfl) (fun _ _ _ h => h) (Or.inl ⟨by rfl, fun w hw => by go_simp⟩) HS2.out ?_
            refine wpAnyH_take (i := 6) (v := (.pointer (some ⟨g, q, none⟩))) rfl (by kernel_rfl) (by kernel_rfl) (by kernel_rfl) (fun _ _ _ h => h) (Or.inl ⟨by rfl, fun w hw => by go_simp⟩) HS2.out ?_
            refine wpAnyH_take (i := 7) (v := (.slice (some ⟨b2, 0, none⟩) D D)) rfl (by kernel_rfl) (by kernel_rfl) (by kernel_rfl) (fun _ _ _ h => h) (Or.inl ⟨by rfl, fun w hw => by obtain ⟨t1, t2⟩ := hw; go_simp⟩) HS2.out ?_
            refine wpAnyH_take (i := 8) (v := (.int .i64 (c : Int))) rfl (by kernel_rfl) (by kernel_rfl) (by kernel_rfl) (fun _ _ _ h => h) (Or.inl ⟨by rfl, fun w hw => by go_simp⟩) HS2.out ?_
            refine wpAnyH_take (i := 9) (v := (.pointer (some ⟨b2, c, none⟩))) rfl (by kernel_rfl) (by kernel_rfl) (by kernel_rfl) (fun _ _ _ h => h) (Or.inl ⟨by rfl, fun w hw => by go_simp⟩) HS2.out ?_
            simp only [Act.put, List.setIfInBounds_toArray]
            refine wpAnyH_take (i := 11) (v := (.slice (some ⟨g, 0, none⟩) d d)) rfl (by kernel_rfl) (by kernel_rfl) (by kernel_rfl) (fun _ _ _ h => h) (Or.inl ⟨by rfl, fun w hw => by go_simp⟩) HS2.out ?_
            refine wpAnyH_take (i := 12) (v := (.int .i64 (c : Int))) rfl (by kernel_rfl) (by kernel_rfl) (by kernel_rfl) (fun _ _ _ h => h) (Or.inl ⟨by rfl, fun w hw => by go_simp⟩) HS2.out ?_
            refine wpAnyH_take (i := 13) (v := (.pointer (some ⟨g, c, none⟩))) rfl (by kernel_rfl) (by kernel_rfl) (by kernel_rfl) (fun _ _ _ h => h) (Or.inl ⟨by rfl, fun w hw => by go_simp⟩) HS2.out ?_
            refine wpAnyH_take (i := 14) (v := (.slice (some ⟨b3, 0, none⟩) D D)) rfl (by kernel_rfl) (by kernel_rfl) (by kernel_rfl) (fun _ _ _ h => h) (Or.inl ⟨by rfl, fun w hw => by obtain ⟨t1, t2⟩ := hw; go_simp⟩) HS2.out ?_
            simp only [Act.put]
            refine wpAnyH_ready (rs := [10]) (by kernel_rfl) (by simp) ?_
            refine AllReadyH.cons rfl (fun K hK => ?_) AllReadyH.nil
            go_simp
            refine hK.out _ _ HS2.out (fun _ => ?_)
            clear hK K
            refine wpAnyH_ready (rs := [15]) (by kernel_rfl) (by simp) ?_
            refine AllReadyH.cons rfl (fun K hK => ?_) AllReadyH.nil
            go_simp
            refine (addTimes_any D (M2 q) (M2 c) y b2 D b3 D (by omega) HY1.out HY2.out hyb hb20 hb23 _ (by exact HT4.out) HRW2.out HRW3.out).mono ?_
            rintro e w5 ⟨rfl, hr5, hbut5⟩
            dsimp only
            refine hK.out _ _ ⟨by rw [hbut5.cell (p := ⟨g, q, none⟩) hgb2 hglt2]; exact HS2.out.1, by rw [hbut5.cell (p := ⟨g, c, none⟩) hgb2 hglt2]; exact HS2.out.2⟩ (fun _ => ?_)
            clear hK K
            refine wpAnyH_done (by kernel_rfl) ?_ _
            have HO5 : Hid (Outs w.heap.size w5 g d D (fun p => rowF D (if p < q + 1 then takeR M2 c p else M2 p))) := by
              have h1 := OutAt.but (HOA.out.to (Below.refl _ _).drew) q hb2l (rowF D fun k => M2 q k ^^^ Gf.times y (M2 c k)) (by rw [HB2E.out]; exact hbut5) (by rw [HB2E.out]; exact hr5) (by simp)
              refine ⟨bs, us, h1.congr fun p hp => ?_, HLOW.out, HCAP.out⟩
              by_cases e : p = q
              · subst e
                rw [if_pos rfl, if_pos (by omega)]
                exact Plans.rowF_congr fun k _ => by simp [takeR, eqc, HY.out]
              · rw [if_neg e]
                by_cases e1 : p < q
                · rw [if_pos (by omega), if_pos e1]
                · rw [if_neg (by omega), if_neg e1]
            have HB5 : Hid (Below w.heap.size w w5) := hbut5.below HB4.out.drew hb2b (by exact HB4.out.size)
            clear hr5 hbut5
            go_wp2
            go_roundw
            case rel => exact ⟨q + 1, by omega, by go_num, HO5.out, HB5.out⟩
            case measure => simp [intOf]; omega
        · obtain rfl : d = q := by omega
          have HO6 : Hid (Outs w.heap.size wr g d D (fun p => rowF D (takeR M2 c p))) := hout4.congr fun p hp => by rw [if_pos hp]
          have HB6 : Hid (Below w.heap.size w wr) := hb4
          have HW6 : Hid (Wide d (c + 1) A (takeR M2 c)) := HW3.out.1.take hcd HA.out HW3.out.2
          clear hout4 hb4
          go_wp2
          go_roundw
          case rel => exact ⟨c + 1, takeR M2 c, by omega, by go_num, HW6.out, HO6.out, HB6.out⟩
          case measure => simp [intOf]; omega
    · obtain rfl : d = c := by omega
      have HWF : Hid (Wide d d A M) := hwide
      obtain ⟨w7, rfl⟩ : ∃ w7, w7 = wr := ⟨_, rfl⟩
      have HO7 : Hid (Outs w.heap.size w7 g d D (fun q => rowF D (M q))) := hout
      have HB7 : Hid (Below w.heap.size w w7) := hbel
      clear hwide hout hbel
      have hDd : D - d = d := by omega
      go_wp2
      go_loopw [63] (fun i wq => ∃ r : Nat, r ≤ d ∧ i = .int .i64 r ∧ Fill8 wq w7.heap.size d r (fun r => rowF d (fun n => M r (d + n))) ∧ Below w7.heap.size w7 wq) (fun i _ => d - (intOf i).toNat)
      case atStart => exact ⟨0, Nat.zero_le _, rfl, Fill8.start ((Blk.new w7 _ _).eq (toList_madeCells_one _ d)) (by simp) _, (Below.refl _ _).alloc (Nat.le_refl _) _⟩
      case round =>
        obtain ⟨r, hr, rfl, hfill, hb8⟩ := hrel
        by_cases hrd : r < d
        · obtain ⟨bs, us, hoa, hlow, hcap⟩ := HO7.out.to hb8
          obtain ⟨b2, hb2l, hb2e, l2, hrw2, hgb2, hb2b⟩ := Outs.at hoa hcap r hrd hlow
          have HF : Hid (Fill8 wr w7.heap.size d r (fun r => rowF d (fun n => M r (d + n)))) := hfill
          have HB8 : Hid (Below w7.heap.size w7 wr) := hb8
          have HCL := clone_any (rowF d (fun n => M r (d + n))) d (by simp) (by simp; omega) (by simp; omega) b2 d d wr (fun k hk => by
            have hk' : k < d := by simpa using hk
            have := hrw2.cell (d + k) (by simp; omega)
            rw [this]; simp [rowF]) hrw2.lt
          have HCLH : Hid _ := HCL
          have hsz8 := hb8.size
          have hDi : (d : Int) ≤ (D : Int) := by omega
          clear hoa hlow hcap hb2e hrw2 hfill hb8 hgb2 hb2b HCL
          go_wp2_with fail
          refine Calls.mono HCLH.out ?_
          rintro e w9 ⟨b9, c9, rfl, hb9, hr9, hbw9⟩
          have HF9 : Hid (Fill8 w9 w7.heap.size d r (fun r => rowF d (fun n => M r (d + n)))) := HF.out.to hbw9
          obtain ⟨⟨ov, k1⟩, k2, k3⟩ := HF9.out.cell r hrd
          have HF10 : Hid (Fill8 (w9.setCell ⟨w7.heap.size, r, none⟩ (.slice (some ⟨b9, 0, none⟩) d c9)) w7.heap.size d (r + 1) (fun r => rowF d (fun n => M r (d + n)))) := HF9.out.step hrd hr9 (by simp)
          have HB9 : Hid (Below w7.heap.size w7 w9) := HB8.out.trans (hbw9.mono HB8.out.size)
          clear hr9 hbw9
          go_wp2
          go_roundw
          case rel => exact ⟨r + 1, by omega, by go_num, HF10.out, HB9.out.setCell (Nat.le_refl _) _⟩
          case measure => simp [intOf]; omega
        · obtain rfl : d = r := by omega
          have HRF : Hid (RowsAt wr (.slice (some ⟨w7.heap.size, 0, none⟩) d d) ((List.range d).map fun r => rowF d (fun n => M r (d + n)))) := hfill.rows _ (by simp) (fun k hk => by simp)
          have HB9 : Hid (Below w.heap.size w wr) := HB7.out.trans (hb8.mono HB7.out.size)
          clear hfill hb8
          go_wp2
          go_ret
          exact ⟨_, M, rfl, HWF.out, HRF.out, HB9.out⟩
end Go.Proofs.YtokmllopbfmadabDoor.Ref

namespace Go.Proofs.YtokmllopbfmadabDoor.Ref
open Go.RowKit Mem FieldWalks Tab ByTab Parts
open Gf (Bytes chosen left_ rowOf enough)
open Plans (But rowF intsV infoInt)

theorem filter_split (P : Nat → Bool) (j n : Nat) (h : j ≤ n) : (List.range n).filter P = (List.range j).filter P ++ (List.range' j (n - j)).filter P := by
  rw [← List.filter_append]
  congr 1
  have := List.range'_append_1 (s := 0) (m := j) (n := n - j)
  rw [Nat.zero_add] at this
  rw [List.range_eq_range', List.range_eq_range', this]
  congr 1; omega
theorem filter_at (P : Nat → Bool) (j n : Nat) (h : j < n) (hP : P j = true) : ((List.range n).filter P)[((List.range j).filter P).length]? = some j := by
  rw [filter_split P j n (by omega), List.getElem?_append_right (Nat.le_refl _), Nat.sub_self]
  rw [show n - j = (n - j - 1) + 1 by omega, List.range'_succ, List.filter_cons, if_pos hP]
  rfl
theorem filter_next (P : Nat → Bool) (j : Nat) : (List.range (j + 1)).filter P = (List.range j).filter P ++ (if P j = true then [j] else []) := by
  rw [List.range_succ, List.filter_append]
  congr 1
  simp [List.filter_cons]
theorem chosen_of_full (N : Nat → Bool) (d s p : Nat) (hp : p ≤ d + s) (h : ((List.range p).filter N).length = d) : chosen N d s = (List.range p).filter N := by
  unfold chosen
  rw [filter_split N p (d + s) hp]
  exact List.take_left' h
theorem chosen_at (N : Nat → Bool) (d s j : Nat) (hj : j < d) (hN : N j = true) : (chosen N d s)[((List.range j).filter N).length]? = some j := by
  have h1 : ((List.range j).filter N).length ≤ j := by have := List.length_filter_le N (List.range j); simpa using this
  unfold chosen
  rw [List.getElem?_take_of_lt (by omega)]
  exact filter_at N j (d + s) (by omega) hN

theorem make_none (d : Nat) (hd : d ≤ 1000) (w : World) :
    (Instr.makeSlice 32 (.int .i64 0) (.int .i64 (d : Int))).run Tryd.prog w = .ok (.slice (some ⟨w.heap.size, 0, none⟩) 0 d) (w.alloc (.cells (madeCells #[.int .i64 0] d) 3)) := by
  obtain ⟨i, hi, hz0, hz1, hz2⟩ := info_parts infoInt
  have := run_make (P := Tryd.prog) w 32 3 i (.int .i64 0) Tryd.underlying32 hi hz0 .i64 .i64 0 (d : Int) (by omega) (by omega) (by rw [hz2]; omega) (by omega)
  rw [hz1, show ((d : Int)).toNat = d by omega, Nat.mul_one] at this
  exact this
/-- The list, then noughts. -/
def pad (l : List Nat) (d : Nat) : List Nat := l ++ List.replicate (d - l.length) 0
theorem pad_set (l : List Nat) (d p : Nat) (h : l.length < d) : (intsV (pad l d)).set l.length (.int .i64 (p : Nat)) = intsV (pad (l ++ [p]) d) := by
  unfold pad
  obtain ⟨m, hm⟩ : ∃ m, d - l.length = m + 1 := ⟨d - l.length - 1, by omega⟩
  rw [hm, List.length_append, List.length_singleton, show d - (l.length + 1) = m by omega, List.replicate_succ]
  simp [intsV, List.set_append_right]
theorem pad_at (l : List Nat) (d : Nat) (h : l.length < d) : (intsV (pad l d))[l.length]? = some (.int .i64 0) := by
  unfold pad
  obtain ⟨m, hm⟩ : ∃ m, d - l.length = m + 1 := ⟨d - l.length - 1, by omega⟩
  rw [hm, List.replicate_succ]
  simp [intsV]

set_option maxRecDepth 100000 in
set_option maxHeartbeats 1000000 in
theorem firstLeft_any (d s : Nat) (lost : List Int) (lv : Value) (w : World) (hl : IsC w lv lost) (hd : 1 ≤ d) (hd2 : d ≤ 10) (hs : s ≤ 6) (hfew : lost.length ≤ s) :
    Calls Tryd.prog 55 #[.int .i64 d, lv] w fun e w' => ∃ b, w.heap.size ≤ b ∧ e = .returned (.slice (some ⟨b, 0, none⟩) d d) ∧ Blk w' b 3 (intsV (chosen (left_ lost) d s)) ∧ Below w.heap.size w w' := by
  have HL : Hid (IsC w lv lost) := hl
  have HEN : Hid (d ≤ ((List.range (d + s)).filter (left_ lost)).length) := enough d s lost hfew
  have hmk := fun w => make_none d (by omega) w
  clear hl
  go_enter Tryd.func55, Tryd.ntmps55
  go_wp2
  go_loopw [5, 6] (fun t i wr => ∃ p k : Nat, p ≤ d + s ∧ i = .int .i64 p ∧ t = .slice (some ⟨w.heap.size, 0, none⟩) k d ∧ k = ((List.range p).filter (left_ lost)).length ∧ k ≤ d ∧ Blk wr w.heap.size 3 (intsV (pad ((List.range p).filter (left_ lost)) d)) ∧ Below w.heap.size w wr) (fun _ i _ => d + s - (intOf i).toNat)
  case atStart =>
    refine ⟨0, 0, Nat.zero_le _, rfl, rfl, rfl, Nat.zero_le _, (Blk.new w _ _).eq ?_, (Below.refl _ _).alloc (Nat.le_refl _) _⟩
    rw [toList_madeCells_one]; simp [intsV, pad]
  case round =>
    obtain ⟨p, k, hp, rfl, rfl, hk, hkd, hblk, hbel⟩ := hrel
    by_cases hlt : k < d
    · have hps : p < d + s := by
        apply Classical.byContradiction
        intro hc
        have : p = d + s := by omega
        have := HEN.out
        subst p
        omega
      have HIC : Hid (IsC wr lv lost) := HL.out.to hbel
      have hlb : lost.length < 2 ^ 62 := by omega
      by_cases hm : (p : Int) ∈ lost
      · have HD : Hid (decide ((p : Int) ∈ lost) = true) := decide_eq_true hm
        have hle : left_ lost p = false := by simp [left_, hm]
        have HF : Hid ((List.range (p + 1)).filter (left_ lost) = (List.range p).filter (left_ lost)) := by
          show _ = _
          rw [filter_next, hle]; simp
        have HK : Hid (k = ((List.range p).filter (left_ lost)).length) := hk
        have HB : Hid (Blk wr w.heap.size 3 (intsV (pad ((List.range p).filter (left_ lost)) d))) := hblk
        clear hk hblk hm hle
        go_wp2_with (go_at_call 57; refine (contains_any lost p lv _ HIC.out hlb).mono ?_; rintro e w' ⟨rfl, rfl⟩; rw [HD.out])
        go_roundw
        case rel => exact ⟨p + 1, k, by omega, by go_num, rfl, by rw [HF.out]; exact HK.out, hkd, by rw [HF.out]; exact HB.out, hbel⟩
        case measure => simp [intOf]; omega
      · have HD : Hid (decide ((p : Int) ∈ lost) = false) := decide_eq_false hm
        have hle : left_ lost p = true := by simp [left_, hm]
        have HF : Hid ((List.range (p + 1)).filter (left_ lost) = (List.range p).filter (left_ lost) ++ [p]) := by
          show _ = _
          rw [filter_next, hle]; simp
        have hc1 := hblk.cell_some (k := k) (by rw [hk]; exact pad_at _ d (by omega))
        have hf1 := hblk.free k
        have HK : Hid (k = ((List.range p).filter (left_ lost)).length) := hk
        have HB : Hid (Blk wr w.heap.size 3 (intsV (pad ((List.range p).filter (left_ lost)) d))) := hblk
        have hBlt := hblk.lt
        have HP : Hid ((intsV (pad ((List.range p).filter (left_ lost)) d)).set k (.int .i64 (p : Nat)) = intsV (pad ((List.range p).filter (left_ lost) ++ [p]) d)) := by
          show _ = _
          rw [hk]; exact pad_set _ d p (by omega)
        clear hk hblk hm hle
        go_wp2_with (go_at_call 57; refine (contains_any lost p lv _ HIC.out hlb).mono ?_; rintro e w' ⟨rfl, rfl⟩; rw [HD.out])
        go_roundw
        case rel => exact ⟨p + 1, k + 1, by omega, by go_num, rfl, by rw [HF.out, List.length_append, ← HK.out]; rfl, by omega, by rw [HF.out, ← HP.out]; exact (HB.out.set k _).alloc _, (hbel.setCell (Nat.le_refl _) _).alloc (by rw [size_setCell]; exact hbel.size) _⟩
        case measure => simp [intOf]; omega
    · obtain rfl : d = k := by omega
      have HC : Hid (chosen (left_ lost) d s = (List.range p).filter (left_ lost)) := chosen_of_full _ d s p hp hk.symm
      have HB : Hid (Blk wr w.heap.size 3 (intsV (chosen (left_ lost) d s))) := by
        have := hblk
        rw [pad, ← hk, Nat.sub_self, List.replicate_zero, List.append_nil, ← HC.out] at this
        exact this
      clear hk hblk
      go_wp2
      go_ret
      exact ⟨w.heap.size, Nat.le_refl _, rfl, HB.out, hbel⟩
end Go.Proofs.YtokmllopbfmadabDoor.Ref
