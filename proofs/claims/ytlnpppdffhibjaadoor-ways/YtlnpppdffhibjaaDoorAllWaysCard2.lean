import Derived.Test.YtlnpppdffhibjaaDoorAllWaysCard1
import Derived.Test.YtlnpppdffhibjaaDoorShaped
import Derived.Test.YtlnpppdffhibjaaDoorAppend
import Derived.Test.YtlnpppdffhibjaaDoorFactors
import Derived.Shelf.Bytes.SlJoin
import Derived.Test.YtlnpppdffhibjaaDoorGatherOk
import Derived.OwnWalk
import Derived.Test.YtlnpppdffhibjaaDoorByPlan
import Derived.Test.YtlnpppdffhibjaaDoorRefInts
import Derived.Test.YtlnpppdffhibjaaDoorPlanMem
import Derived.Laws.CopyOwn
import Derived.WalkSpells
import Derived.OpenShut
import Derived.Deep.Strs
import Derived.ChangeSlices
import Derived.SizedLaws
import Derived.Carry
import Derived.Test.YtlnpppdffhibjaaDoorCards
import Derived.Test.YtlnpppdffhibjaaDoorTie
import Derived.Deep.DeepHandedRow
import Derived.Lib.LaidTab
import Derived.LaidMore
import Derived.ChangeMaps5
namespace Go.Proofs.YtlnpppdffhibjaaDoor.Ref
open Go.RowKit Mem FieldWalks Tab ByTab Parts
open Gf (Bytes wide0 swapR scaleR takeR Wide)
open Plans (But rowF)

theorem infoU8 : (Tryd.prog.info? 5).map (fun i => (i.zero, i.size, i.bytes)) = some (some (.int .u8 0), 1, 1) := by kernel_rfl
theorem eql_nilB (a : Option Addr) (n c : Nat) (w : World) : (binOp .eql 93 (.slice a n c) (.slice none 0 0)).run Tryd.prog w = .ok (.bool a.isNone) w := Lib.run_eql_slice_nil w 93 5 a n c 0 0 Tryd.underlying93
theorem owns_blk {w : World} {base : Nat} {v : Value} {l : List Nat} (h : w.ownsRow base 5 1 v l.length (bytesV l)) (hl : 0 < l.length) : ∃ b c, v = .slice (some ⟨b, 0, none⟩) l.length c ∧ base ≤ b ∧ Row8 w b l := by
  obtain ⟨_, h2⟩ := h
  rcases h2 with ⟨_, h0⟩ | ⟨g, cap, cur, rfl, hg, hh, h3, h4, h5, ht⟩
  · omega
  · refine ⟨g, cap, rfl, hg, cur, (0, 0), hh, fun k hk => ?_, by omega, .inr rfl⟩
    rw [Nat.mul_one] at ht
    have : (cur.toList.take l.length)[k]? = some (.int .u8 (l[k] : Nat)) := by rw [ht]; exact bytesV_at hk
    rw [List.getElem?_take_of_lt hk] at this
    simpa using this

theorem table_below' {w w' : World} {B : Nat} (h : Table w) (hb : Below B w w') (hB : 0 < B) : Table w' := by
  intro k hk
  rw [hb.cell (p := ⟨0, k, none⟩) hB]; exact h k hk

set_option maxRecDepth 100000 in
set_option maxHeartbeats 1000000 in
theorem clone_any (l : List Nat) (n : Nat) (hn : n = l.length) (hl : 0 < l.length) (hl2 : l.length ≤ 1000) (b off c : Nat) (w : World) (hc : ∀ k, (h : k < l.length) → w.cell? ⟨b, off + k, none⟩ = some (.int .u8 (l[k] : Nat))) (hb : b < w.heap.size) :
    Calls Tryd.prog 105 #[.slice (some ⟨b, off, none⟩) n c] w fun e w' => ∃ b' c', e = .returned (.slice (some ⟨b', 0, none⟩) n c') ∧ w.heap.size ≤ b' ∧ Row8 w' b' l ∧ Below w.heap.size w w' := by
  subst hn
  have hnil := fun w => eql_nilB (some ⟨b, off, none⟩) l.length c w
  obtain ⟨i0, hi, hz0, hz1, hz2⟩ := info_parts infoU8
  have HI : Hid (Tryd.prog.info? 5 = some i0 ∧ i0.zero = some (.int .u8 0) ∧ i0.size = 1 ∧ i0.bytes = 1) := ⟨hi, hz0, hz1, hz2⟩
  have HW1 : Hid (Below w.heap.size w (w.alloc (.cells #[] 5))) := (Below.refl _ _).alloc (Nat.le_refl _) _
  have HOW : Hid ((w.alloc (.cells #[] 5)).ownsRow w.heap.size 5 1 (.slice (some ⟨w.heap.size, 0, none⟩) 0 0) 0 []) := World.ownsRow_lit w #[] 0 (Nat.le_refl _) (by unfold maxLen; omega) rfl
  have HSR : Hid (∀ j v, (bytesV l)[j]? = some v → (w.alloc (.cells #[] 5)).cell? ((⟨b, off, none⟩ : Addr).add j) = some v) := fun j v hv => by
    have hj : j < l.length := by have := (List.getElem?_eq_some_iff.1 hv).1; simpa using this
    rw [Addr.add_lit, HW1.out.cell (p := ⟨b, off + j, none⟩) hb, hc j hj, ← hv, bytesV_at hj]
  have HONE : Hid (∀ v ∈ bytesV l, v.oneCell' = true) := by intro v hv; simp [bytesV] at hv; obtain ⟨n, _, rfl⟩ := hv; rfl
  have HLL : Hid ((bytesV l).length = l.length * 1) := by show _ = _; simp
  clear hi hz0 hz1 hz2 hc
  go_enter Tryd.func105, Tryd.ntmps105
  go_wp2_with ((at_builtin; refine wpList_append_own _ rfl _ _ 93 rfl w.heap.size 5 i0 (.int .u8 0) 1 1 Tryd.underlying93 HI.out.1 HI.out.2.1 HI.out.2.2.1 HI.out.2.2.2 rfl (by decide) _ 0 [] rfl HOW.out ⟨b, off, none⟩ l.length c (bytesV l) rfl HLL.out HSR.out HONE.out (by unfold maxLen; omega) (by omega) (by simp) ?_); intro v' w2 hown2 hg2 _)
  have hb2 := below_grown HW1.out HOW.out hg2 (by simp) (Nat.le_refl _)
  rw [Nat.zero_add, List.nil_append] at hown2
  obtain ⟨b', c', rfl, hb', hr'⟩ := owns_blk hown2 hl
  have HR : Hid (Row8 w2 b' l) := hr'
  clear hown2 hg2 hr'
  go_wp2
  go_ret
  exact ⟨b', c', rfl, hb', HR.out, hb2⟩

/-- The first r rows of the list at B are there. -/
def Fill8 (w : World) (B n r : Nat) (rows : Nat → List Nat) : Prop := ∃ us : List Value, us.length = n ∧ Blk w B 93 us ∧ ∀ k, k < r → ∃ b c, us[k]? = some (.slice (some ⟨b, 0, none⟩) (rows k).length c) ∧ Row8 w b (rows k)
theorem Fill8.start {w : World} {B n : Nat} {us : List Value} (h : Blk w B 93 us) (hl : us.length = n) (rows : Nat → List Nat) : Fill8 w B n 0 rows := ⟨us, hl, h, fun k hk => by omega⟩
theorem Fill8.to {w w' : World} {B n r : Nat} {rows : Nat → List Nat} (h : Fill8 w B n r rows) (hb : Below w.heap.size w w') : Fill8 w' B n r rows := by
  obtain ⟨us, h1, h2, h3⟩ := h
  refine ⟨us, h1, h2.to hb, fun k hk => ?_⟩
  obtain ⟨b, c, h4, h5⟩ := h3 k hk
  exact ⟨b, c, h4, h5.to hb⟩
theorem Fill8.cell {w : World} {B n r : Nat} {rows : Nat → List Nat} (h : Fill8 w B n r rows) (k : Nat) (hk : k < n) : (∃ v, w.cell? ⟨B, k, none⟩ = some v) ∧ w.frozen? ⟨B, k, none⟩ = false ∧ B < w.heap.size := by
  obtain ⟨us, h1, h2, h3⟩ := h
  exact ⟨⟨us[k]'(by omega), h2.cell_some (by simp [show k < us.length by omega])⟩, h2.free k, h2.lt⟩
theorem Fill8.step {w : World} {B n r b c m : Nat} {rows : Nat → List Nat} (h : Fill8 w B n r rows) (hr : r < n) (hb : Row8 w b (rows r)) (hm : m = (rows r).length) : Fill8 (w.setCell ⟨B, r, none⟩ (.slice (some ⟨b, 0, none⟩) m c)) B n (r + 1) rows := by
  obtain ⟨us, h1, h2, h3⟩ := h
  subst hm
  refine ⟨us.set r _, by simpa using h1, h2.set r _, fun k hk => ?_⟩
  by_cases e : k = r
  · subst e
    exact ⟨b, c, by simp [show k < us.length by omega], hb.other (a := ⟨B, k, none⟩) (hb.type_ne h2 (by decide)) _⟩
  · obtain ⟨b', c', h4, h5⟩ := h3 k (by omega)
    exact ⟨b', c', by rw [List.getElem?_set_ne (by omega)]; exact h4, h5.other (a := ⟨B, r, none⟩) (h5.type_ne h2 (by decide)) _⟩
theorem Fill8.rows {w : World} {B n : Nat} {rows : Nat → List Nat} (h : Fill8 w B n n rows) (ls : List (List Nat)) (hl : ls.length = n) (he : ∀ k, (h : k < ls.length) → ls[k] = rows k) : RowsAt w (.slice (some ⟨B, 0, none⟩) n n) ls := by
  obtain ⟨us, h1, h2, h3⟩ := h
  refine ⟨_, n, by rw [hl], .inr ⟨B, 0, rfl, h2.lt, fun k hk => ?_⟩⟩
  obtain ⟨b, c, h4, h5⟩ := h3 k (by omega)
  exact ⟨_, by rw [Nat.zero_add]; exact h2.cell_some h4, by rw [he k hk]; exact h5.bs _ _ rfl⟩
/-- Reading a row of the list, with its room. -/
theorem Outs.at {base : Nat} {w : World} {g n L : Nat} {rows : Nat → List Nat} {bs : List Nat} {us : List Value} (h : OutAt w g n L bs us rows) (hcap : ∀ q, (h : q < bs.length) → us[q]? = some (.slice (some ⟨bs[q], 0, none⟩) L L)) (p : Nat) (hp : p < n) (hl : ∀ b, b ∈ bs → base ≤ b) :
    ∃ b, ∃ hb : p < bs.length, bs[p] = b ∧ w.cell? ⟨g, p, none⟩ = some (.slice (some ⟨b, 0, none⟩) L L) ∧ Row8 w b (rows p) ∧ g ≠ b ∧ base ≤ b := by
  have hlen := h.len
  have hpb : p < bs.length := by omega
  exact ⟨bs[p], hpb, rfl, h.list.cell_some (hcap p hpb), h.row p hpb, Ne.symm ((h.row p hpb).type_ne h.list (by decide)), hl _ (List.getElem_mem _)⟩

set_option maxRecDepth 100000 in
set_option maxHeartbeats 4000000 in
theorem inverse_any (d : Nat) (A : Nat → Nat → Nat) (rows : List (List Nat)) (rv : Value) (w : World) (ht : Table w) (hd : 1 ≤ d) (hd2 : d ≤ 10) (hlr : rows.length = d) (hrow : ∀ n, (h : n < rows.length) → rows[n] = rowF d (A n)) (hr : RowsAt w rv rows)
    (hA : ∀ n, n < d → ∀ k, k < d → A n k < 256) (hker : ∀ x : Nat → Nat, (∀ k, x k < 256) → (∀ r, r < d → Gf.dot d (A r) x = 0) → ∀ k, k < d → x k = 0) :
    Calls Tryd.prog 90 #[rv] w fun e w' => ∃ v M, e = .returned v ∧ Wide d d A M ∧ RowsAt w' v ((List.range d).map fun r => rowF d (fun n => M r (d + n))) ∧ Below w.heap.size w w' := by
  have HA : Hid (∀ n, n < d → ∀ k, k < d → A n k < 256) := hA
  have HT : Hid (Table w) := ht
  have hw0 : 0 < w.heap.size := block_lt_of_cell (ht 0 (by decide))
  have HWU := withUnits_any d A rows rv w hd hd2 hlr hrow hr
  have HW0 : Hid (Wide d 0 A (wide0 d A)) := Wide.start d A hA hker
  obtain ⟨rao, rcap, rfl, _⟩ := hr
  rw [hlr] at HWU ⊢
  obtain ⟨D, hD⟩ : ∃ D, D = 2 * d := ⟨_, rfl⟩
  rw [← hD] at HWU
  have HWUH : Hid (Calls Tryd.prog 101 #[.slice rao d rcap] w fun e w' => ∃ g, w.heap.size ≤ g ∧ e = .returned (.slice (some ⟨g, 0, none⟩) d d) ∧ Outs w.heap.size w' g d D (fun r => rowF D (wide0 d A r)) ∧ Below w.heap.size w w') := HWU
  have HDD : Hid (D = 2 * d) := hD
  have hD1 : D ≤ 20 := by omega
  have hD2 : 2 * d ≤ D := by omega
  have hD3 : D ≤ 2 * d := by omega
  have hmk := fun w => make_rows d (by omega) w
  clear HWU hD hlr hrow hA hker ht
  go_enter Tryd.func90, Tryd.ntmps90
  go_wp2_with fail
  refine Calls.mono HWUH.out ?_
  rintro e w1 ⟨g, hg, rfl, hout1, hb1⟩
  have HO1 : Hid (Outs w.heap.size w1 g d D (fun r => rowF D (wide0 d A r))) := hout1
  have HB1 : Hid (Below w.heap.size w w1) := hb1
  clear hout1 hb1 HWUH
  go_wp2
  go_loopw [13] (fun i wr => ∃ (c : Nat) (M : Nat → Nat → Nat), c ≤ d ∧ i = .int .i64 c ∧ Wide d c A M ∧ Outs w.heap.size wr g d D (fun q => rowF D (M q)) ∧ Below w.heap.size w wr) (fun i _ => d - (intOf i).toNat)
  case atStart => exact ⟨0, wide0 d A, Nat.zero_le _, rfl, HW0.out, HO1.out, HB1.out⟩
  case round =>
    clear HO1 HB1 HW0
    obtain ⟨c, M, hc, rfl, hwide, hout, hbel⟩ := hrel
    by_cases hcd : c < d
    · have HBR := bringUp_any w.heap.size g d D c d M wr (by omega) (by omega) hcd (by omega) hg hout (hwide.pivot hcd)
      have HWI : Hid (Wide d c A M) := hwide
      have HBL : Hid (Below w.heap.size w wr) := hbel
      clear hwide hout hbel
      go_wp2_with fail
      refine Calls.mono HBR ?_
      rintro e w2 ⟨rfl, p, hcp, hpd, hpiv, hout2, hb2⟩
      have hb02 := HBL.out.trans hb2
      have HW2 : Hid (Wide d c A (swapR M c p)) := HWI.out.swap hcd hcp hpd
      have hM1 : swapR M c p c = M p := by simp [swapR]
      obtain ⟨bs, us, hoa, hlow, hcap⟩ := hout2
      obtain ⟨b1, hb1l, hb1e, l1, hrw, hgb1, hb1b⟩ := Outs.at hoa hcap c hcd hlow
      have HOA : Hid (OutAt w2 g d D bs us (fun q => rowF D (swapR M c p q))) := hoa
      have HLOW : Hid (∀ b, b ∈ bs → w.heap.size ≤ b) := hlow
      have HCAP : Hid (∀ q, (h : q < bs.length) → us[q]? = some (.slice (some ⟨bs[q], 0, none⟩) D D)) := hcap
      have HB1E : Hid (bs[c]'hb1l = b1) := hb1e
      obtain ⟨x, hx⟩ : ∃ x, x = swapR M c p c c := ⟨_, rfl⟩
      have hx0 : x ≠ 0 := by rw [hx, hM1]; exact hpiv
      have hxb : x < 256 := by rw [hx]; exact HW2.out.byte c hcd c (by omega)
      have cx := hrw.cell c (by simp; omega)
      rw [show (rowF D (swapR M c p c))[c]'(by simp; omega) = x by simp [rowF, hx]] at cx
      have HX : Hid (x = swapR M c p c c) := hx
      have HX0 : Hid (swapR M c p c c ≠ 0) := by rw [← hx]; exact hx0
      have HBY : Hid (∀ k, k < D → swapR M c p c k < 256) := fun k hk => HW2.out.byte c hcd k (by omega)
      have hfb : Gf.inv x < 256 := Gf.inv_lt x hxb
      have hb10 : b1 ≠ 0 := by omega
      have hglt := hoa.list.lt
      have HT2 : Hid (Table w2) := table_below' HT.out hb02 hw0
      have HRW : Hid (Row8 w2.drew b1 (rowF D (swapR M c p c))) := hrw.to (Below.refl _ _).drew
      have HS : Hid (w2.drew.cell? ⟨g, c, none⟩ = some (.slice (some ⟨b1, 0, none⟩) D D)) := l1
      have HB02 : Hid (Below w.heap.size w w2) := hb02
      have i1 : (c : Int) < (D : Int) := by omega
      clear hb2 hpiv hoa hlow hcap hb1e hx hx0 hrw hM1 HBR HWI HBL hb02
      go_wp2_with fail
      refine wp_region_held (S := fun wx => wx.cell? ⟨g, c, none⟩ = some (.slice (some ⟨b1, 0, none⟩) D D)) rfl ?_
      refine wpAnyH_take (i := 0) (v := (.slice (some ⟨g, 0, none⟩) d d)) rfl (by kernel_rfl) (by kernel_rfl) (by kernel_rfl) (fun _ _ _ h => h) (Or.inl ⟨by rfl, fun w hw => by go_simp⟩) HS.out ?_
      refine wpAnyH_take (i := 1) (v := (.int .i64 (c : Int))) rfl (by kernel_rfl) (by kernel_rfl) (by kernel_rfl) (fun _ _ _ h => h) (Or.inl ⟨by rfl, fun w hw => by go_simp⟩) HS.out ?_
      refine wpAnyH_take (i := 2) (v := (.pointer (some ⟨g, c, none⟩))) rfl (by kernel_rfl) (by kernel_rfl) (by kernel_rfl) (fun _ _ _ h => h) (Or.inl ⟨by rfl, fun w hw => by go_simp⟩) HS.out ?_
      refine wpAnyH_take (i := 3) (v := (.slice (some ⟨b1, 0, none⟩) D D)) rfl (by kernel_rfl) (by kernel_rfl) (by kernel_rfl) (fun _ _ _ h => h) (Or.inl ⟨by rfl, fun w hw => by go_simp⟩) HS.out ?_
      refine wpAnyH_take (i := 4) (v := (.slice (some ⟨g, 0, none⟩) d d)) rfl (by kernel_rfl) (by kernel_rfl) (by kernel_rfl) (fun _ _ _ h => h) (Or.inl ⟨by rfl, fun w hw => by go_simp⟩) HS.out ?_
      simp only [Act.put]
      refine wpAnyH_take (i := 5) (v := (.int .i64 (c : Int))) rfl (by kernel_rfl) (by kernel_rfl) (by kernel_rfl) (fun _ _ _ h => h) (Or.inl ⟨by rfl, fun w hw => by go_simp⟩) HS.out ?_
      refine wpAnyH_take (i := 6) (v := (.pointer (some ⟨g, c, none⟩))) rfl (by kernel_rfl) (by kernel_rfl) (by kernel_rfl) (fun _ _ _ h => h) (Or.inl ⟨by rfl, fun w hw => by go_simp⟩) HS.out ?_
      refine wpAnyH_take (i := 7) (v := (.slice (some ⟨b1, 0, none⟩) D D)) rfl (by kernel_rfl) (by kernel_rfl) (by kernel_rfl) (fun _ _ _ h => h) (Or.inl ⟨by rfl, fun w hw => by go_simp⟩) HS.out ?_
      refine wpAnyH_take (i := 8) (v := (.int .i64 (c : Int))) rfl (by kernel_rfl) (by kernel_rfl) (by kernel_rfl) (fun _ _ _ h => h) (Or.inl ⟨by rfl, fun w hw => by go_simp⟩) HS.out ?_
      refine wpAnyH_take (i := 9) (v := (.pointer (some ⟨b1, c, none⟩))) rfl (by kernel_rfl) (by kernel_rfl) (by kernel_rfl) (fun _ _ _ h => h) (Or.inl ⟨by rfl, fun w hw => by go_simp⟩) HS.out ?_
      simp only [Act.put, List.setIfInBounds_toArray]
      refine wpAnyH_ready (rs := [10]) (by kernel_rfl) (by simp) ?_
      refine AllReadyH.cons rfl (fun K hK => ?_) AllReadyH.nil
      go_simp
      refine hK.out _ _ HS.out (fun _ => ?_)
      clear hK K
      refine wpAnyH_ready (rs := [11]) (by kernel_rfl) (by simp) ?_
      refine AllReadyH.cons rfl (fun K hK => ?_) AllReadyH.nil
      go_simp
      refine (inv_any x hxb _ (by exact HT2.out)).mono ?_
      rintro e w' ⟨rfl, rfl⟩
      dsimp only
      refine hK.out _ _ HS.out (fun _ => ?_)
      clear hK K
      refine wpAnyH_ready (rs := [12]) (by kernel_rfl) (by simp) ?_
      refine AllReadyH.cons rfl (fun K hK => ?_) AllReadyH.nil
      go_simp
      refine (scale_any D (swapR M c p c) (Gf.inv x) b1 D (by omega) HBY.out hfb hb10 _ (by exact HT2.out) HRW.out).mono ?_
      rintro e w3 ⟨rfl, hr3, hbut3⟩
      dsimp only
      refine hK.out _ _ (by rw [hbut3.cell (p := ⟨g, c, none⟩) hgb1 hglt]; exact HS.out) (fun _ => ?_)
      clear hK K
      refine wpAnyH_done (by kernel_rfl) ?_ _
      obtain ⟨M2, hM2⟩ : ∃ M2, M2 = scaleR (swapR M c p) c (Gf.inv (swapR M c p c c)) := ⟨_, rfl⟩
      have HW3 : Hid (Wide d c A M2 ∧ M2 c c = 1) := by rw [hM2]; exact HW2.out.scale hcd HA.out HX0.out
      have HO3 : Hid (Outs w.heap.size w3 g d D (fun q => rowF D (M2 q))) := by
        have h1 := OutAt.but (HOA.out.to (Below.refl _ _).drew) c hb1l (rowF D fun k => Gf.times (swapR M c p c k) (Gf.inv x)) (by rw [HB1E.out]; exact hbut3) (by rw [HB1E.out]; exact hr3) (by simp)
        refine ⟨bs, us, h1.congr fun q hq => ?_, HLOW.out, HCAP.out⟩
        rw [hM2]
        by_cases e : q = c
        · subst e
          rw [if_pos rfl]
          exact Plans.rowF_congr fun k _ => by simp [scaleR, HX.out]
        · rw [if_neg e]
          exact Plans.rowF_congr fun k _ => by simp [scaleR, e]
      have HB3 : Hid (Below w.heap.size w w3) := hbut3.below HB02.out.drew hb1b (by exact HB02.out.size)
      clear hM2 hr3 hbut3 HOA HLOW HCAP HB1E HX HX0 HBY HRW HS HB02 HT2 HW2 l1 cx hglt hgb1 hb1b hfb hb10 hxb hb1l
      go_wp2
      go_loopw [34] (fun i wq => ∃ q : Nat, q ≤ d ∧ i = .int .i64 q ∧ Outs w.heap.size wq g d D (fun p => rowF D (if p < q then takeR M2 c p else M2 p)) ∧ Below w.heap.size w wq) (fun i _ => d - (intOf i).toNat)
      case atStart => exact ⟨0, Nat.zero_le _, rfl, HO3.out.congr fun p _ => by simp, HB3.out⟩
      case round =>
        clear HO3 HB3
        obtain ⟨q, hq, rfl, hout4, hb4⟩ := hrel
        by_cases hqd : q < d
        · by_cases eqc : q = c
          · have e0 : ((q : Int) != (c : Int)) = false := by simp; omega
            have HO5 : Hid (Outs w.heap.size wr g d D (fun p => rowF D (if p < q + 1 then takeR M2 c p else M2 p))) := hout4.congr fun p hp => by
              by_cases e1 : p < q
              · rw [if_pos (by omega), if_pos e1]
              · rw [if_neg e1]
                by_cases e2 : p = q
                · rw [if_pos (by omega), e2, eqc]
                  exact Plans.rowF_congr fun k _ => by simp [takeR]
                · rw [if_neg (by omega)]
            have HB5 : Hid (Below w.heap.size w wr) := hb4
            clear hout4 hb4 eqc
            go_wp2
            go_roundw
            case rel => exact ⟨q + 1, by omega, by go_num, HO5.out, HB5.out⟩
            case measure => simp [intOf]; omega
          · have e0 : ((q : Int) != (c : Int)) = true := by simp; omega
            have e0' : ¬ (q : Int) = (c : Int) := by omega
            obtain ⟨bs, us, hoa, hlow, hcap⟩ := hout4
            obtain ⟨b2, hb2l, hb2e, l2, hrw2, hgb2, hb2b⟩ := Outs.at hoa hcap q hqd hlow
            obtain ⟨b3, hb3l, hb3e, l3, hrw3, hgb3, hb3b⟩ := Outs.at hoa hcap c hcd hlow
            rw [if_neg (by omega)] at hrw2
            have hcrow : (if c < q then takeR M2 c c else M2 c) = M2 c := by
              split
              · funext k; simp [takeR]
              · rfl
            rw [hcrow] at hrw3
            have hb23 : b2 ≠ b3 := by
              intro e
              have hnd := hoa.nodup
              rw [List.Nodup, List.pairwise_iff_getElem] at hnd
              rw [← hb2e, ← hb3e] at e
              rcases Nat.lt_or_gt_of_ne eqc with hlt | hlt
              · exact hnd q c hb2l hb3l hlt e
              · exact hnd c q hb3l hb2l hlt e.symm
            obtain ⟨y, hy⟩ : ∃ y, y = M2 q c := ⟨_, rfl⟩
            have hyb : y < 256 := by rw [hy]; exact HW3.out.1.byte q hqd c (by omega)
            have cy := hrw2.cell c (by simp; omega)
            rw [show (rowF D (M2 q))[c]'(by simp; omega) = y by simp [rowF, hy]] at cy
            have HY : Hid (y = M2 q c) := hy
            have HY1 : Hid (∀ k, k < D → M2 q k < 256) := fun k hk => HW3.out.1.byte q hqd k (by omega)
            have HY2 : Hid (∀ k, k < D → M2 c k < 256) := fun k hk => HW3.out.1.byte c hcd k (by omega)
            have hb20 : b2 ≠ 0 := by omega
            have hglt2 := hoa.list.lt
            have HT4 : Hid (Table wr) := table_below' HT.out hb4 hw0
            have HRW2 : Hid (Row8 wr.drew b2 (rowF D (M2 q))) := hrw2.to (Below.refl _ _).drew
            have HRW3 : Hid (Row8 wr.drew b3 (rowF D (M2 c))) := hrw3.to (Below.refl _ _).drew
            have HS2 : Hid (wr.drew.cell? ⟨g, q, none⟩ = some (.slice (some ⟨b2, 0, none⟩) D D) ∧ wr.drew.cell? ⟨g, c, none⟩ = some (.slice (some ⟨b3, 0, none⟩) D D)) := ⟨l2, l3⟩
            have HOA : Hid (OutAt wr g d D bs us (fun p => rowF D (if p < q then takeR M2 c p else M2 p))) := hoa
            have HLOW : Hid (∀ b, b ∈ bs → w.heap.size ≤ b) := hlow
            have HCAP : Hid (∀ q, (h : q < bs.length) → us[q]? = some (.slice (some ⟨bs[q], 0, none⟩) D D)) := hcap
            have HB2E : Hid (bs[q]'hb2l = b2) := hb2e
            have HB4 : Hid (Below w.heap.size w wr) := hb4
            clear hoa hlow hcap hrw2 hrw3 hb2e hb3e hcrow hy hb4 hgb3 hb3b
            go_wp2_with fail
            refine wp_region_held (S := fun wx => wx.cell? ⟨g, q, none⟩ = some (.slice (some ⟨b2, 0, none⟩) D D) ∧ wx.cell? ⟨g, c, none⟩ = some (.slice (some ⟨b3, 0, none⟩) D D)) rfl ?_
            refine wpAnyH_take (i := 0) (v := (.slice (some ⟨g, 0, none⟩) d d)) rfl (by kernel_rfl) (by kernel_rfl) (by kernel_rfl) (fun _ _ _ h => h) (Or.inl ⟨by rfl, fun w hw => by go_simp⟩) HS2.out ?_
            refine wpAnyH_take (i := 1) (v := (.int .i64 (q : Int))) rfl (by kernel_rfl) (by kernel_rfl) (by kernel_rfl) (fun _ _ _ h => h) (Or.inl ⟨by rfl, fun w hw => by go_simp⟩) HS2.out ?_
            refine wpAnyH_take (i := 2) (v := (.pointer (some ⟨g, q, none⟩))) rfl (by kernel_rfl) (by kernel_rfl) (by kernel_rfl) (fun _ _ _ h => h) (Or.inl ⟨by rfl, fun w hw => by go_simp⟩) HS2.out ?_
            refine wpAnyH_take (i := 3) (v := (.slice (some ⟨b2, 0, none⟩) D D)) rfl (by kernel_rfl) (by kernel_rfl) (by kernel_rfl) (fun _ _ _ h => h) (Or.inl ⟨by rfl, fun w hw => by obtain ⟨t1, t2⟩ := hw; go_simp⟩) HS2.out ?_
            refine wpAnyH_take (i := 4) (v := (.slice (some ⟨g, 0, none⟩) d d)) rfl (by kernel_rfl) (by kernel_rfl) (by kernel_rfl) (fun _ _ _ h => h) (Or.inl ⟨by rfl, fun w hw => by go_simp⟩) HS2.out ?_
            simp only [Act.put]
            refine wpAnyH_take (i := 5) (v := (.int .i64 (q : Int))) rfl (by kernel_rfl) (by kernel_rfl) (by kernel_rfl) (fun _ _ _ h => h) (Or.inl ⟨by rfl, fun w hw => by go_simp⟩) HS2.out ?_
            refine wpAnyH_take (i := 6) (v := (.pointer (some ⟨g, q, none⟩))) rfl (by kernel_rfl) (by kernel_rfl) (by kernel_rfl) (fun _ _ _ h => h) (Or.inl ⟨by rfl, fun w hw => by go_simp⟩) HS2.out ?_
            refine wpAnyH_take (i := 7) (v := (.slice (some ⟨b2, 0, none⟩) D D)) rfl (by kernel_rfl) (by kernel_rfl) (by kernel_rfl) (fun _ _ _ h => h) (Or.inl ⟨by rfl, fun w hw => by obtain ⟨t1, t2⟩ := hw; go_simp⟩) HS2.out ?_
            refine wpAnyH_take (i := 8) (v := (.int .i64 (c : Int))) rfl (by kernel_rfl) (by kernel_rfl) (by kernel_rfl) (fun _ _ _ h => h) (Or.inl ⟨by rfl, fun w hw => by go_simp⟩) HS2.out ?_
            refine wpAnyH_take (i := 9) (v := (.pointer (some ⟨b2, c, none⟩))) rfl (by kernel_rfl) (by kernel_rfl) (by kernel_rfl) (fun _ _ _ h => h) (Or.inl ⟨by rfl, fun w hw => by go_simp⟩) HS2.out ?_
            simp only [Act.put, List.setIfInBounds_toArray]
            refine wpAnyH_take (i := 11) (v := (.slice (some ⟨g, 0, none⟩) d d)) rfl (by kernel_rfl) (by kernel_rfl) (by kernel_rfl) (fun _ _ _ h => h) (Or.inl ⟨by rfl, fun w hw => by go_simp⟩) HS2.out ?_
            refine wpAnyH_take (i := 12) (v := (.int .i64 (c : Int))) rfl (by kernel_rfl) (by kernel_rfl) (by kernel_rfl) (fun _ _ _ h => h) (Or.inl ⟨by rfl, fun w hw => by go_simp⟩) HS2.out ?_
            refine wpAnyH_take (i := 13) (v := (.pointer (some ⟨g, c, none⟩))) rfl (by kernel_rfl) (by kernel_rfl) (by kernel_rfl) (fun _ _ _ h => h) (Or.inl ⟨by rfl, fun w hw => by go_simp⟩) HS2.out ?_
            refine wpAnyH_take (i := 14) (v := (.slice (some ⟨b3, 0, none⟩) D D)) rfl (by kernel_rfl) (by kernel_rfl) (by kernel_rfl) (fun _ _ _ h => h) (Or.inl ⟨by rfl, fun w hw => by obtain ⟨t1, t2⟩ := hw; go_simp⟩) HS2.out ?_
            simp only [Act.put]
            refine wpAnyH_ready (rs := [10]) (by kernel_rfl) (by simp) ?_
            refine AllReadyH.cons rfl (fun K hK => ?_) AllReadyH.nil
            go_simp
            refine hK.out _ _ HS2.out (fun _ => ?_)
            clear hK K
            refine wpAnyH_ready (rs := [15]) (by kernel_rfl) (by simp) ?_
            refine AllReadyH.cons rfl (fun K hK => ?_) AllReadyH.nil
            go_simp
            refine (addTimes_any D (M2 q) (M2 c) y b2 D b3 D (by omega) HY1.out HY2.out hyb hb20 hb23 _ (by exact HT4.out) HRW2.out HRW3.out).mono ?_
            rintro e w5 ⟨rfl, hr5, hbut5⟩
            dsimp only
            refine hK.out _ _ ⟨by rw [hbut5.cell (p := ⟨g, q, none⟩) hgb2 hglt2]; exact HS2.out.1, by rw [hbut5.cell (p := ⟨g, c, none⟩) hgb2 hglt2]; exact HS2.out.2⟩ (fun _ => ?_)
            clear hK K
            refine wpAnyH_done (by kernel_rfl) ?_ _
            have HO5 : Hid (Outs w.heap.size w5 g d D (fun p => rowF D (if p < q + 1 then takeR M2 c p else M2 p))) := by
              have h1 := OutAt.but (HOA.out.to (Below.refl _ _).drew) q hb2l (rowF D fun k => M2 q k ^^^ Gf.times y (M2 c k)) (by rw [HB2E.out]; exact hbut5) (by rw [HB2E.out]; exact hr5) (by simp)
              refine ⟨bs, us, h1.congr fun p hp => ?_, HLOW.out, HCAP.out⟩
              by_cases e : p = q
              · subst e
                rw [if_pos rfl, if_pos (by omega)]
                exact Plans.rowF_congr fun k _ => by simp [takeR, eqc, HY.out]
              · rw [if_neg e]
                by_cases e1 : p < q
                · rw [if_pos (by omega), if_pos e1]
                · rw [if_neg (by omega), if_neg e1]
            have HB5 : Hid (Below w.heap.size w w5) := hbut5.below HB4.out.drew hb2b (by exact HB4.out.size)
            clear hr5 hbut5
            go_wp2
            go_roundw
            case rel => exact ⟨q + 1, by omega, by go_num, HO5.out, HB5.out⟩
            case measure => simp [intOf]; omega
        · obtain rfl : d = q := by omega
          have HO6 : Hid (Outs w.heap.size wr g d D (fun p => rowF D (takeR M2 c p))) := hout4.congr fun p hp => by rw [if_pos hp]
          have HB6 : Hid (Below w.heap.size w wr) := hb4
          have HW6 : Hid (Wide d (c + 1) A (takeR M2 c)) := HW3.out.1.take hcd HA.out HW3.out.2
          clear hout4 hb4
          go_wp2
          go_roundw
          case rel => exact ⟨c + 1, takeR M2 c, by omega, by go_num, HW6.out, HO6.out, HB6.out⟩
          case measure => simp [intOf]; omega
    · obtain rfl : d = c := by omega
      have HWF : Hid (Wide d d A M) := hwide
      obtain ⟨w7, rfl⟩ : ∃ w7, w7 = wr := ⟨_, rfl⟩
      have HO7 : Hid (Outs w.heap.size w7 g d D (fun q => rowF D (M q))) := hout
      have HB7 : Hid (Below w.heap.size w w7) := hbel
      clear hwide hout hbel
      have hDd : D - d = d := by omega
      go_wp2
      go_loopw [63] (fun i wq => ∃ r : Nat, r ≤ d ∧ i = .int .i64 r ∧ Fill8 wq w7.heap.size d r (fun r => rowF d (fun n => M r (d + n))) ∧ Below w7.heap.size w7 wq) (fun i _ => d - (intOf i).toNat)
      case atStart => exact ⟨0, Nat.zero_le _, rfl, Fill8.start ((Blk.new w7 _ _).eq (toList_madeCells_one _ d)) (by simp) _, (Below.refl _ _).alloc (Nat.le_refl _) _⟩
      case round =>
        obtain ⟨r, hr, rfl, hfill, hb8⟩ := hrel
        by_cases hrd : r < d
        · obtain ⟨bs, us, hoa, hlow, hcap⟩ := HO7.out.to hb8
          obtain ⟨b2, hb2l, hb2e, l2, hrw2, hgb2, hb2b⟩ := Outs.at hoa hcap r hrd hlow
          have HF : Hid (Fill8 wr w7.heap.size d r (fun r => rowF d (fun n => M r (d + n)))) := hfill
          have HB8 : Hid (Below w7.heap.size w7 wr) := hb8
          have HCL := clone_any (rowF d (fun n => M r (d + n))) d (by simp) (by simp; omega) (by simp; omega) b2 d d wr (fun k hk => by
            have hk' : k < d := by simpa using hk
            have := hrw2.cell (d + k) (by simp; omega)
            rw [this]; simp [rowF]) hrw2.lt
          have HCLH : Hid _ := HCL
          have hsz8 := hb8.size
          have hDi : (d : Int) ≤ (D : Int) := by omega
          clear hoa hlow hcap hb2e hrw2 hfill hb8 hgb2 hb2b HCL
          go_wp2_with fail
          refine Calls.mono HCLH.out ?_
          rintro e w9 ⟨b9, c9, rfl, hb9, hr9, hbw9⟩
          have HF9 : Hid (Fill8 w9 w7.heap.size d r (fun r => rowF d (fun n => M r (d + n)))) := HF.out.to hbw9
          obtain ⟨⟨ov, k1⟩, k2, k3⟩ := HF9.out.cell r hrd
          have HF10 : Hid (Fill8 (w9.setCell ⟨w7.heap.size, r, none⟩ (.slice (some ⟨b9, 0, none⟩) d c9)) w7.heap.size d (r + 1) (fun r => rowF d (fun n => M r (d + n)))) := HF9.out.step hrd hr9 (by simp)
          have HB9 : Hid (Below w7.heap.size w7 w9) := HB8.out.trans (hbw9.mono HB8.out.size)
          clear hr9 hbw9
          go_wp2
          go_roundw
          case rel => exact ⟨r + 1, by omega, by go_num, HF10.out, HB9.out.setCell (Nat.le_refl _) _⟩
          case measure => simp [intOf]; omega
        · obtain rfl : d = r := by omega
          have HRF : Hid (RowsAt wr (.slice (some ⟨w7.heap.size, 0, none⟩) d d) ((List.range d).map fun r => rowF d (fun n => M r (d + n)))) := hfill.rows _ (by simp) (fun k hk => by simp)
          have HB9 : Hid (Below w.heap.size w wr) := HB7.out.trans (hb8.mono HB7.out.size)
          clear hfill hb8
          go_wp2
          go_ret
          exact ⟨_, M, rfl, HWF.out, HRF.out, HB9.out⟩
end Go.Proofs.YtlnpppdffhibjaaDoor.Ref

namespace Go.Proofs.YtlnpppdffhibjaaDoor.Ref
open Go.RowKit Mem FieldWalks Tab ByTab Parts

set_option maxRecDepth 100000 in
theorem index_any (l : List Int) (n : Int) (v : Value) (w : World) (h : IsC w v l) (hl : l.length < 2 ^ 62) :
    Calls Tryd.prog 89 #[v, .int .i64 n] w fun e w' => ((∃ k : Nat, e = .returned (.int .i64 k) ∧ k < l.length ∧ n ∈ l) ∨ (e = .returned (.int .i64 (-1)) ∧ n ∉ l)) ∧ w' = w := by
  obtain ⟨ao, ex, rfl, hc⟩ := h
  have HC : Hid (l = [] ∨ ∃ b off, ao = some ⟨b, off, none⟩ ∧ b < w.heap.size ∧ ∀ k, (h : k < l.length) → w.cell? ⟨b, off + k, none⟩ = some (.int .i64 l[k])) := hc
  clear hc
  go_enter Tryd.func89, Tryd.ntmps89
  go_wp2
  go_loop [8] (fun i => ∃ k : Nat, k ≤ l.length ∧ i = .int .i64 k ∧ n ∉ l.take k) (fun i => l.length - (intOf i).toNat)
  case atStart => exact ⟨0, Nat.zero_le _, rfl, by simp⟩
  case round =>
    obtain ⟨k, hk, rfl, hn⟩ := hrel
    by_cases hlt : k < l.length
    · obtain ⟨b, off, rfl, hb, hc⟩ : ∃ b off, ao = some ⟨b, off, none⟩ ∧ b < w.heap.size ∧ ∀ k, (h : k < l.length) → w.cell? ⟨b, off + k, none⟩ = some (.int .i64 l[k]) := by
        rcases HC.out with h | h
        · rw [h] at hlt; simp at hlt
        · exact h
      have c1 := hc k hlt
      have HN : Hid (n ∉ l.take k) := hn
      clear hc hn
      by_cases e : l[k] = n
      · have HM : Hid (n ∈ l) := e ▸ List.getElem_mem hlt
        rw [e] at c1
        clear e
        go_wp2
        go_ret
        exact ⟨.inl ⟨k, rfl, hlt, HM.out⟩, rfl⟩
      · have HX : Hid (n ∉ l.take (k + 1)) := not_take_next HN.out hlt e
        have he : (n == l[k]) = false := by simp; exact fun h => e h.symm
        generalize l[k] = x at c1 he
        clear e
        go_wp2
        go_round
        case rel => exact ⟨k + 1, by omega, by go_num, HX.out⟩
        case measure => simp [intOf]; omega
    · obtain rfl : k = l.length := by omega
      rw [List.take_length] at hn
      have HN : Hid (n ∉ l) := hn
      clear hn
      go_wp2
      go_ret
      exact ⟨.inr ⟨rfl, HN.out⟩, rfl⟩

set_option maxRecDepth 100000 in
theorem contains_any (l : List Int) (n : Int) (v : Value) (w : World) (h : IsC w v l) (hl : l.length < 2 ^ 62) :
    Calls Tryd.prog 78 #[v, .int .i64 n] w fun e w' => e = .returned (.bool (decide (n ∈ l))) ∧ w' = w := by
  go_enter Tryd.func78, Tryd.ntmps78
  go_wp2_with fail
  refine (index_any l n v w h hl).mono ?_
  rintro e w' ⟨h1, rfl⟩
  rcases h1 with ⟨k, rfl, hk, hm⟩ | ⟨rfl, hm⟩
  · have hd : decide (n ∈ l) = true := by simp [hm]
    have HD : Hid (decide (n ∈ l) = true) := hd
    clear hd hm
    go_wp2
    go_ret
    exact ⟨by rw [HD.out]; rfl, rfl⟩
  · have hd : decide (n ∈ l) = false := by simp [hm]
    have HD : Hid (decide (n ∈ l) = false) := hd
    clear hd hm
    go_wp2
    go_ret
    exact ⟨by rw [HD.out]; rfl, rfl⟩

def okSize (n : Int) : Bool := decide (0 ≤ n ∧ n ≤ 400)
theorem okSize_yes (n : Int) (h : 0 ≤ n ∧ n ≤ 400) : okSize n = true := by simp [okSize]; omega
theorem okSize_no (n : Int) (h : ¬ (0 ≤ n ∧ n ≤ 400)) : okSize n = false := by simp [okSize]; omega
theorem isSize_any (n : Int) (w : World) : Calls Tryd.prog 64 #[.int .i64 n] w fun e w' => e = .returned (.bool (okSize n)) ∧ w' = w := by
  by_cases h1 : 0 ≤ n
  · by_cases h2 : n ≤ 400
    · rw [okSize_yes n ⟨h1, h2⟩]
      go_enter Tryd.func64, Tryd.ntmps64
      go_wp2
      go_ret
      exact ⟨rfl, rfl⟩
    · rw [okSize_no n (by omega)]
      go_enter Tryd.func64, Tryd.ntmps64
      go_wp2
      go_ret
      exact ⟨rfl, rfl⟩
  · rw [okSize_no n (by omega)]
    go_enter Tryd.func64, Tryd.ntmps64
    go_wp2
    go_ret
    exact ⟨rfl, rfl⟩

def okWithin (n at_ : Int) (m : Nat) : Bool := decide (0 ≤ at_ ∧ at_ + m ≤ n)
theorem isWithin_any (n : Nat) (hn : n ≤ 400) (at_ : Int) (h2 : at_ ≤ 9223372036854775807) (text : ByteArray) (hlen : text.size ≤ maxLen) (w : World) :
    Calls Tryd.prog 71 #[.int .i64 n, .int .i64 at_, .string text] w fun e w' => e = .returned (.bool (okWithin n at_ text.size)) ∧ w' = w := by
  unfold maxLen at hlen
  by_cases h1 : 0 ≤ at_
  · by_cases h3 : (text.size : Int) ≤ n - at_
    · have : okWithin n at_ text.size = true := by simp [okWithin]; omega
      rw [this]
      go_enter Tryd.func71, Tryd.ntmps71
      go_wp2
      go_ret
      exact ⟨rfl, rfl⟩
    · have : okWithin n at_ text.size = false := by simp [okWithin]; omega
      rw [this]
      go_enter Tryd.func71, Tryd.ntmps71
      go_wp2
      go_ret
      exact ⟨rfl, rfl⟩
  · have : okWithin n at_ text.size = false := by simp [okWithin]; omega
    rw [this]
    go_enter Tryd.func71, Tryd.ntmps71
    go_wp2
    go_ret
    exact ⟨rfl, rfl⟩

def NumsOk (N : Nat) (lost : List Int) : Prop := ∀ k, (h : k < lost.length) → 0 ≤ lost[k] ∧ lost[k] < (N : Int) ∧ lost[k] ∉ lost.take k
def NumsOkTo (N : Nat) (lost : List Int) (m : Nat) : Prop := ∀ k, (h : k < lost.length) → k < m → 0 ≤ lost[k] ∧ lost[k] < (N : Int) ∧ lost[k] ∉ lost.take k
set_option maxRecDepth 100000 in
set_option maxHeartbeats 4000000 in
theorem areNumbers_any (N : Nat) (_hN : N ≤ 100) (lost : List Int) (lv : Value) (w : World) (hl : IsC w lv lost) (hll : lost.length < 2 ^ 62) :
    Calls Tryd.prog 65 #[lv, .int .i64 N] w fun e w' => Says (NumsOk N lost) e ∧ w' = w := by
  have HL : Hid (IsC w lv lost) := hl
  obtain ⟨lao, lex, rfl, hlc⟩ := hl
  have HLC : Hid (lost = [] ∨ ∃ b off, lao = some ⟨b, off, none⟩ ∧ b < w.heap.size ∧ ∀ k, (h : k < lost.length) → w.cell? ⟨b, off + k, none⟩ = some (.int .i64 lost[k])) := hlc
  clear hlc
  go_enter Tryd.func65, Tryd.ntmps65
  go_wp2
  go_loop [9] (fun i => ∃ k : Nat, k ≤ lost.length ∧ i = .int .i64 k ∧ NumsOkTo N lost k) (fun i => lost.length - (intOf i).toNat)
  case atStart => exact ⟨0, Nat.zero_le _, rfl, fun j _ hj => by omega⟩
  case round =>
    obtain ⟨k, hk, rfl, hdone⟩ := hrel
    by_cases hlt : k < lost.length
    · obtain ⟨b, off, rfl, hb, hc⟩ : ∃ b off, lao = some ⟨b, off, none⟩ ∧ b < w.heap.size ∧ ∀ k, (h : k < lost.length) → w.cell? ⟨b, off + k, none⟩ = some (.int .i64 lost[k]) := by
        rcases HLC.out with h | h
        · rw [h] at hlt; simp at hlt
        · exact h
      have c1 := hc k hlt
      have HD : Hid (NumsOkTo N lost k) := hdone
      have HT : Hid (IsC w (.slice (some ⟨b, off, none⟩) k (lost.length + lex)) (lost.take k)) := HL.out.take (by omega)
      have HLK : Hid ((lost.take k).length < 2 ^ 62) := by show _ < _; rw [List.length_take]; omega
      obtain ⟨x, hx⟩ : ∃ x, x = lost[k] := ⟨_, rfl⟩
      rw [← hx] at c1
      have HX : Hid (x = lost[k]) := hx
      clear hx hc hdone
      by_cases h0 : 0 ≤ x
      · by_cases h1 : x < (N : Int)
        · by_cases h2 : x ∈ lost.take k
          · have hd2 : decide (x ∈ lost.take k) = true := by simp [h2]
            have HM : Hid (x ∈ lost.take k) := h2
            have HD2 : Hid (decide (x ∈ lost.take k) = true) := hd2
            clear h2 hd2
            go_wp2_with (go_at_call 78; refine (contains_any _ _ _ _ HT.out HLK.out).mono ?_; rintro e w' ⟨rfl, rfl⟩; rw [HD2.out])
            go_ret
            refine ⟨Says.no rfl fun h => ?_, rfl⟩
            have := (h k hlt).2.2
            rw [← HX.out] at this
            exact this HM.out
          · have hd2 : decide (x ∈ lost.take k) = false := by simp [h2]
            have HM : Hid (NumsOkTo N lost (k + 1)) := fun j hj hjk => by
              by_cases e : j = k
              · subst e; rw [← HX.out]; exact ⟨h0, h1, h2⟩
              · exact HD.out j hj (by omega)
            have HD2 : Hid (decide (x ∈ lost.take k) = false) := hd2
            clear h2 hd2
            go_wp2_with (go_at_call 78; refine (contains_any _ _ _ _ HT.out HLK.out).mono ?_; rintro e w' ⟨rfl, rfl⟩; rw [HD2.out])
            go_round
            case rel => exact ⟨k + 1, by omega, by go_num, HM.out⟩
            case measure => simp [intOf]; omega
        · have h1' : (N : Int) ≤ x := by omega
          go_wp2
          go_ret
          refine ⟨Says.no rfl fun h => ?_, rfl⟩
          have := (h k hlt).2.1
          rw [← HX.out] at this
          omega
      · have h0' : x < 0 := by omega
        go_wp2
        go_ret
        refine ⟨Says.no rfl fun h => ?_, rfl⟩
        have := (h k hlt).1
        rw [← HX.out] at this
        omega
    · obtain rfl : k = lost.length := by omega
      have HD : Hid (NumsOkTo N lost lost.length) := hdone
      clear hdone
      go_wp2
      go_ret
      exact ⟨Says.yes rfl fun j hj => HD.out j hj hj, rfl⟩

/-- The pieces that are not lost have L bytes. -/
def SizesOk (L : Nat) (pieces : List ByteArray) (lost : List Int) : Prop := ∀ p, (h : p < pieces.length) → (p : Int) ∉ lost → pieces[p].size = L
set_option maxRecDepth 100000 in
set_option maxHeartbeats 4000000 in
theorem goTogether_any (d s n L : Nat) (pieces : List ByteArray) (lost : List Int) (pv lv : Value) (w : World) (hp : StrsAt w pv pieces) (hl : IsC w lv lost) (hll : lost.length < 2 ^ 62) (hpl : pieces.length < 2 ^ 62)
    (hd : 1 ≤ d) (hd2 : d ≤ 10) (hs : s ≤ 6) (hn : n ≤ 400) (hL : L = (n + d - 1) / d) (hsz : ∀ p, (h : p < pieces.length) → pieces[p].size < 2 ^ 62) :
    Calls Tryd.prog 66 #[.int .i64 d, .int .i64 s, .int .i64 n, pv, lv] w fun e w' => Says (pieces.length = d + s ∧ SizesOk L pieces lost) e ∧ w' = w := by
  obtain ⟨pao, pcap, rfl, hpc⟩ := hp
  have HL : Hid (IsC w lv lost) := hl
  have HPC : Hid (pieces = [] ∨ ∃ b off, pao = some ⟨b, off, none⟩ ∧ b < w.heap.size ∧ ∀ k, (h : k < pieces.length) → w.cell? ⟨b, off + k, none⟩ = some (.string pieces[k])) := hpc
  have HSZ : Hid (∀ p, (h : p < pieces.length) → pieces[p].size < 2 ^ 62) := hsz
  have hLc : L ≤ 400 := by
    rw [hL]; exact Nat.le_trans (Nat.div_le_div_right (by omega : n + d - 1 ≤ n + d - 1)) (by
      have := ceil_le n d hd
      omega)
  clear hpc hsz hl
  by_cases hcnt : pieces.length = d + s
  · have hne : ((pieces.length : Int) != (d : Int) + (s : Int)) = false := by simp; omega
    have HCN : Hid (pieces.length = d + s) := hcnt
    clear hcnt
    go_enter Tryd.func66, Tryd.ntmps66
    go_wp2_with fail
    refine (length_any d n (by omega) (by omega) (by omega) w).mono ?_
    rintro e w' ⟨rfl, rfl⟩
    rw [← hL]
    clear hL
    go_wp2
    go_loop [25] (fun i => ∃ k : Nat, k ≤ pieces.length ∧ i = .int .i64 k ∧ SizesTo L pieces lost k) (fun i => pieces.length - (intOf i).toNat)
    case atStart => exact ⟨0, Nat.zero_le _, rfl, fun j _ hj => by omega⟩
    case round =>
      obtain ⟨k, hk, rfl, hdone⟩ := hrel
      by_cases hlt : k < pieces.length
      · obtain ⟨b, off, rfl, hb, hc⟩ : ∃ b off, pao = some ⟨b, off, none⟩ ∧ b < w'.heap.size ∧ ∀ k, (h : k < pieces.length) → w'.cell? ⟨b, off + k, none⟩ = some (.string pieces[k]) := by
          rcases HPC.out with h | h
          · rw [h] at hlt; simp at hlt
          · exact h
        have c1 := hc k hlt
        have HD : Hid (SizesTo L pieces lost k) := hdone
        have hz := HSZ.out k hlt
        clear hc hdone
        by_cases h0 : pieces[k].size = L
        · have HM : Hid (SizesTo L pieces lost (k + 1)) := fun j hj hjk hjl => by
            by_cases e : j = k
            · subst e; exact h0
            · exact HD.out j hj (by omega) hjl
          have h0' : ((pieces[k].size : Int) != (L : Int)) = false := by simp; omega
          clear h0
          generalize pieces[k] = pk at c1 h0' hz
          go_wp2
          go_round
          case rel => exact ⟨k + 1, by omega, by go_num, HM.out⟩
          case measure => simp [intOf]; omega
        · have h0' : ((pieces[k].size : Int) != (L : Int)) = true := by simp; omega
          by_cases h2 : ((k : Nat) : Int) ∈ lost
          · have HD2 : Hid (decide (((k : Nat) : Int) ∈ lost) = true) := decide_eq_true h2
            have HM : Hid (SizesTo L pieces lost (k + 1)) := fun j hj hjk hjl => by
              by_cases e : j = k
              · subst e; exact absurd h2 hjl
              · exact HD.out j hj (by omega) hjl
            clear h2 h0
            generalize pieces[k] = pk at c1 h0' hz
            go_wp2_with (go_at_call 78; refine (contains_any _ _ _ _ HL.out hll).mono ?_; rintro e w' ⟨rfl, rfl⟩; rw [HD2.out])
            go_round
            case rel => exact ⟨k + 1, by omega, by go_num, HM.out⟩
            case measure => simp [intOf]; omega
          · have HD2 : Hid (decide (((k : Nat) : Int) ∈ lost) = false) := decide_eq_false h2
            have HNO : Hid (¬ (pieces.length = d + s ∧ SizesOk L pieces lost)) := fun h => h0 (h.2 k hlt h2)
            clear h2 h0
            generalize pieces[k] = pk at c1 h0' hz
            go_wp2_with (go_at_call 78; refine (contains_any _ _ _ _ HL.out hll).mono ?_; rintro e w' ⟨rfl, rfl⟩; rw [HD2.out])
            go_ret
            exact ⟨Says.no rfl HNO.out, rfl⟩
      · obtain rfl : k = pieces.length := by omega
        have HD : Hid (SizesTo L pieces lost pieces.length) := hdone
        clear hdone
        go_wp2
        go_ret
        exact ⟨Says.yes rfl ⟨HCN.out, fun j hj hjl => HD.out j hj hj hjl⟩, rfl⟩
  · have hne : ((pieces.length : Int) != (d : Int) + (s : Int)) = true := by simp; omega
    have HNO : Hid (¬ (pieces.length = d + s ∧ SizesOk L pieces lost)) := fun h => hcnt h.1
    clear hcnt
    go_enter Tryd.func66, Tryd.ntmps66
    go_wp2
    go_ret
    exact ⟨Says.no rfl HNO.out, rfl⟩
end Go.Proofs.YtlnpppdffhibjaaDoor.Ref

namespace Go.Proofs.YtlnpppdffhibjaaDoor.Ref
open Go.RowKit Mem FieldWalks Tab ByTab Parts
open Gf (Bytes chosen left_ rowOf enough)
open Plans (But rowF intsV infoInt)

theorem filter_split (P : Nat → Bool) (j n : Nat) (h : j ≤ n) : (List.range n).filter P = (List.range j).filter P ++ (List.range' j (n - j)).filter P := by
  rw [← List.filter_append]
  congr 1
  have := List.range'_append_1 (s := 0) (m := j) (n := n - j)
  rw [Nat.zero_add] at this
  rw [List.range_eq_range', List.range_eq_range', this]
  congr 1; omega
theorem filter_at (P : Nat → Bool) (j n : Nat) (h : j < n) (hP : P j = true) : ((List.range n).filter P)[((List.range j).filter P).length]? = some j := by
  rw [filter_split P j n (by omega), List.getElem?_append_right (Nat.le_refl _), Nat.sub_self]
  rw [show n - j = (n - j - 1) + 1 by omega, List.range'_succ, List.filter_cons, if_pos hP]
  rfl
theorem filter_next (P : Nat → Bool) (j : Nat) : (List.range (j + 1)).filter P = (List.range j).filter P ++ (if P j = true then [j] else []) := by
  rw [List.range_succ, List.filter_append]
  congr 1
  simp [List.filter_cons]
theorem chosen_of_full (N : Nat → Bool) (d s p : Nat) (hp : p ≤ d + s) (h : ((List.range p).filter N).length = d) : chosen N d s = (List.range p).filter N := by
  unfold chosen
  rw [filter_split N p (d + s) hp]
  exact List.take_left' h
theorem chosen_at (N : Nat → Bool) (d s j : Nat) (hj : j < d) (hN : N j = true) : (chosen N d s)[((List.range j).filter N).length]? = some j := by
  have h1 : ((List.range j).filter N).length ≤ j := by have := List.length_filter_le N (List.range j); simpa using this
  unfold chosen
  rw [List.getElem?_take_of_lt (by omega)]
  exact filter_at N j (d + s) (by omega) hN

theorem make_none (d : Nat) (hd : d ≤ 1000) (w : World) :
    (Instr.makeSlice 45 (.int .i64 0) (.int .i64 (d : Int))).run Tryd.prog w = .ok (.slice (some ⟨w.heap.size, 0, none⟩) 0 d) (w.alloc (.cells (madeCells #[.int .i64 0] d) 3)) := by
  obtain ⟨i, hi, hz0, hz1, hz2⟩ := info_parts infoInt
  have := run_make (P := Tryd.prog) w 45 3 i (.int .i64 0) Tryd.underlying45 hi hz0 .i64 .i64 0 (d : Int) (by omega) (by omega) (by rw [hz2]; omega) (by omega)
  rw [hz1, show ((d : Int)).toNat = d by omega, Nat.mul_one] at this
  exact this
/-- The list, then noughts. -/
def pad (l : List Nat) (d : Nat) : List Nat := l ++ List.replicate (d - l.length) 0
theorem pad_set (l : List Nat) (d p : Nat) (h : l.length < d) : (intsV (pad l d)).set l.length (.int .i64 (p : Nat)) = intsV (pad (l ++ [p]) d) := by
  unfold pad
  obtain ⟨m, hm⟩ : ∃ m, d - l.length = m + 1 := ⟨d - l.length - 1, by omega⟩
  rw [hm, List.length_append, List.length_singleton, show d - (l.length + 1) = m by omega, List.replicate_succ]
  simp [intsV, List.set_append_right]
theorem pad_at (l : List Nat) (d : Nat) (h : l.length < d) : (intsV (pad l d))[l.length]? = some (.int .i64 0) := by
  unfold pad
  obtain ⟨m, hm⟩ : ∃ m, d - l.length = m + 1 := ⟨d - l.length - 1, by omega⟩
  rw [hm, List.replicate_succ]
  simp [intsV]

set_option maxRecDepth 100000 in
set_option maxHeartbeats 1000000 in
theorem firstLeft_any (d s : Nat) (lost : List Int) (lv : Value) (w : World) (hl : IsC w lv lost) (hd : 1 ≤ d) (hd2 : d ≤ 10) (hs : s ≤ 6) (hfew : lost.length ≤ s) :
    Calls Tryd.prog 79 #[.int .i64 d, lv] w fun e w' => ∃ b, w.heap.size ≤ b ∧ e = .returned (.slice (some ⟨b, 0, none⟩) d d) ∧ Blk w' b 3 (intsV (chosen (left_ lost) d s)) ∧ Below w.heap.size w w' := by
  have HL : Hid (IsC w lv lost) := hl
  have HEN : Hid (d ≤ ((List.range (d + s)).filter (left_ lost)).length) := enough d s lost hfew
  have hmk := fun w => make_none d (by omega) w
  clear hl
  go_enter Tryd.func79, Tryd.ntmps79
  go_wp2
  go_loopw [5, 6] (fun t i wr => ∃ p k : Nat, p ≤ d + s ∧ i = .int .i64 p ∧ t = .slice (some ⟨w.heap.size, 0, none⟩) k d ∧ k = ((List.range p).filter (left_ lost)).length ∧ k ≤ d ∧ Blk wr w.heap.size 3 (intsV (pad ((List.range p).filter (left_ lost)) d)) ∧ Below w.heap.size w wr) (fun _ i _ => d + s - (intOf i).toNat)
  case atStart =>
    refine ⟨0, 0, Nat.zero_le _, rfl, rfl, rfl, Nat.zero_le _, (Blk.new w _ _).eq ?_, (Below.refl _ _).alloc (Nat.le_refl _) _⟩
    rw [toList_madeCells_one]; simp [intsV, pad]
  case round =>
    obtain ⟨p, k, hp, rfl, rfl, hk, hkd, hblk, hbel⟩ := hrel
    by_cases hlt : k < d
    · have hps : p < d + s := by
        apply Classical.byContradiction
        intro hc
        have : p = d + s := by omega
        have := HEN.out
        subst p
        omega
      have HIC : Hid (IsC wr lv lost) := HL.out.to hbel
      have hlb : lost.length < 2 ^ 62 := by omega
      by_cases hm : (p : Int) ∈ lost
      · have HD : Hid (decide ((p : Int) ∈ lost) = true) := decide_eq_true hm
        have hle : left_ lost p = false := by simp [left_, hm]
        have HF : Hid ((List.range (p + 1)).filter (left_ lost) = (List.range p).filter (left_ lost)) := by
          show _ = _
          rw [filter_next, hle]; simp
        have HK : Hid (k = ((List.range p).filter (left_ lost)).length) := hk
        have HB : Hid (Blk wr w.heap.size 3 (intsV (pad ((List.range p).filter (left_ lost)) d))) := hblk
        clear hk hblk hm hle
        go_wp2_with (go_at_call 78; refine (contains_any lost p lv _ HIC.out hlb).mono ?_; rintro e w' ⟨rfl, rfl⟩; rw [HD.out])
        go_roundw
        case rel => exact ⟨p + 1, k, by omega, by go_num, rfl, by rw [HF.out]; exact HK.out, hkd, by rw [HF.out]; exact HB.out, hbel⟩
        case measure => simp [intOf]; omega
      · have HD : Hid (decide ((p : Int) ∈ lost) = false) := decide_eq_false hm
        have hle : left_ lost p = true := by simp [left_, hm]
        have HF : Hid ((List.range (p + 1)).filter (left_ lost) = (List.range p).filter (left_ lost) ++ [p]) := by
          show _ = _
          rw [filter_next, hle]; simp
        have hc1 := hblk.cell_some (k := k) (by rw [hk]; exact pad_at _ d (by omega))
        have hf1 := hblk.free k
        have HK : Hid (k = ((List.range p).filter (left_ lost)).length) := hk
        have HB : Hid (Blk wr w.heap.size 3 (intsV (pad ((List.range p).filter (left_ lost)) d))) := hblk
        have hBlt := hblk.lt
        have HP : Hid ((intsV (pad ((List.range p).filter (left_ lost)) d)).set k (.int .i64 (p : Nat)) = intsV (pad ((List.range p).filter (left_ lost) ++ [p]) d)) := by
          show _ = _
          rw [hk]; exact pad_set _ d p (by omega)
        clear hk hblk hm hle
        go_wp2_with (go_at_call 78; refine (contains_any lost p lv _ HIC.out hlb).mono ?_; rintro e w' ⟨rfl, rfl⟩; rw [HD.out])
        go_roundw
        case rel => exact ⟨p + 1, k + 1, by omega, by go_num, rfl, by rw [HF.out, List.length_append, ← HK.out]; rfl, by omega, by rw [HF.out, ← HP.out]; exact (HB.out.set k _).alloc _, (hbel.setCell (Nat.le_refl _) _).alloc (by rw [size_setCell]; exact hbel.size) _⟩
        case measure => simp [intOf]; omega
    · obtain rfl : d = k := by omega
      have HC : Hid (chosen (left_ lost) d s = (List.range p).filter (left_ lost)) := chosen_of_full _ d s p hp hk.symm
      have HB : Hid (Blk wr w.heap.size 3 (intsV (chosen (left_ lost) d s))) := by
        have := hblk
        rw [pad, ← hk, Nat.sub_self, List.replicate_zero, List.append_nil, ← HC.out] at this
        exact this
      clear hk hblk
      go_wp2
      go_ret
      exact ⟨w.heap.size, Nat.le_refl _, rfl, HB.out, hbel⟩
end Go.Proofs.YtlnpppdffhibjaaDoor.Ref

/- The factors, in new memory: what a call that writes elsewhere keeps. -/
namespace Go.Proofs.YtlnpppdffhibjaaDoor.Parts
open Go.RowKit Mem FieldWalks Tab ByTab

/-- The first i rows of the list at B lie in blocks from base on. -/
def Above (w : World) (B i base : Nat) : Prop := ∀ k, k < i → ∃ b n c, w.cell? ⟨B, k, none⟩ = some (.slice (some ⟨b, 0, none⟩) n c) ∧ base ≤ b
theorem Above.laid {w W : World} {B n i base b m c : Nat} {f : Nat → List Nat} (h : Above w B i base) (hl : Laid w W B i (.slice (some ⟨b, 0, none⟩) m c)) (hf : Filled w B n i f) (hi : i < n) (hb : base ≤ b) : Above W B (i + 1) base := by
  intro k hk
  by_cases e : k = i
  · subst e
    exact ⟨b, m, c, (hl.cell hf hi).1, hb⟩
  · obtain ⟨b', m', c', hc, hb'⟩ := h k (by omega)
    refine ⟨b', m', c', ?_, hb'⟩
    rw [World.cell?_of_block (w := w.setCell ⟨B, i, none⟩ _) (a := ⟨B, k, none⟩) hl.row, World.cell?_setCell_other _ _ _ _ (by intro h; injection h; omega)]
    exact hc
/-- The slice v reads as these rows; all of it lies in blocks from base on. -/
def RowsNew (w : World) (base : Nat) (v : Value) (rows : List (List Nat)) : Prop :=
  ∃ g c, v = .slice (some ⟨g, 0, none⟩) rows.length c ∧ base ≤ g ∧ g < w.heap.size ∧ ∀ k, (h : k < rows.length) → ∃ b c', base ≤ b ∧ b < w.heap.size ∧ w.cell? ⟨g, k, none⟩ = some (.slice (some ⟨b, 0, none⟩) rows[k].length c') ∧ ∀ j, (hj : j < rows[k].length) → w.cell? ⟨b, j, none⟩ = some (.int .u8 (rows[k][j] : Nat))
/-- All blocks from base on are as they were. -/
def Over (base : Nat) (w w' : World) : Prop := w.heap.size ≤ w'.heap.size ∧ ∀ b, base ≤ b → b < w.heap.size → w'.heap[b]? = w.heap[b]?
theorem Over.refl (base : Nat) (w : World) : Over base w w := ⟨Nat.le_refl _, fun _ _ _ => rfl⟩
theorem Over.to {base : Nat} {w w' w'' : World} (h : Over base w w') (hb : Below w'.heap.size w' w'') : Over base w w'' :=
  ⟨Nat.le_trans h.1 hb.size, fun b h1 h2 => (hb.block b (Nat.lt_of_lt_of_le h2 h.1)).trans (h.2 b h1 h2)⟩
theorem Over.setCell {base : Nat} {w w' : World} (h : Over base w w') {a : Addr} (ha : a.block < base) (v : Value) : Over base w (w'.setCell a v) :=
  ⟨by rw [size_setCell]; exact h.1, fun b h1 h2 => (Below.heap_setCell w' a v b (by omega)).trans (h.2 b h1 h2)⟩
theorem Over.drew {base : Nat} {w w' : World} (h : Over base w w') : Over base w w'.drew := h
theorem RowsNew.over {w w' : World} {base : Nat} {v : Value} {rows : List (List Nat)} (h : RowsNew w base v rows) (ho : Over base w w') : RowsNew w' base v rows := by
  obtain ⟨g, c, rfl, h1, h2, h3⟩ := h
  refine ⟨g, c, rfl, h1, Nat.lt_of_lt_of_le h2 ho.1, fun k hk => ?_⟩
  obtain ⟨b, c', b1, b2, b3, b4⟩ := h3 k hk
  exact ⟨b, c', b1, Nat.lt_of_lt_of_le b2 ho.1, by rw [World.cell?_of_block (ho.2 g h1 h2)]; exact b3, fun j hj => by rw [World.cell?_of_block (ho.2 b b1 b2)]; exact b4 j hj⟩
theorem RowsNew.rows {w : World} {base : Nat} {v : Value} {rows : List (List Nat)} (h : RowsNew w base v rows) : RowsAt w v rows := by
  obtain ⟨g, c, rfl, h1, h2, h3⟩ := h
  refine ⟨_, c, rfl, .inr ⟨g, 0, rfl, h2, fun k hk => ?_⟩⟩
  obtain ⟨b, c', b1, b2, b3, b4⟩ := h3 k hk
  exact ⟨_, by rw [Nat.zero_add]; exact b3, _, c', rfl, .inr ⟨b, 0, rfl, b2, fun j hj => by rw [Nat.zero_add]; exact b4 j hj⟩⟩
theorem filled_rowsNew {w : World} {B n base : Nat} {f : Nat → List Nat} (h : Filled w B n n f) (ha : Above w B n base) (hB : base ≤ B) {rows : List (List Nat)} (hr : rows.length = n) (he : ∀ k, (h : k < rows.length) → rows[k] = f k) : RowsNew w base (.slice (some ⟨B, 0, none⟩) n n) rows := by
  refine ⟨B, n, by rw [hr], hB, h.lt, fun k hk => ?_⟩
  obtain ⟨u, hu, b, rfl, hb⟩ := h.row (k := k) (by omega)
  obtain ⟨b', m', c', hc, hb'⟩ := ha k (by omega)
  rw [hu] at hc
  injection hc with hc
  injection hc with hc _ _
  injection hc with hc
  injection hc with hc
  subst hc
  rw [← he k hk] at hu hb
  exact ⟨b, _, hb', hb.lt, hu, fun j hj => hb.cell_some (bytesV_at hj)⟩

set_option maxRecDepth 100000 in
set_option maxHeartbeats 1000000 in
theorem factors_new (d s : Nat) (hd : d ≤ 100) (hs : s ≤ 100) (w : World) (ht : Table w) :
    Calls Tryd.prog 72 #[.int .i64 d, .int .i64 s] w fun e w' => ∃ v, e = .returned v ∧ RowsNew w' w.heap.size v (facs d s) ∧ Below w.heap.size w w' := by
  have hmk := fun w => make_rows s (by omega) w
  have hmb := fun w => make_bytes d (by omega) w
  go_enter Tryd.func72, Tryd.ntmps72
  go_wp2
  go_loopw [12] (fun i wr => ∃ k : Nat, k ≤ s ∧ i = .int .i64 k ∧ Filled wr w.heap.size s k (facRow d) ∧ Above wr w.heap.size k w.heap.size ∧ Below w.heap.size w wr) (fun i _ => s - (intOf i).toNat)
  case atStart => exact ⟨0, Nat.zero_le _, rfl, made_rows _ _ _, fun k hk => by omega, (Below.refl _ _).alloc (Nat.le_refl _) _⟩
  case round =>
    obtain ⟨i, hi, rfl, hfl, habove, hbel⟩ := hrel
    by_cases hlt : i < s
    · obtain ⟨⟨v0, hv0⟩, hfr⟩ := (hfl.to ((Below.refl _ _).alloc (Nat.le_refl _) (.cells (madeCells #[.int .u8 0] d) 5))).cell hlt
      have hBlt := hfl.lt
      have HF : Hid (Filled wr w.heap.size s i (facRow d)) := hfl
      have HAB : Hid (Above wr w.heap.size i w.heap.size) := habove
      clear hfl habove
      go_wp2
      obtain ⟨wo, rfl⟩ : ∃ wo, wo = wr := ⟨_, rfl⟩
      clear hv0 hfr
      have hsz := hbel.size
      go_loopw [21] (fun t wq => ∃ k : Nat, k ≤ d ∧ t = .int .i64 k ∧ Laid wo wq w.heap.size i (.slice (some ⟨wo.heap.size, 0, none⟩) d d) ∧ Blk wq wo.heap.size 5 (bytesV (mix (facRow d i) (List.replicate d 0) k)) ∧ Below w.heap.size w wq) (fun t _ => d - (intOf t).toNat)
      case atStart =>
        refine ⟨0, Nat.zero_le _, rfl, Laid.start wo _ _ _ _ hBlt, ?_, ?_⟩
        · rw [mix_zero]
          have := made_bytes (wo.setCell ⟨w.heap.size, i, none⟩ (.slice (some ⟨wo.heap.size, 0, none⟩) d d)) d
          rw [size_setCell] at this
          exact this
        · exact (hbel.setCell (Nat.le_refl _) _).alloc (by rw [size_setCell]; exact hsz) _
      case round =>
        obtain ⟨j, hj, rfl, hlaid, hblk, hbq⟩ := hrel
        by_cases hjlt : j < d
        · obtain ⟨hc1, _⟩ := hlaid.cell HF.out hlt
          have hlf : (facRow d i).length = (List.replicate d 0).length := by simp [facRow]
          have hc2 := hblk.cell_some (k := j) (v := .int .u8 0) (by rw [mix_bytes, mix_at (by simp [facRow]) (by simpa using hjlt)]; simp [bytesV])
          have hf2 := hblk.free j
          obtain ⟨x, hx⟩ : ∃ x, x = (d + i) ^^^ j := ⟨_, rfl⟩
          have hxb : x < 256 := by rw [hx]; exact Gf.xor_lt (by omega) (by omega)
          have EX : Hid (IntKind.u8.wrap (bits .xor .i64 (IntKind.i64.wrap ((d : Int) + (i : Int))) (j : Int)) = (x : Int)) := by
            show _ = _
            rw [show (d : Int) + (i : Int) = ((d + i : Nat) : Int) by omega, show IntKind.i64.wrap ((d + i : Nat) : Int) = ((d + i : Nat) : Int) by rw [IntKind.wrap_i64]; omega, Gf.i64_xor _ _ (by omega) (by omega), ← hx]
            exact byte_conv x hxb
          have HX : Hid (x = (d + i) ^^^ j) := hx
          have hT := table_to ht hbq
          have HLA : Hid _ := hlaid
          have HB : Hid (Blk wr wo.heap.size 5 (bytesV (mix (facRow d i) (List.replicate d 0) j))) := hblk
          have HT : Hid (Table wr) := hT
          clear hx hlaid hblk hT hlf
          go_wp2_with fail
          go_region_with (go_at_call 35; rw [EX.out]; refine (inv_any x hxb _ (by exact HT.out)).mono ?_; rintro e w2 ⟨rfl, rfl⟩)
          all_goals
            go_wp2
            go_roundw
            case rel =>
              refine ⟨j + 1, by omega, by go_num, (HLA.out.setCell (Nat.le_refl _) hBlt _).drew, ?_, (hbq.setCell (by exact hsz) _).drew⟩
              have e := mix_set (k := j) (new := facRow d i) (old := List.replicate d 0) (by simp [facRow]) (by simpa using hjlt)
              refine (HB.out.set j _).drew.eq ?_
              rw [bytesV_set, ← e, HX.out]
              simp [facRow]
            case measure => simp [intOf]; omega
        · obtain rfl : j = d := by omega
          go_wp2
          have R : Filled wr w.heap.size s (i + 1) (facRow j) := by
            refine hlaid.filled HF.out hlt ⟨wo.heap.size, by rw [facRow_length], hblk.eq ?_⟩
            have e := mix_all (new := facRow j i) (old := List.replicate j 0) (by simp [facRow])
            simp only [List.length_replicate] at e
            rw [e]
          have R2 : Above wr w.heap.size (i + 1) w.heap.size := HAB.out.laid hlaid HF.out hlt hsz
          go_roundw
          case rel => exact ⟨i + 1, by omega, by go_num, R, R2, hbq⟩
          case measure => simp [intOf]; omega
    · obtain rfl : i = s := by omega
      go_wp2
      go_ret
      exact ⟨_, rfl, filled_rowsNew hfl habove (Nat.le_refl _) (by simp [facs]) (fun i hi => by simp [facs]), hbel⟩
end Go.Proofs.YtlnpppdffhibjaaDoor.Parts

namespace Go.Proofs.YtlnpppdffhibjaaDoor.Ref
open Go.RowKit Mem FieldWalks Tab ByTab Parts
open Gf (Bytes chosen left_ rowOf enough Wide)
open Plans (But rowF intsV infoInt)

/-- The value u reads as these bytes, and does not lie in the block B. -/
def BsNe (w : World) (B : Nat) (Q : Prop) (u : Value) (l : List Nat) : Prop := ∃ ao c, u = .slice ao l.length c ∧ (Q → l.length ≤ c) ∧ (l = [] ∨ ∃ b off, ao = some ⟨b, off, none⟩ ∧ b ≠ B ∧ b < w.heap.size ∧ ∀ k, (h : k < l.length) → w.cell? ⟨b, off + k, none⟩ = some (.int .u8 (l[k] : Nat)))
theorem BsNe.to {w w' : World} {B : Nat} {Q : Prop} {u : Value} {l : List Nat} (h : BsNe w B Q u l) (hb : Below w.heap.size w w') : BsNe w' B Q u l := by
  obtain ⟨ao, c, rfl, hq, h⟩ := h
  refine ⟨ao, c, rfl, hq, ?_⟩
  rcases h with h | ⟨b, off, rfl, h1, h2, h3⟩
  · exact .inl h
  · exact .inr ⟨b, off, rfl, h1, Nat.lt_of_lt_of_le h2 hb.size, fun k hk => by rw [hb.cell (p := ⟨b, off + k, none⟩) h2]; exact h3 k hk⟩
theorem BsNe.set {w : World} {B : Nat} {Q : Prop} {u : Value} {l : List Nat} (h : BsNe w B Q u l) (i : Nat) (v : Value) : BsNe (w.setCell ⟨B, i, none⟩ v) B Q u l := by
  obtain ⟨ao, c, rfl, hq, h⟩ := h
  refine ⟨ao, c, rfl, hq, ?_⟩
  rcases h with h | ⟨b, off, rfl, h1, h2, h3⟩
  · exact .inl h
  · exact .inr ⟨b, off, rfl, h1, by rw [size_setCell]; exact h2, fun k hk => by rw [World.cell?_setCell_other _ _ _ _ (by intro h; injection h; omega)]; exact h3 k hk⟩
theorem BsNe.bs {w : World} {B : Nat} {Q : Prop} {u : Value} {l : List Nat} (h : BsNe w B Q u l) : BsAt w u l := by
  obtain ⟨ao, c, rfl, hq, h⟩ := h
  refine ⟨ao, c, rfl, ?_⟩
  rcases h with h | ⟨b, off, rfl, h1, h2, h3⟩
  · exact .inl h
  · exact .inr ⟨b, off, rfl, h2, h3⟩
theorem BsNe.bsC {w : World} {B : Nat} {u : Value} {l : List Nat} (h : BsNe w B True u l) : BsC w u l := by
  obtain ⟨ao, c, rfl, hq, h⟩ := h
  have := hq trivial
  refine ⟨ao, c - l.length, by congr 1; omega, ?_⟩
  rcases h with h | ⟨b, off, rfl, h1, h2, h3⟩
  · exact .inl h
  · exact .inr ⟨b, off, rfl, h2, h3⟩
theorem BsC.ne {w : World} {B : Nat} {u : Value} {l : List Nat} (h : BsC w u l) (hB : w.heap.size ≤ B) : BsNe w B True u l := by
  obtain ⟨ao, ex, rfl, h⟩ := h
  refine ⟨ao, _, rfl, fun _ => by omega, ?_⟩
  rcases h with h | ⟨b, off, rfl, h2, h3⟩
  · exact .inl h
  · exact .inr ⟨b, off, rfl, by omega, h2, h3⟩
/-- The first r rows of the list at B are there; the rest are none yet. -/
def Fill9 (w : World) (B n r : Nat) (Q : Prop) (rows : Nat → List Nat) : Prop := ∃ us : List Value, us.length = n ∧ Blk w B 93 us ∧ ∀ k, k < r → ∃ u, us[k]? = some u ∧ BsNe w B Q u (rows k)
section
variable {w w' : World} {B n r : Nat} {Q : Prop} {rows : Nat → List Nat}
theorem Fill9.start {us : List Value} (h : Blk w B 93 us) (hl : us.length = n) (Q : Prop) (rows : Nat → List Nat) : Fill9 w B n 0 Q rows := ⟨us, hl, h, fun k hk => by omega⟩
theorem Fill9.to (h : Fill9 w B n r Q rows) (hb : Below w.heap.size w w') : Fill9 w' B n r Q rows := by
  obtain ⟨us, h1, h2, h3⟩ := h
  refine ⟨us, h1, h2.to hb, fun k hk => ?_⟩
  obtain ⟨u, h4, h5⟩ := h3 k hk
  exact ⟨u, h4, h5.to hb⟩
theorem Fill9.cell (h : Fill9 w B n r Q rows) (k : Nat) (hk : k < n) : (∃ v, w.cell? ⟨B, k, none⟩ = some v) ∧ w.frozen? ⟨B, k, none⟩ = false ∧ B < w.heap.size := by
  obtain ⟨us, h1, h2, h3⟩ := h
  exact ⟨⟨us[k]'(by omega), h2.cell_some (by simp [show k < us.length by omega])⟩, h2.free k, h2.lt⟩
theorem Fill9.step {u : Value} (h : Fill9 w B n r Q rows) (hr : r < n) (hb : BsNe w B Q u (rows r)) : Fill9 (w.setCell ⟨B, r, none⟩ u) B n (r + 1) Q rows := by
  obtain ⟨us, h1, h2, h3⟩ := h
  refine ⟨us.set r u, by simpa using h1, h2.set r _, fun k hk => ?_⟩
  by_cases e : k = r
  · subst e
    exact ⟨u, by simp [show k < us.length by omega], hb.set _ _⟩
  · obtain ⟨u', h4, h5⟩ := h3 k (by omega)
    exact ⟨u', by rw [List.getElem?_set_ne (by omega)]; exact h4, h5.set _ _⟩
/-- A row that is written in new memory behind the list's store. -/
theorem Fill9.laid {W : World} {b m c : Nat} (h : Fill9 w B n r Q rows) (hr : r < n) (hl : Laid w W B r (.slice (some ⟨b, 0, none⟩) m c)) (hm : m = (rows r).length) (hq : Q → m ≤ c) (hbB : b ≠ B) (hb : Row8 W b (rows r)) : Fill9 W B n (r + 1) Q rows := by
  obtain ⟨us, h1, h2, h3⟩ := h
  subst hm
  refine ⟨us.set r _, by simpa using h1, hl.row.trans (h2.set r _), fun k hk => ?_⟩
  by_cases e : k = r
  · subst e
    exact ⟨_, by simp [show k < us.length by omega], _, c, rfl, hq, .inr ⟨b, 0, rfl, hbB, hb.lt, fun k hk => by rw [Nat.zero_add]; exact hb.cell k hk⟩⟩
  · obtain ⟨u', h4, ao', c', rfl, h7, h9⟩ := h3 k (by omega)
    refine ⟨_, by rw [List.getElem?_set_ne (by omega)]; exact h4, ao', c', rfl, h7, ?_⟩
    rcases h9 with h9 | ⟨b', off', rfl, h5, h6, h8⟩
    · exact .inl h9
    · exact .inr ⟨b', off', rfl, h5, Nat.lt_of_lt_of_le h6 hl.size, fun i hi => by rw [World.cell?_of_block (hl.rest b' h5 h6)]; exact h8 i hi⟩
end
theorem Fill9.rows {w : World} {B n : Nat} {Q : Prop} {rows : Nat → List Nat} (h : Fill9 w B n n Q rows) (ls : List (List Nat)) (hl : ls.length = n) (he : ∀ k, (h : k < ls.length) → ls[k] = rows k) : RowsAt w (.slice (some ⟨B, 0, none⟩) n n) ls := by
  obtain ⟨us, h1, h2, h3⟩ := h
  refine ⟨_, n, by rw [hl], .inr ⟨B, 0, rfl, h2.lt, fun k hk => ?_⟩⟩
  obtain ⟨u, h4, h5⟩ := h3 k (by omega)
  exact ⟨u, by rw [Nat.zero_add]; exact h2.cell_some h4, by rw [he k hk]; exact h5.bs⟩
theorem Fill9.rowsC {w : World} {B n : Nat} {rows : Nat → List Nat} (h : Fill9 w B n n True rows) (ls : List (List Nat)) (hl : ls.length = n) (he : ∀ k, (h : k < ls.length) → ls[k] = rows k) : RowsC w (.slice (some ⟨B, 0, none⟩) n n) ls := by
  obtain ⟨us, h1, h2, h3⟩ := h
  refine ⟨_, 0, by rw [hl, Nat.add_zero], .inr ⟨B, 0, rfl, h2.lt, fun k hk => ?_⟩⟩
  obtain ⟨u, h4, h5⟩ := h3 k (by omega)
  exact ⟨u, by rw [Nat.zero_add]; exact h2.cell_some h4, by rw [he k hk]; exact h5.bsC⟩

theorem unit_row (d p : Nat) (hp : p < d) : (List.replicate d 0).set p 1 = rowF d (rowOf d p) := by
  apply List.ext_getElem
  · simp
  · intro k h1 h2
    rw [List.getElem_set]
    simp only [rowF, List.getElem_map, List.getElem_range, rowOf, if_pos hp]
    by_cases e : p = k
    · rw [if_pos e, if_pos e]
    · rw [if_neg e, if_neg e]; simp
theorem spare_row (d p : Nat) (hp : ¬ p < d) : facRow d (p - d) = rowF d (rowOf d p) := by
  unfold facRow rowF
  refine List.map_congr_left fun k _ => ?_
  rw [rowOf, if_neg hp, show d + (p - d) = p by omega]

set_option maxRecDepth 100000 in
set_option maxHeartbeats 2000000 in
theorem madeBy_any (d s : Nat) (ns : List Nat) (nb : Nat) (w : World) (ht : Table w) (hd : 1 ≤ d) (hd2 : d ≤ 10) (hs : s ≤ 6) (hns : ns.length = d) (hlt : ∀ k, (h : k < ns.length) → ns[k] < d + s) (hnb : Blk w nb 3 (intsV ns)) :
    Calls Tryd.prog 91 #[.int .i64 d, .int .i64 s, .slice (some ⟨nb, 0, none⟩) d d] w fun e w' => ∃ v, e = .returned v ∧ RowsAt w' v (ns.map fun p => rowF d (rowOf d p)) ∧ Below w.heap.size w w' := by
  have HNS : Hid (ns.length = d) := hns
  have HLT : Hid (∀ k, (h : k < ns.length) → ns[k] < d + s) := hlt
  have HNB : Hid (Blk w nb 3 (intsV ns)) := hnb
  have hnbl := hnb.lt
  have hmk := fun w => make_rows d (by omega) w
  have hmb := fun w => make_bytes d (by omega) w
  clear hns hlt hnb
  go_enter Tryd.func91, Tryd.ntmps91
  go_wp2_with fail
  refine (factors_new d s (by omega) (by omega) _ ht).mono ?_
  rintro e w1 ⟨fv, rfl, hfac, hb1⟩
  have HFN : Hid (RowsNew w1 w.heap.size fv (facs d s)) := hfac
  obtain ⟨fg, fc, rfl, _⟩ := hfac
  rw [show (facs d s).length = s by simp [facs]] at HFN ⊢
  have HB1 : Hid (Below w.heap.size w w1) := hb1
  clear hb1
  go_wp2
  go_loopw [19] (fun i wr => ∃ k : Nat, k ≤ d ∧ i = .int .i64 k ∧ Fill9 wr w1.heap.size d k False (fun k => rowF d (rowOf d (ns.getD k 0))) ∧ Below w1.heap.size w1 wr) (fun i _ => d - (intOf i).toNat)
  case atStart => exact ⟨0, Nat.zero_le _, rfl, Fill9.start ((Blk.new w1 _ _).eq (toList_madeCells_one _ d)) (by simp) _ _, (Below.refl _ _).alloc (Nat.le_refl _) _⟩
  case round =>
    obtain ⟨k, hk, rfl, hfill, hbel⟩ := hrel
    by_cases hkd : k < d
    · have hkn : k < ns.length := by rw [HNS.out]; exact hkd
      have c1 := ((HNB.out.to HB1.out).to hbel).cell_some (k := k) (v := .int .i64 (ns[k] : Nat)) (by simp [intsV, hkn])
      obtain ⟨p, hp⟩ : ∃ p, p = ns[k] := ⟨_, rfl⟩
      have hpl : p < d + s := by rw [hp]; exact HLT.out k hkn
      rw [← hp] at c1
      have HP : Hid (ns.getD k 0 = p) := by show _ = _; rw [hp]; simp [hkn]
      obtain ⟨⟨ov, k1⟩, k2, k3⟩ := hfill.cell k hkd
      have HF : Hid (Fill9 wr w1.heap.size d k False (fun k => rowF d (rowOf d (ns.getD k 0)))) := hfill
      have HBL : Hid (Below w1.heap.size w1 wr) := hbel
      have hsz := hbel.size
      by_cases hpd : p < d
      · obtain ⟨W1, hW1⟩ : ∃ W1, W1 = (wr.setCell ⟨w1.heap.size, k, none⟩ (.slice (some ⟨wr.heap.size, 0, none⟩) d d)).alloc (.cells ((madeCells #[.int .u8 0] d).setIfInBounds p (.int .u8 1)) 5) := ⟨_, rfl⟩
        have HLA : Hid (Laid wr W1 w1.heap.size k (.slice (some ⟨wr.heap.size, 0, none⟩) d d)) := by rw [hW1]; exact Laid.start wr _ _ _ _ k3
        have HN1 : Hid (Blk W1 wr.heap.size 5 (bytesV (rowF d (rowOf d p)))) := by
          have := Blk.new (wr.setCell ⟨w1.heap.size, k, none⟩ (.slice (some ⟨wr.heap.size, 0, none⟩) d d)) ((madeCells #[.int .u8 0] d).setIfInBounds p (.int .u8 1)) 5
          rw [size_setCell, ← hW1] at this
          refine this.eq ?_
          rw [Array.toList_setIfInBounds, toList_madeCells_one, ← unit_row d p hpd]
          simp [bytesV, List.map_set]
        have HB2 : Hid (Below w1.heap.size w1 W1) := by
          rw [hW1]; exact (hbel.setCell (Nat.le_refl _) _).alloc (by rw [size_setCell]; exact hsz) _
        have HGW : Hid ((wr.setCell ⟨w1.heap.size, k, none⟩ (.slice (some ⟨wr.heap.size, 0, none⟩) d d)).alloc (.cells ((madeCells #[.int .u8 0] d).setIfInBounds p (.int .u8 1)) 5) = W1) := hW1.symm
        have HF2 : Hid (Fill9 W1 w1.heap.size d (k + 1) False (fun k => rowF d (rowOf d (ns.getD k 0)))) :=
          HF.out.laid hkd (b := wr.heap.size) (m := d) (c := d) HLA.out (by simp) (fun h => h.elim) (by omega) (by rw [HP.out]; exact Row8.of_blk HN1.out)
        have hN0 : Blk ((wr.setCell ⟨w1.heap.size, k, none⟩ (.slice (some ⟨wr.heap.size, 0, none⟩) d d)).alloc (.cells (madeCells #[.int .u8 0] d) 5)) wr.heap.size 5 (bytesV (List.replicate d 0)) := by
          have := made_bytes (wr.setCell ⟨w1.heap.size, k, none⟩ (.slice (some ⟨wr.heap.size, 0, none⟩) d d)) d
          rw [size_setCell] at this
          exact this
        have c2 := hN0.cell_some (k := p) (v := .int .u8 0) (by simp [bytesV, hpd])
        have f2 := hN0.free p
        clear hW1 hfill hbel hp hN0
        go_wp2
        go_roundw
        case rel => exact ⟨k + 1, by omega, by go_num, by rw [HGW.out]; exact HF2.out, by rw [HGW.out]; exact HB2.out⟩
        case measure => simp [intOf]; omega
      · obtain ⟨q, hq⟩ : ∃ q, p = d + q := ⟨p - d, by omega⟩
        have hqs : q < s := by omega
        have eq1 : (p : Int) - (d : Int) = (q : Int) := by omega
        have HPQ : Hid (p = d + q) := hq
        obtain ⟨fb, fc', hfb, hfl, gf, ge⟩ : ∃ fb fc', w.heap.size ≤ fb ∧ fb < w1.heap.size ∧ wr.cell? ⟨fg, q, none⟩ = some (.slice (some ⟨fb, 0, none⟩) d fc') ∧ ∀ j, (hj : j < (facRow d q).length) → wr.cell? ⟨fb, j, none⟩ = some (.int .u8 ((facRow d q)[j] : Nat)) := by
          obtain ⟨g', c', he, h1, h2, h3⟩ := HFN.out
          injection he with he _ _
          injection he with he
          injection he with he
          subst he
          obtain ⟨b, c'', h4, h5, h6, h7⟩ := h3 q (by simp [facs]; exact hqs)
          have hlr : (facs d s)[q]'(by simp [facs]; exact hqs) = facRow d q := by simp [facs]
          rw [hlr] at h6
          refine ⟨b, c'', h4, h5, by rw [hbel.cell (p := ⟨_, q, none⟩) h2, h6, facRow_length], fun j hj => ?_⟩
          rw [hbel.cell (p := ⟨b, j, none⟩) h5, h7 j (by rw [hlr]; exact hj)]
          simp [hlr]
        have HF2 : Hid (Fill9 (wr.setCell ⟨w1.heap.size, k, none⟩ (.slice (some ⟨fb, 0, none⟩) d fc')) w1.heap.size d (k + 1) False (fun k => rowF d (rowOf d (ns.getD k 0)))) := by
          refine HF.out.step hkd ?_
          show BsNe wr w1.heap.size False (.slice (some ⟨fb, 0, none⟩) d fc') (rowF d (rowOf d (ns.getD k 0)))
          have e2 : rowF d (rowOf d (ns.getD k 0)) = facRow d q := by
            rw [HP.out, ← spare_row d p hpd, show p - d = q by omega]
          rw [e2]
          exact ⟨_, fc', by rw [facRow_length], fun h => h.elim, .inr ⟨fb, 0, rfl, by omega, by omega, fun j hj => by rw [Nat.zero_add]; exact ge j hj⟩⟩
        clear hfill hbel hp ge hq
        go_wp2
        go_roundw
        case rel => exact ⟨k + 1, by omega, by go_num, HF2.out, HBL.out.setCell (Nat.le_refl _) _⟩
        case measure => simp [intOf]; omega
    · obtain rfl : d = k := by omega
      have HR : Hid (RowsAt wr (.slice (some ⟨w1.heap.size, 0, none⟩) d d) (ns.map fun p => rowF d (rowOf d p))) := hfill.rows _ (by simp [HNS.out]) (fun i hi => by
        have hi' : i < ns.length := by simpa using hi
        simp [hi'])
      have HB9 : Hid (Below w.heap.size w wr) := HB1.out.trans (hbel.mono HB1.out.size)
      clear hfill hbel
      go_wp2
      go_ret
      exact ⟨_, rfl, HR.out, HB9.out⟩
end Go.Proofs.YtlnpppdffhibjaaDoor.Ref

namespace Go.Proofs.YtlnpppdffhibjaaDoor.Ref
open Go.RowKit Mem FieldWalks Tab ByTab Parts
open Gf (Bytes chosen left_ rowOf enough Wide chosen_ker chosen_lt chosen_length)
open Plans (But rowF intsV infoInt)

/-- Is the number lost? -/
def gone_ (lost : List Int) (j : Nat) : Bool := decide ((j : Int) ∈ lost)
/-- The factors of the taken pieces. -/
def takenA (d s : Nat) (lost : List Int) : Nat → Nat → Nat := fun n => rowOf d ((chosen (left_ lost) d s).getD n 0)
/-- The rows that lead back to the lost data pieces. -/
def backs (d j : Nat) (lost : List Int) (M : Nat → Nat → Nat) : List (List Nat) := ((List.range j).filter (gone_ lost)).map fun j => rowF d (fun n => M j (d + n))
theorem backs_next (d j : Nat) (lost : List Int) (M : Nat → Nat → Nat) : backs d (j + 1) lost M = backs d j lost M ++ (if gone_ lost j = true then [rowF d (fun n => M j (d + n))] else []) := by
  unfold backs
  rw [filter_next, List.map_append]
  split <;> rfl

set_option maxRecDepth 100000 in
set_option maxHeartbeats 2000000 in
theorem wayBack_any (d s : Nat) (lost : List Int) (lv : Value) (nb : Nat) (w : World) (ht : Table w) (hl : IsC w lv lost) (hd : 1 ≤ d) (hd2 : d ≤ 10) (hs : s ≤ 6) (hfew : lost.length ≤ s) (hnb : Blk w nb 3 (intsV (chosen (left_ lost) d s))) :
    Calls Tryd.prog 80 #[.int .i64 d, .int .i64 s, .slice (some ⟨nb, 0, none⟩) d d, lv] w fun e w' => ∃ v M, e = .returned v ∧ Wide d d (takenA d s lost) M ∧ RowsAt w' v (backs d d lost M) ∧ Below w.heap.size w w' := by
  have hen := enough d s lost hfew
  have hcl := chosen_length (left_ lost) d s hen
  have HCL : Hid ((chosen (left_ lost) d s).length = d) := hcl
  have hlt : ∀ k, (h : k < (chosen (left_ lost) d s).length) → (chosen (left_ lost) d s)[k] < d + s := fun k h => (chosen_lt (left_ lost) d s _ (List.getElem_mem h)).1
  have HMB := madeBy_any d s (chosen (left_ lost) d s) nb w ht hd hd2 hs hcl hlt hnb
  have HMBH : Hid (Calls Tryd.prog 91 #[.int .i64 d, .int .i64 s, .slice (some ⟨nb, 0, none⟩) d d] w fun e w' => ∃ v, e = .returned v ∧ RowsAt w' v ((chosen (left_ lost) d s).map fun p => rowF d (rowOf d p)) ∧ Below w.heap.size w w') := HMB
  have HA : Hid (∀ n, n < d → ∀ k, k < d → takenA d s lost n k < 256) := fun n hn k hk => by
    have hn' : n < (chosen (left_ lost) d s).length := by omega
    have := hlt n hn'
    unfold takenA
    rw [List.getD_eq_getElem?_getD, List.getElem?_eq_getElem hn', Option.getD_some]
    exact Gf.rowOf_lt _ _ _ (by omega) (by omega)
  have HK : Hid (∀ x : Nat → Nat, (∀ k, x k < 256) → (∀ r, r < d → Gf.dot d (takenA d s lost r) x = 0) → ∀ k, k < d → x k = 0) := fun x hx h0 => by
    refine chosen_ker (left_ lost) d s (by omega) hen x hx fun p hp => ?_
    obtain ⟨n, hn, rfl⟩ := List.mem_iff_getElem.1 hp
    have := h0 n (by omega)
    unfold takenA at this
    rw [List.getD_eq_getElem?_getD, List.getElem?_eq_getElem hn, Option.getD_some] at this
    exact this
  have HRW : Hid (∀ n, (h : n < ((chosen (left_ lost) d s).map fun p => rowF d (rowOf d p)).length) → ((chosen (left_ lost) d s).map fun p => rowF d (rowOf d p))[n] = rowF d (takenA d s lost n)) := fun n hn => by
    have hn' : n < (chosen (left_ lost) d s).length := by simpa using hn
    simp [takenA, hn']
  have HL : Hid (IsC w lv lost) := hl
  have HT : Hid (Table w) := ht
  obtain ⟨i0, hi, hz0, hz1, hz2⟩ := info_parts infoRow8
  clear hen hcl hlt HMB hl ht hnb hi hz0 hz1 hz2
  go_enter Tryd.func80, Tryd.ntmps80
  go_wp2_with fail
  refine Calls.mono HMBH.out ?_
  rintro e w1 ⟨av, rfl, hrows1, hb1⟩
  have hin := inverse_any d (takenA d s lost) _ av w1 (table_to HT.out hb1) hd hd2 (by simp [HCL.out]) HRW.out hrows1 HA.out HK.out
  have HIN : Hid _ := hin
  have HB1 : Hid (Below w.heap.size w w1) := hb1
  clear hin hrows1 hb1
  go_wp2_with fail
  refine Calls.mono HIN.out ?_
  rintro e w2 ⟨bv, M, rfl, hwide, hrows2, hb2⟩
  have HWI : Hid (Wide d d (takenA d s lost) M) := hwide
  have hb02 := HB1.out.trans (hb2.mono HB1.out.size)
  obtain ⟨bb, boff, bcap, rfl, hbbl, hbc⟩ := hrows2.pos (by simp; omega)
  have HBC : Hid (∀ k, (h : k < d) → ∃ u, w2.cell? ⟨bb, boff + k, none⟩ = some u ∧ BsAt w2 u (rowF d (fun n => M k (d + n)))) := fun k hk => by
    obtain ⟨u, h1, h2⟩ := hbc k (by simpa using hk)
    exact ⟨u, h1, by simpa using h2⟩
  rw [show ((List.range d).map fun r => rowF d (fun n => M r (d + n))).length = d by simp]
  have HB02 : Hid (Below w.heap.size w w2) := hb02
  have HL2 : Hid (IsC w2 lv lost) := HL.out.to hb02
  have hlb : lost.length < 2 ^ 62 := by omega
  clear hwide hrows2 hbc hb2 hb02 HIN
  go_wp2
  go_loopw [9, 18] (fun t i wr => ∃ (j : Nat) (us : List Value), j ≤ d ∧ i = .int .i64 j ∧ wr.ownsRow w2.heap.size 93 1 t us.length us ∧ ReadAs w2 us (backs d j lost M) ∧ Below w2.heap.size w2 wr) (fun _ i _ => d - (intOf i).toNat)
  case atStart => exact ⟨0, [], Nat.zero_le _, rfl, World.ownsRow_nil _ _ _ _, ⟨rfl, fun k hk => by simp [backs] at hk⟩, Below.refl _ _⟩
  case round =>
    obtain ⟨j, us, hj, rfl, hown, hread, hbel⟩ := hrel
    by_cases hjd : j < d
    · obtain ⟨u, hu, hbs⟩ := HBC.out j hjd
      rw [← hbel.cell (p := ⟨bb, boff + j, none⟩) hbbl] at hu
      obtain ⟨ta, tc, rfl⟩ := Plans.owns_form hown
      have HIC : Hid (IsC wr lv lost) := HL2.out.to hbel
      have HO : Hid (wr.ownsRow w2.heap.size 93 1 (.slice ta us.length tc) us.length us) := hown
      have HRE : Hid (ReadAs w2 us (backs d j lost M)) := hread
      have hul : us.length ≤ 10 := by
        rw [hread.1]; unfold backs; rw [List.length_map]
        have := List.length_filter_le (gone_ lost) (List.range j)
        rw [List.length_range] at this; omega
      have hsz := hbel.size
      by_cases hm : (j : Int) ∈ lost
      · have HD : Hid (decide ((j : Int) ∈ lost) = true) := decide_eq_true hm
        have HNX : Hid (backs d (j + 1) lost M = backs d j lost M ++ [rowF d (fun n => M j (d + n))]) := by
          show _ = _
          rw [backs_next, if_pos (by simp [gone_, hm])]
        have HRN : Hid (ReadAs w2 (us ++ [u]) (backs d j lost M ++ [rowF d (fun n => M j (d + n))])) := by
          refine hread.append ⟨rfl, fun k hk => ?_⟩
          obtain rfl : k = 0 := by simp at hk; omega
          exact ⟨u, rfl, hbs⟩
        have HU1 : Hid (u.oneCell' = true) := one_of_bs hbs
        obtain ⟨ua, uc, rfl⟩ : ∃ ua uc, u = .slice ua d uc := by
          obtain ⟨ua, uc, h, _⟩ := hbs
          exact ⟨ua, uc, by simpa using h⟩
        clear hown hread hbs hm
        go_wp2_with (first | (go_at_call 78; refine (contains_any lost j lv _ HIC.out hlb).mono ?_; rintro e w' ⟨rfl, rfl⟩; rw [HD.out]) | (at_builtin; refine wpList_append_one _ rfl _ _ 91 rfl w2.heap.size 93 (.slice none 0 0) 24 Tryd.underlying91 infoRow8 rfl (by decide) _ us.length us rfl (HO.out.alloc _) ⟨_, 0, none⟩ 1 (.slice ua d uc) rfl ((Blk.new _ _ _).cell_some rfl) HU1.out (by omega) (by simp; omega) ?_; intro v' w3 hown' hbel'))
        have HO3 : Hid (w3.ownsRow w2.heap.size 93 1 v' (us ++ [Value.slice ua d uc]).length (us ++ [Value.slice ua d uc])) := by
          rw [List.length_append]; exact hown'
        have HB3 : Hid (Below w2.heap.size w2 w3) := hbel' _ _ (hbel.alloc hsz _) (Nat.le_refl _)
        clear hown' hbel'
        go_roundw
        case rel => exact ⟨j + 1, us ++ [Value.slice ua d uc], by omega, by go_num, HO3.out, by rw [HNX.out]; exact HRN.out, HB3.out⟩
        case measure => simp [intOf]; omega
      · have HD : Hid (decide ((j : Int) ∈ lost) = false) := decide_eq_false hm
        have HNX : Hid (backs d (j + 1) lost M = backs d j lost M) := by
          show _ = _
          rw [backs_next, if_neg (by simp [gone_, hm]), List.append_nil]
        clear hown hread hbs hm
        go_wp2_with (go_at_call 78; refine (contains_any lost j lv _ HIC.out hlb).mono ?_; rintro e w' ⟨rfl, rfl⟩; rw [HD.out])
        go_roundw
        case rel => exact ⟨j + 1, us, by omega, by go_num, HO.out, by rw [HNX.out]; exact HRE.out, hbel⟩
        case measure => simp [intOf]; omega
    · obtain rfl : d = j := by omega
      have HR : Hid (RowsAt wr _ (backs d d lost M)) := hread.rows (by rw [← hread.1]; exact hown) hbel
      have HB9 : Hid (Below w.heap.size w wr) := HB02.out.trans (hbel.mono HB02.out.size)
      clear hown hread hbel
      go_wp2
      go_ret
      exact ⟨_, M, rfl, HWI.out, HR.out, HB9.out⟩
end Go.Proofs.YtlnpppdffhibjaaDoor.Ref

namespace Go.Proofs.YtlnpppdffhibjaaDoor.Ref
open Go.RowKit Mem FieldWalks Tab ByTab Parts
open Gf (Bytes chosen left_ rowOf enough Wide chosen_ker chosen_lt chosen_length Fits colOf sumTo)
open Plans (But rowF intsV infoInt)
open Top (SumsOk)

theorem wpList_conv_w {P : Program} (w : World) {ops : Array Oper} {rest : List Oper} {o : Oper} {a : Act} {Q : Exit → Act → World → Prop}
    (hgd : o.guard = none) (src dst : TypeId) (x : Operand) (hop : o.op = Op.convert src dst x) (v r : Value) (w' : World) (hx : a.eval x = v) (hrun : (convert src dst v).run P w = .ok r w')
    (hK : wpList P ops Q rest (a.put o.dst r) w') : wpList P ops Q (o :: rest) a w := by
  refine wpList_plain hgd fun K hK' => ?_
  unfold Oper.wp
  simp [execOp, hop, hx, hrun, Result.andThen]
  exact hK' _ _ hK
/-- The pieces that are taken. -/
def lefts (d s : Nat) (lost : List Int) (pieces : List ByteArray) : List (List Nat) := (chosen (left_ lost) d s).map fun p => nums (pieces.getD p ByteArray.empty)
section
variable {d s L : Nat} {lost : List Int} {pieces : List ByteArray} {ps : List (List Nat)}
theorem lefts_size (hyes : ShapeOk d s L pieces lost) (k : Nat) (h : k < (lefts d s lost pieces).length) : (lefts d s lost pieces)[k].length = L := by
  simp only [lefts, List.getElem_map]
  have hk : k < (chosen (left_ lost) d s).length := by simpa [lefts] using h
  have h1 := chosen_lt (left_ lost) d s _ (List.getElem_mem hk)
  have hp : (chosen (left_ lost) d s)[k] < pieces.length := by rw [hyes.count]; exact h1.1
  rw [nums_length, show pieces.getD (chosen (left_ lost) d s)[k] ByteArray.empty = pieces[(chosen (left_ lost) d s)[k]] by simp [hp]]
  refine hyes.sizes _ hp ?_
  have := h1.2
  simpa [left_] using this
theorem ext_getD (a b : List Nat) (h : a.length = b.length) (e : ∀ t, t < a.length → a.getD t 0 = b.getD t 0) : a = b := by
  apply List.ext_getElem h
  intro t h1 h2
  have := e t h1
  simpa [h1, h2] using this
/-- A data piece that is left stands among the taken ones. -/
theorem left_at (hfit : Fits d L (chosen (left_ lost) d s) (fun p => nums (pieces.getD p ByteArray.empty)) ps) (hyes : ShapeOk d s L pieces lost) (j : Nat) (hj : j < d) (hl : left_ lost j = true) : (lefts d s lost pieces)[((List.range j).filter (left_ lost)).length]? = some (ps.getD j []) := by
  have h1 := Ref.chosen_at (left_ lost) d s j hj hl
  have hmem := List.mem_of_getElem? h1
  unfold lefts
  rw [List.getElem?_map, h1]
  simp only [Option.map_some, Option.some.injEq]
  have hjp : j < ps.length := by rw [hfit.len]; exact hj
  have hpj : ps.getD j [] = ps[j] := by simp [hjp]
  have hjl : j < pieces.length := by rw [hyes.count]; omega
  have hsz : (nums (pieces.getD j ByteArray.empty)).length = L := by
    rw [nums_length, show pieces.getD j ByteArray.empty = pieces[j] by simp [hjl]]
    exact hyes.sizes j hjl (by simpa [left_] using hl)
  rw [hpj]
  refine ext_getD _ _ (by rw [hsz, hfit.size j hjp]) fun t ht => ?_
  rw [hsz] at ht
  rw [← hfit.fits j hmem t ht, Gf.dot_unit d j hj _ (fun k _ => Gf.colOf_lt hfit.byte t k)]
  unfold colOf
  rw [hpj]
/-- What the way back makes of the taken ones is the lost data piece. -/
theorem back_at (hfit : Fits d L (chosen (left_ lost) d s) (fun p => nums (pieces.getD p ByteArray.empty)) ps) (hyes : ShapeOk d s L pieces lost) (hd2 : d ≤ 10) (hs : s ≤ 6) (hfew : lost.length ≤ s) {M : Nat → Nat → Nat} (hw : Wide d d (takenA d s lost) M) (j : Nat) (hj : j < d) (hg : gone_ lost j = true) :
    (sums (backs d d lost M) (lefts d s lost pieces) L)[((List.range j).filter (gone_ lost)).length]? = some (ps.getD j []) := by
  have hcl := chosen_length (left_ lost) d s (enough d s lost hfew)
  have hll : (lefts d s lost pieces).length = d := by simp [lefts, hcl]
  have hjp : j < ps.length := by rw [hfit.len]; exact hj
  have hpj : ps.getD j [] = ps[j] := by simp [hjp]
  unfold sums backs
  rw [List.getElem?_map, List.getElem?_map, filter_at (gone_ lost) j d hj hg]
  simp only [Option.map_some, Option.some.injEq]
  rw [hpj]
  have hsl := Gf.sumTo_length (rowF d (fun n => M j (d + n))) (lefts d s lost pieces) L (fun k hk => lefts_size hyes k hk) (lefts d s lost pieces).length (Nat.le_refl _)
  refine ext_getD _ _ (by rw [hsl, hfit.size j hjp]) fun t ht => ?_
  rw [hsl] at ht
  rw [Gf.sumTo_dot _ _ L t (fun k hk => lefts_size hyes k hk) ht _ (Nat.le_refl _), hll]
  have hA : ∀ n, n < d → ∀ k, k < d → takenA d s lost n k < 256 := fun n hn k hk => by
    have hn' : n < (chosen (left_ lost) d s).length := by omega
    have := (chosen_lt (left_ lost) d s _ (List.getElem_mem hn')).1
    unfold takenA
    rw [List.getD_eq_getElem?_getD, List.getElem?_eq_getElem hn', Option.getD_some]
    exact Gf.rowOf_lt _ _ _ (by omega) (by omega)
  have hb := hw.back hA (colOf ps t) (fun k => Gf.colOf_lt hfit.byte t k) j hj
  have e : colOf ps t j = ps[j].getD t 0 := by unfold colOf; rw [hpj]
  rw [← e, ← hb]
  refine Gf.xs_congr fun n hn => ?_
  have hn' : n < (chosen (left_ lost) d s).length := by omega
  have hnl : n < (lefts d s lost pieces).length := by omega
  rw [rowF_at' d _ n hn]
  congr 1
  have e2 : colOf (lefts d s lost pieces) t n = (nums (pieces.getD (chosen (left_ lost) d s)[n] ByteArray.empty)).getD t 0 := by
    unfold colOf
    rw [show (lefts d s lost pieces).getD n [] = (lefts d s lost pieces)[n] by simp [hnl]]
    simp [lefts]
  rw [e2, ← hfit.fits _ (List.getElem_mem hn') t ht]
  unfold takenA
  rw [List.getD_eq_getElem?_getD, List.getElem?_eq_getElem hn', Option.getD_some]
theorem fit_back (hyes : ShapeOk d s L pieces lost) (hd : 1 ≤ d) (hd2 : d ≤ 10) (hfew : lost.length ≤ s) (hL : L ≤ 400) {M : Nat → Nat → Nat} (hw : Wide d d (takenA d s lost) M) : Fit (backs d d lost M) (lefts d s lost pieces) L := by
  have hcl := chosen_length (left_ lost) d s (enough d s lost hfew)
  have hll : (lefts d s lost pieces).length = d := by simp [lefts, hcl]
  have hbl : (backs d d lost M).length ≤ d := by
    unfold backs; rw [List.length_map]
    have := List.length_filter_le (gone_ lost) (List.range d)
    rw [List.length_range] at this; exact this
  refine ⟨by omega, by omega, by omega, fun j hj => lefts_size hyes j hj, fun i hi => ?_, fun i hi => ?_, fun j hj => ?_, by omega⟩
  · rw [hll]; simp [backs]
  · have hm : (backs d d lost M)[i] ∈ ((List.range d).filter (gone_ lost)).map fun j => rowF d (fun n => M j (d + n)) := List.getElem_mem hi
    obtain ⟨j, hj, e⟩ := List.mem_map.1 hm
    have hjd : j < d := by have := (List.mem_filter.1 hj).1; simpa using this
    rw [← e]
    intro v hv
    simp only [rowF, List.mem_map, List.mem_range] at hv
    obtain ⟨n, hn, rfl⟩ := hv
    exact hw.byte j hjd (d + n) (by omega)
  · simp only [lefts, List.getElem_map]
    exact nums_bytes _
end

set_option maxRecDepth 100000 in
set_option maxHeartbeats 4000000 in
theorem rebuild_any (hS : SumsOk) (d s x L : Nat) (pieces : List ByteArray) (lost : List Int) (ps : List (List Nat)) (pv lv : Value) (w : World) (ht : Table w) (hp : StrsAt w pv pieces) (hl : IsC w lv lost) (hd : 1 ≤ d) (hd2 : d ≤ 10) (hs : s ≤ 6) (hx : x ≤ 2) (hL : L ≤ 400)
    (hyes : ShapeOk d s L pieces lost) (hfew : lost.length ≤ s) (hfit : Fits d L (chosen (left_ lost) d s) (fun p => nums (pieces.getD p ByteArray.empty)) ps) :
    Calls Tryd.prog 67 #[.int .i64 d, .int .i64 s, .int .i64 x, pv, lv] w fun e w' => ∃ b, w.heap.size ≤ b ∧ e = .returned (.slice (some ⟨b, 0, none⟩) d d) ∧ RowsC w' (.slice (some ⟨b, 0, none⟩) d d) ps ∧ Below w.heap.size w w' := by
  have hcl := chosen_length (left_ lost) d s (enough d s lost hfew)
  have HCL : Hid ((chosen (left_ lost) d s).length = d) := hcl
  have HCLT : Hid (∀ k, (h : k < (chosen (left_ lost) d s).length) → (chosen (left_ lost) d s)[k] < d + s ∧ left_ lost (chosen (left_ lost) d s)[k] = true) := fun k h => chosen_lt (left_ lost) d s _ (List.getElem_mem h)
  have HYES : Hid (ShapeOk d s L pieces lost) := hyes
  have HFIT : Hid (Fits d L (chosen (left_ lost) d s) (fun p => nums (pieces.getD p ByteArray.empty)) ps) := hfit
  have HFEW : Hid (lost.length ≤ s) := hfew
  have hcn := hyes.count
  have HCN : Hid (pieces.length = d + s) := hcn
  have HFL := firstLeft_any d s lost lv w hl hd hd2 hs hfew
  have HFLH : Hid _ := HFL
  have HL : Hid (IsC w lv lost) := hl
  have HT : Hid (Table w) := ht
  obtain ⟨pb, poff, pcap, rfl, hplt, hpc⟩ : ∃ b off cap, pv = .slice (some ⟨b, off, none⟩) pieces.length cap ∧ b < w.heap.size ∧ ∀ k, (h : k < pieces.length) → w.cell? ⟨b, off + k, none⟩ = some (.string pieces[k]) := by
    obtain ⟨ao, cap, rfl, h⟩ := hp
    rcases h with h | ⟨b, off, rfl, h1, h2⟩
    · rw [h] at hcn; simp at hcn; omega
    · exact ⟨b, off, cap, rfl, h1, h2⟩
  have HPC : Hid (∀ k, (h : k < pieces.length) → w.cell? ⟨pb, poff + k, none⟩ = some (.string pieces[k])) := hpc
  have hmk := fun w => make_rows d (by omega) w
  obtain ⟨N, hN⟩ : ∃ N, N = pieces.length := ⟨_, rfl⟩
  have HN : Hid (N = pieces.length) := hN
  have hN1 : N ≤ d + s := by omega
  have hN2 : d + s ≤ N := by omega
  rw [← hN]
  have hlb : lost.length < 2 ^ 62 := by omega
  clear hcl hyes hfit hfew hcn HFL hl ht hp hpc hN
  go_enter Tryd.func67, Tryd.ntmps67
  go_wp2_with fail
  refine Calls.mono HFLH.out ?_
  rintro e w1 ⟨nb, hnb, rfl, hints, hb1⟩
  have HIN : Hid (Blk w1 nb 3 (intsV (chosen (left_ lost) d s))) := hints
  have HB1 : Hid (Below w.heap.size w w1) := hb1
  have hnbl := hints.lt
  clear hints hb1 HFLH
  go_wp2
  go_loopw [25] (fun i wr => ∃ k : Nat, k ≤ d ∧ i = .int .i64 k ∧ Fill9 wr w1.heap.size d k True (fun k => nums (pieces.getD ((chosen (left_ lost) d s).getD k 0) ByteArray.empty)) ∧ Below w1.heap.size w1 wr) (fun i _ => d - (intOf i).toNat)
  case atStart => exact ⟨0, Nat.zero_le _, rfl, Fill9.start ((Blk.new w1 _ _).eq (toList_madeCells_one _ d)) (by simp) _ _, (Below.refl _ _).alloc (Nat.le_refl _) _⟩
  case round =>
    obtain ⟨k, hk, rfl, hfill, hbel⟩ := hrel
    by_cases hkd : k < d
    · have hkc : k < (chosen (left_ lost) d s).length := by rw [HCL.out]; exact hkd
      have c0 := (HIN.out.to hbel).cell_some (k := k) (v := .int .i64 ((chosen (left_ lost) d s)[k] : Nat)) (by simp [intsV, hkc])
      obtain ⟨p, hp⟩ : ∃ p, p = (chosen (left_ lost) d s)[k] := ⟨_, rfl⟩
      have hpl := HCLT.out k hkc
      rw [← hp] at c0 hpl
      have hpN : p < pieces.length := by rw [HCN.out]; exact hpl.1
      have c1 := HPC.out p hpN
      rw [← (HB1.out.trans (hbel.mono HB1.out.size)).cell (p := ⟨pb, poff + p, none⟩) hplt] at c1
      obtain ⟨y, hy⟩ : ∃ y, y = pieces[p] := ⟨_, rfl⟩
      rw [← hy] at c1
      have hys : y.size = L := by
        rw [hy]; refine HYES.out.sizes p hpN ?_
        have := hpl.2; simpa [left_] using this
      have HY : Hid (pieces.getD ((chosen (left_ lost) d s).getD k 0) ByteArray.empty = y) := by
        show _ = _
        rw [show (chosen (left_ lost) d s).getD k 0 = p by rw [hp]; simp [hkc], hy]; simp [hpN]
      have hsz := hbel.size
      have HB : Hid (Below w1.heap.size w1 (Lib.bytesWorld wr 5 y)) := hbel.trans ((below_bytes wr y).mono hsz)
      have HF : Hid (Fill9 (Lib.bytesWorld wr 5 y) w1.heap.size d k True (fun k => nums (pieces.getD ((chosen (left_ lost) d s).getD k 0) ByteArray.empty))) := hfill.to (below_bytes wr y)
      have HR : Hid (Row8 (Lib.bytesWorld wr 5 y) wr.heap.size (nums y)) := Row8.new wr y
      obtain ⟨⟨ov, k1⟩, k2, k3⟩ := HF.out.cell k hkd
      have hw1lt := (hfill.cell k hkd).2.2
      have hconv := Lib.run_convert_string_bytes (P := Tryd.prog) wr 9 93 5 y Tryd.underlying9 Tryd.underlying93 Tryd.underlying5
      rw [hys] at hconv
      have hgc := grownCap_ge wr L 0 5
      generalize grownCap wr L 0 5 = gc at hconv hgc
      generalize Lib.bytesWorld wr 5 y = wb at HB HF HR hconv k1 k2 k3
      have HCV : Hid ((convert 9 93 (.string y)).run Tryd.prog wr = .ok (.slice (some ⟨wr.heap.size, 0, none⟩) L gc) wb) := hconv
      have HF2 : Hid (Fill9 (wb.setCell ⟨w1.heap.size, k, none⟩ (.slice (some ⟨wr.heap.size, 0, none⟩) L gc)) w1.heap.size d (k + 1) True (fun k => nums (pieces.getD ((chosen (left_ lost) d s).getD k 0) ByteArray.empty))) := by
        refine HF.out.step hkd ?_
        show BsNe wb w1.heap.size True (.slice (some ⟨wr.heap.size, 0, none⟩) L gc) (nums (pieces.getD ((chosen (left_ lost) d s).getD k 0) ByteArray.empty))
        rw [HY.out]
        refine ⟨_, gc, by rw [nums_length, hys], fun _ => by rw [nums_length, hys]; exact hgc, .inr ⟨wr.heap.size, 0, rfl, by omega, HR.out.lt, fun i hi => by rw [Nat.zero_add]; exact HR.out.cell i hi⟩⟩
      have hpi : (p : Int) < (N : Int) := by omega
      clear hconv hfill hy hys hbel hp hpl
      go_wp2_with (refine wpList_conv_w _ rfl 9 93 _ rfl (.string y) _ wb rfl HCV.out ?_)
      go_roundw
      case rel => exact ⟨k + 1, by omega, by go_num, HF2.out, HB.out.setCell (Nat.le_refl _) _⟩
      case measure => simp [intOf]; omega
    · obtain rfl : d = k := by omega
      obtain ⟨w2, rfl⟩ : ∃ w2, w2 = wr := ⟨_, rfl⟩
      have HLE : Hid (RowsC w2 (.slice (some ⟨w1.heap.size, 0, none⟩) d d) (lefts d s lost pieces)) := hfill.rowsC _ (by simp [lefts, HCL.out]) (fun i hi => by
        have hi' : i < (chosen (left_ lost) d s).length := by simpa [lefts] using hi
        simp [lefts, hi'])
      have HB2 : Hid (Below w.heap.size w w2) := HB1.out.trans (hbel.mono HB1.out.size)
      have hwb := wayBack_any d s lost lv nb w2 (table_to HT.out HB2.out) (HL.out.to HB2.out) hd hd2 hs HFEW.out (HIN.out.to hbel)
      have HWB : Hid _ := hwb
      clear hwb hfill hbel
      go_wp2_with fail
      refine Calls.mono HWB.out ?_
      rintro e w3 ⟨rv, M, rfl, hwide, hback, hb3⟩
      have HW : Hid (Wide d d (takenA d s lost) M) := hwide
      have HB3 : Hid (Below w.heap.size w w3) := HB2.out.trans (hb3.mono HB2.out.size)
      have HLE3 : Hid (RowsC w3 (.slice (some ⟨w1.heap.size, 0, none⟩) d d) (lefts d s lost pieces)) := HLE.out.to hb3
      have hsu := hS x (backs d d lost M) (lefts d s lost pieces) L rv (.slice (some ⟨w1.heap.size, 0, none⟩) d d) w3 hx (table_to HT.out HB3.out) hback HLE3.out (fit_back HYES.out hd hd2 HFEW.out hL hwide)
      have HSU : Hid _ := hsu
      clear hsu hwide hback hb3 HWB HLE
      go_wp2_with fail
      refine Calls.mono HSU.out ?_
      rintro e w4 ⟨mv, rfl, hmade, hb4⟩
      have HB4 : Hid (Below w.heap.size w w4) := HB3.out.trans (hb4.mono HB3.out.size)
      have HMA : Hid (RowsC w4 mv (sums (backs d d lost M) (lefts d s lost pieces) L)) := hmade
      have HLE4 : Hid (RowsC w4 (.slice (some ⟨w1.heap.size, 0, none⟩) d d) (lefts d s lost pieces)) := HLE3.out.to hb4
      obtain ⟨mao, mex, rfl, hmc⟩ := hmade
      obtain ⟨SM, hSM⟩ : ∃ SM, SM = (sums (backs d d lost M) (lefts d s lost pieces) L).length := ⟨_, rfl⟩
      rw [← hSM]
      have HSM : Hid (SM = (sums (backs d d lost M) (lefts d s lost pieces) L).length) := hSM
      have HMC : Hid (SM = 0 ∨ ∃ mb moff, mao = some ⟨mb, moff, none⟩ ∧ mb < w4.heap.size ∧ ∀ k r, (sums (backs d d lost M) (lefts d s lost pieces) L)[k]? = some r → ∃ u, w4.cell? ⟨mb, moff + k, none⟩ = some u ∧ BsC w4 u r) := by
        rcases hmc with h | ⟨mb, moff, h1, h2, h3⟩
        · left; rw [hSM, h]; rfl
        · right; refine ⟨mb, moff, h1, h2, fun k r hr => ?_⟩
          obtain ⟨hk, rfl⟩ := List.getElem?_eq_some_iff.1 hr
          exact h3 k hk
      have hSMs : SM ≤ 10 := by
        rw [hSM]; unfold sums backs; rw [List.length_map, List.length_map]
        have := List.length_filter_le (gone_ lost) (List.range d)
        rw [List.length_range] at this; omega
      have HLC : Hid (∀ k r, (lefts d s lost pieces)[k]? = some r → ∃ u, w4.cell? ⟨w1.heap.size, k, none⟩ = some u ∧ BsC w4 u r) := fun k r hr => by
        obtain ⟨hk, rfl⟩ := List.getElem?_eq_some_iff.1 hr
        obtain ⟨b, off, cap, he, h1, h2⟩ := HLE4.out.pos (by omega)
        injection he with he _ _
        injection he with he
        injection he with he1 he2
        subst he1 he2
        obtain ⟨u, h3, h4⟩ := h2 k hk
        exact ⟨u, by rw [Nat.zero_add] at h3; exact h3, h4⟩
      have hw14 : w1.heap.size < w4.heap.size := by
        obtain ⟨b, off, cap, he, h1, h2⟩ := HLE4.out.pos (by simp [lefts, HCL.out]; omega)
        injection he with he _ _
        injection he with he
        injection he with he1 he2
        omega
      obtain ⟨g1, hg1⟩ : ∃ g1, g1 = w1.heap.size := ⟨_, rfl⟩
      rw [← hg1] at HLC hw14 ⊢
      clear hmc hb4 HSU HLE3 hSM HMA HLE4 hg1
      go_wp2
      go_loopw [12, 15, 51] (fun lt mt i wr => ∃ (j lo lrem mrem : Nat) (la ma : Option Addr), j ≤ d ∧ i = .int .i64 j ∧ lo = ((List.range j).filter (left_ lost)).length ∧ lrem + lo = d ∧ lt = .slice la lrem lrem ∧ (0 < lrem → la = some ⟨g1, lo, none⟩) ∧
        mt = .slice ma mrem (mrem + mex) ∧ mrem + ((List.range j).filter (gone_ lost)).length = SM ∧ (0 < mrem → ∃ mb moff, mao = some ⟨mb, moff, none⟩ ∧ ma = some ⟨mb, moff + ((List.range j).filter (gone_ lost)).length, none⟩) ∧
        Fill9 wr w4.heap.size d j True (fun j => ps.getD j []) ∧ Below w4.heap.size w4 wr) (fun _ _ i _ => d - (intOf i).toNat)
      case atStart =>
        refine ⟨0, 0, d, SM, _, _, Nat.zero_le _, rfl, by simp, rfl, rfl, fun _ => rfl, rfl, by simp, fun hpos => ?_, Fill9.start ((Blk.new w4 _ _).eq (toList_madeCells_one _ d)) (by simp) _ _, (Below.refl _ _).alloc (Nat.le_refl _) _⟩
        rcases HMC.out with h | ⟨mb, moff, h1, h2, h3⟩
        · omega
        · exact ⟨mb, moff, h1, by rw [h1]; simp⟩
      case round =>
        obtain ⟨j, lo, lrem, mrem, la, ma, hj, rfl, hlo, hlr, rfl, hla, rfl, hmr, hma, hfill, hbel⟩ := hrel
        by_cases hjd : j < d
        · obtain ⟨⟨ov, k1⟩, k2, k3⟩ := hfill.cell j hjd
          have HIC : Hid (IsC wr lv lost) := HL.out.to (HB4.out.trans (hbel.mono HB4.out.size))
          have HF : Hid (Fill9 wr w4.heap.size d j True (fun j => ps.getD j [])) := hfill
          have HLO : Hid (lo = ((List.range j).filter (left_ lost)).length) := hlo
          have HLA : Hid (0 < lrem → la = some ⟨g1, lo, none⟩) := hla
          have HMA : Hid (0 < mrem → ∃ mb moff, mao = some ⟨mb, moff, none⟩ ∧ ma = some ⟨mb, moff + ((List.range j).filter (gone_ lost)).length, none⟩) := hma
          have HMR : Hid (mrem + ((List.range j).filter (gone_ lost)).length = SM) := hmr
          have HLR : Hid (lrem + lo = d) := hlr
          have hlj : ((List.range j).filter (left_ lost)).length ≤ j := by
            have := List.length_filter_le (left_ lost) (List.range j); rwa [List.length_range] at this
          by_cases hm : (j : Int) ∈ lost
          · have hg : gone_ lost j = true := by simp [gone_, hm]
            have hle : left_ lost j = false := by simp [left_, hm]
            have HD : Hid (decide ((j : Int) ∈ lost) = true) := decide_eq_true hm
            have hba := back_at HFIT.out HYES.out hd2 hs HFEW.out HW.out j hjd hg
            have hlt : ((List.range j).filter (gone_ lost)).length < SM := by
              have := (List.getElem?_eq_some_iff.1 hba).1
              rw [← HSM.out] at this; exact this
            obtain ⟨mb, moff, hmao, rfl⟩ := hma (by omega)
            obtain ⟨a, rfl⟩ : ∃ a, mrem = a + 1 := ⟨mrem - 1, by omega⟩
            obtain ⟨mo, hmo⟩ : ∃ mo, mo = moff + ((List.range j).filter (gone_ lost)).length := ⟨_, rfl⟩
            rw [← hmo]
            obtain ⟨u, hu, hbs, hmbl⟩ : ∃ u, wr.cell? ⟨mb, mo, none⟩ = some u ∧ BsC w4 u (ps.getD j []) ∧ mb < w4.heap.size := by
              rcases HMC.out with h0 | ⟨mb', moff', h1, h2, h3⟩
              · omega
              · rw [hmao] at h1
                injection h1 with h1
                injection h1 with h1a h1b
                subst h1a h1b
                obtain ⟨u, h4, h5⟩ := h3 _ _ hba
                exact ⟨u, by rw [hmo, hbel.cell (p := ⟨mb, _, none⟩) h2]; exact h4, h5, h2⟩
            have HNE : Hid (BsNe wr w4.heap.size True u (ps.getD j [])) := (BsC.ne hbs (Nat.le_refl _)).to hbel
            have HF2 : Hid (Fill9 (wr.setCell ⟨w4.heap.size, j, none⟩ u) w4.heap.size d (j + 1) True (fun j => ps.getD j [])) := HF.out.step hjd HNE.out
            have HN1 : Hid ((List.range (j + 1)).filter (left_ lost) = (List.range j).filter (left_ lost)) := by show _ = _; rw [filter_next, hle]; simp
            have HN2 : Hid (((List.range (j + 1)).filter (gone_ lost)).length = ((List.range j).filter (gone_ lost)).length + 1) := by show _ = _; rw [filter_next, hg]; simp
            have HMO : Hid (mao = some ⟨mb, moff, none⟩ ∧ mo = moff + ((List.range j).filter (gone_ lost)).length) := ⟨hmao, hmo⟩
            obtain ⟨ua, uc, rfl⟩ : ∃ ua uc, u = .slice ua (ps.getD j []).length uc := by
              obtain ⟨ua, uc, h, _⟩ := hbs; exact ⟨ua, _, h⟩
            have hne : mb ≠ w4.heap.size := by omega
            have ha20 : a + 1 ≤ 20 := by omega
            clear hmao hmo hmr hba hbs hm hg hle hfill hlo hlt hlj hla hma hlr HMA
            generalize (ps.getD j []).length = pl at hu HF2
            go_wp2_with (go_at_call 78; refine (contains_any lost j lv _ HIC.out hlb).mono ?_; rintro e w' ⟨rfl, rfl⟩; rw [HD.out])
            go_region
            all_goals
              go_wp2
              go_roundw
              case rel =>
                refine ⟨j + 1, lo, lrem, a, la, _, by omega, by go_num, by rw [HN1.out]; exact HLO.out, HLR.out, rfl, HLA.out, rfl, by rw [HN2.out]; have := HMR.out; omega, fun hpos => ⟨mb, moff, HMO.out.1, ?_⟩, HF2.out.to (Below.refl _ _).drew, (hbel.setCell (Nat.le_refl _) _).drew⟩
                rw [if_neg (by omega), HN2.out, ← Nat.add_assoc, ← HMO.out.2]
              case measure => simp [intOf]; omega
          · have hg : gone_ lost j = false := by simp [gone_, hm]
            have hle : left_ lost j = true := by simp [left_, hm]
            have HD : Hid (decide ((j : Int) ∈ lost) = false) := decide_eq_false hm
            have hba := left_at HFIT.out HYES.out j hjd hle
            obtain ⟨a, rfl⟩ : ∃ a, lrem = a + 1 := ⟨lrem - 1, by omega⟩
            obtain rfl := hla (by omega)
            obtain ⟨u, hu, hbs⟩ : ∃ u, wr.cell? ⟨g1, lo, none⟩ = some u ∧ BsC w4 u (ps.getD j []) := by
              obtain ⟨u, h4, h5⟩ := HLC.out _ _ hba
              exact ⟨u, by rw [hlo, hbel.cell (p := ⟨g1, _, none⟩) hw14]; exact h4, h5⟩
            have HNE : Hid (BsNe wr w4.heap.size True u (ps.getD j [])) := (BsC.ne hbs (Nat.le_refl _)).to hbel
            have HF2 : Hid (Fill9 (wr.setCell ⟨w4.heap.size, j, none⟩ u) w4.heap.size d (j + 1) True (fun j => ps.getD j [])) := HF.out.step hjd HNE.out
            have HN1 : Hid (((List.range (j + 1)).filter (left_ lost)).length = ((List.range j).filter (left_ lost)).length + 1) := by show _ = _; rw [filter_next, hle]; simp
            have HN2 : Hid ((List.range (j + 1)).filter (gone_ lost) = (List.range j).filter (gone_ lost)) := by show _ = _; rw [filter_next, hg]; simp
            obtain ⟨ua, uc, rfl⟩ : ∃ ua uc, u = .slice ua (ps.getD j []).length uc := by
              obtain ⟨ua, uc, h, _⟩ := hbs; exact ⟨ua, _, h⟩
            have hne : g1 ≠ w4.heap.size := by omega
            have ha20 : a + 1 ≤ 20 := by omega
            clear hmr hba hbs hm hg hle hfill hlo hlj hla hma hlr HLA
            generalize (ps.getD j []).length = pl at hu HF2
            go_wp2_with (go_at_call 78; refine (contains_any lost j lv _ HIC.out hlb).mono ?_; rintro e w' ⟨rfl, rfl⟩; rw [HD.out])
            go_region
            all_goals
              go_wp2
              go_roundw
              case rel =>
                refine ⟨j + 1, lo + 1, a, mrem, _, ma, by omega, by go_num, by rw [HN1.out, ← HLO.out], by have := HLR.out; omega, rfl, fun hpos => ?_, rfl, by rw [HN2.out]; exact HMR.out, by rw [HN2.out]; exact HMA.out, HF2.out.to (Below.refl _ _).drew, (hbel.setCell (Nat.le_refl _) _).drew⟩
                rw [if_neg (by omega)]
              case measure => simp [intOf]; omega
        · obtain rfl : d = j := by omega
          have HRF : Hid (RowsC wr (.slice (some ⟨w4.heap.size, 0, none⟩) d d) ps) := hfill.rowsC _ HFIT.out.len (fun k hk => by simp [hk])
          have HB9 : Hid (Below w.heap.size w wr) := HB4.out.trans (hbel.mono HB4.out.size)
          have hsz4 := HB4.out.size
          clear hfill hbel
          go_wp2
          go_ret
          exact ⟨w4.heap.size, hsz4, rfl, HRF.out, HB9.out⟩
end Go.Proofs.YtlnpppdffhibjaaDoor.Ref

namespace Go.Proofs.YtlnpppdffhibjaaDoor.Ref
open Go.RowKit Mem FieldWalks Tab ByTab Parts
open Gf (Bytes)

/-- The numbers of bytes.Join and of its types here. -/
def jren : Go.Shelf.Ren := ⟨fun k => if k = 14 then 68 else 81, fun t => if t = 22 then 93 else if t = 26 then 91 else if t = 3 then 3 else if t = 4 then 4 else if t = 5 then 5 else if t = 9 then 9 else if t = 20 then 20 else 0, fun x => x⟩
theorem lays : SlLaysJ.n14 Tryd.prog jren where
  mixed := by kernel_rfl
  f14 := by kernel_rfl
  f15 := by kernel_rfl
  t0 := by kernel_rfl
  a0 := fun w => by kernel_rfl
  z0 := fun w => by kernel_rfl
  v0 := fun w => by kernel_rfl
  t3 := by kernel_rfl
  a3 := fun w => by kernel_rfl
  z3 := fun w => by kernel_rfl
  v3 := fun w => by kernel_rfl
  t4 := by kernel_rfl
  a4 := fun w => by kernel_rfl
  z4 := fun w => by kernel_rfl
  v4 := fun w => by kernel_rfl
  t9 := by kernel_rfl
  a9 := fun w => by kernel_rfl
  z9 := fun w => by kernel_rfl
  v9 := fun w => by kernel_rfl
  t20 := by kernel_rfl
  a20 := fun w => by kernel_rfl
  z20 := fun w => by kernel_rfl
  v20 := fun w => by kernel_rfl
  t22 := by kernel_rfl
  a22 := fun w => by kernel_rfl
  z22 := fun w => by kernel_rfl
  v22 := fun w => by kernel_rfl
  t26 := by kernel_rfl
  a26 := fun w => by kernel_rfl
  z26 := fun w => by kernel_rfl
  v26 := fun w => by kernel_rfl
  t5 := by kernel_rfl
  z5 := fun w => by kernel_rfl
  i5 := by kernel_rfl

def u8s (l : List Nat) : List UInt8 := l.map UInt8.ofNat
theorem u8_toNat (n : Nat) (h : n < 256) : (UInt8.ofNat n).toNat = n := by
  simp [UInt8.toNat_ofNat']; omega
theorem u8s_inj {a b : List Nat} (ha : Bytes a) (hb : Bytes b) (h : u8s a = u8s b) : a = b := by
  have hl : a.length = b.length := by have := congrArg List.length h; simpa [u8s] using this
  apply List.ext_getElem hl
  intro k h1 h2
  have e : (u8s a)[k]? = (u8s b)[k]? := by rw [h]
  simp only [u8s, List.getElem?_map, List.getElem?_eq_getElem h1, List.getElem?_eq_getElem h2, Option.map_some, Option.some.injEq] at e
  have := congrArg UInt8.toNat e
  rwa [u8_toNat _ (ha.at k h1), u8_toNat _ (hb.at k h2)] at this
theorem holds_of_bs {w : World} {v : Value} {l : List Nat} (h : BsAt w v l) (hb : Bytes l) : Lib.HoldsBytes w v (u8s l) := by
  obtain ⟨ao, cap, rfl, h⟩ := h
  refine ⟨ao, cap, by simp [u8s], fun e => ?_, fun a ha i x hx => ?_⟩
  · rcases h with h | ⟨b, off, h1, _⟩
    · simp [u8s, h]
    · rw [e] at h1; cases h1
  · have hi : i < l.length := by
      have := (List.getElem?_eq_some_iff.1 hx).1; simpa [u8s] using this
    rcases h with h | ⟨b, off, h1, h2, h3⟩
    · rw [h] at hi; simp at hi
    · rw [ha] at h1
      injection h1 with h1
      subst h1
      rw [Addr.add_lit, h3 i hi]
      simp only [u8s, List.getElem?_map, List.getElem?_eq_getElem hi, Option.map_some, Option.some.injEq] at hx
      rw [← hx, u8_toNat _ (hb.at i hi)]
theorem bsC_of_fresh {B : Nat} {w : World} {v : Value} {l : List Nat} (hb : Bytes l) (h : Lib.FreshBytes B w v (u8s l)) (hlt : ∀ g c, v = .slice (some ⟨g, 0, none⟩) l.length c → l ≠ [] → g < w.heap.size) : BsC w v l := by
  obtain ⟨g, cap, zs, hv, h1, h2, h3, h4, h5, h6, h7, h8⟩ := h
  have hll : (u8s l).length = l.length := by simp [u8s]
  rw [hll] at hv h2 h6
  refine ⟨some ⟨g, 0, none⟩, cap - l.length, by rw [hv]; congr 1; omega, ?_⟩
  by_cases he : l = []
  · exact .inl he
  · refine .inr ⟨g, 0, rfl, hlt g cap hv he, fun k hk => ?_⟩
    rw [Nat.zero_add, h7 k (by omega)]
    have hkz : k < zs.length := by omega
    have e : zs.getD k 0 = zs[k] := by simp [hkz]
    rw [e]
    have hz := h5 zs[k] (List.getElem_mem _)
    have e2 : (Lib.bytesOf (zs.take l.length))[k]? = (u8s l)[k]? := by rw [h6]
    simp only [Lib.bytesOf, u8s, List.getElem?_map, List.getElem?_take_of_lt hk, List.getElem?_eq_getElem hkz, List.getElem?_eq_getElem hk, Option.map_some, Option.some.injEq] at e2
    have := congrArg UInt8.toNat e2
    rw [u8_toNat _ (by omega), u8_toNat _ (hb.at k hk)] at this
    congr 2; omega
theorem u8s_flatten (ps : List (List Nat)) : u8s ps.flatten = (ps.map u8s).flatten := by
  unfold u8s; rw [List.map_flatten]
theorem join_flat (xs : List (List UInt8)) : Lib.join xs [] = xs.flatten := by
  cases xs with
  | nil => rfl
  | cons x r => rw [Lib.join_cons]; simp [Lib.joinTail]
theorem lens_flat (xs : List (List UInt8)) : Lib.lens xs = xs.flatten.length := by simp [Lib.lens, List.length_flatten]
theorem bytes_flat {ps : List (List Nat)} (h : ∀ j, (h : j < ps.length) → Bytes ps[j]) : Bytes ps.flatten := by
  intro v hv
  obtain ⟨l, hl, hm⟩ := List.mem_flatten.1 hv
  obtain ⟨j, hj, rfl⟩ := List.mem_iff_getElem.1 hl
  exact h j hj v hm

/-- bytes.Join of rows, with nothing in between. -/
theorem join_any (ps : List (List Nat)) (d b : Nat) (w : World) (hd : 1 ≤ d) (hl : ps.length = d) (hr : RowsC w (.slice (some ⟨b, 0, none⟩) d d) ps) (hbytes : ∀ j, (h : j < ps.length) → Bytes ps[j]) (hd2 : d ≤ 100) (hs : ps.flatten.length ≤ 100000) :
    Calls Tryd.prog 68 #[.slice (some ⟨b, 0, none⟩) d d, .slice none 0 0] w fun e w' => ∃ v, e = .returned v ∧ BsC w' v ps.flatten ∧ Below w.heap.size w w' := by
  have hc : ∀ k, (h : k < ps.length) → ∃ u, w.cell? ⟨b, 0 + k, none⟩ = some u ∧ BsAt w u ps[k] := fun k hk => by
    obtain ⟨b', off, cap, he, h1, h2⟩ := hr.pos (by omega)
    injection he with he _ _
    injection he with he
    injection he with he1 he2
    subst he1 he2
    obtain ⟨u, h3, h4⟩ := h2 k hk
    exact ⟨u, h3, h4.bs⟩
  have hbf := bytes_flat hbytes
  by_cases h2 : 2 ≤ d
  · obtain ⟨vs, hvl, hvc, hvr⟩ := rows_cells hc
    have hP : Lib.PartsAt w ⟨b, 0, none⟩ vs (ps.map u8s) := by
      refine ⟨by simp [hvl], fun i v hv => by rw [Addr.add_lit]; exact hvc i v hv, fun i v l hv hl2 => ?_⟩
      have hi : i < ps.length := by
        have := (List.getElem?_eq_some_iff.1 hl2).1; simpa using this
      obtain ⟨u, h3, h4⟩ := hvr i hi
      rw [hv] at h3
      injection h3 with h3
      subst h3
      simp only [List.getElem?_map, List.getElem?_eq_getElem hi, Option.map_some, Option.some.injEq] at hl2
      rw [← hl2]
      exact holds_of_bs h4 (hbytes i hi)
    have hS : Lib.HoldsBytes w (.slice none 0 0) [] := ⟨none, 0, rfl, fun _ => rfl, fun a ha => by cases ha⟩
    have := Any.bytes_Join_many lays b 0 d d vs (ps.map u8s) (.slice none 0 0) [] w (by simp [hl]) h2 hP (Nat.le_refl _) hS (by omega) (by rw [lens_flat, ← u8s_flatten, show (u8s ps.flatten).length = ps.flatten.length from List.length_map _, List.length_nil, Nat.zero_mul]; omega)
    refine this.mono ?_
    rintro e w' ⟨v, rfl, hf, hb⟩
    rw [join_flat, ← u8s_flatten] at hf
    refine ⟨v, rfl, bsC_of_fresh hbf hf (fun g c hv hne => ?_), hb⟩
    obtain ⟨g', cap, zs, hv', _, hcp, _, _, _, _, h7, _⟩ := hf
    rw [hv] at hv'
    injection hv' with hv' _ _
    injection hv' with hv'
    injection hv' with hv'
    subst hv'
    have hpos : 0 < ps.flatten.length := List.length_pos_iff.2 hne
    exact block_lt_of_cell (h7 0 (by have : (u8s ps.flatten).length = ps.flatten.length := List.length_map _; omega))
  · obtain rfl : d = 1 := by omega
    obtain ⟨l0, hl0⟩ : ∃ l0, ps = [l0] := by
      match ps, hl with
      | [l0], _ => exact ⟨l0, rfl⟩
    subst hl0
    obtain ⟨u, hu, hbs⟩ := hc 0 (by simp)
    have hb0 : Bytes l0 := hbytes 0 (by simp)
    have hfl : [l0].flatten = l0 := by simp
    rw [hfl] at hbf hs ⊢
    obtain ⟨ao, cap, rfl, h1⟩ := hbs
    simp only [List.getElem_cons_zero] at h1 hu
    by_cases he : l0 = []
    · subst he
      refine (Any.bytes_Join_one_empty lays b 0 1 ao cap (.slice none 0 0) w hu).mono ?_
      rintro e w' ⟨rfl, rfl⟩
      exact ⟨_, rfl, ⟨none, 0, rfl, .inl rfl⟩, Below.refl _ _⟩
    · obtain ⟨b', off, rfl, h2, h3⟩ : ∃ b off, ao = some ⟨b, off, none⟩ ∧ b < w.heap.size ∧ ∀ k, (h : k < l0.length) → w.cell? ⟨b, off + k, none⟩ = some (.int .u8 (l0[k] : Nat)) := by
        rcases h1 with h | h
        · exact absurd h he
        · exact h
      have hpos : 0 < l0.length := List.length_pos_iff.2 he
      refine (Any.bytes_Join_one lays b 0 1 ⟨b', off, none⟩ cap (u8s l0) (.slice none 0 0) w (by simpa [u8s] using hu) (fun i x hx => ?_) (by simpa [u8s] using hpos) (by simp [u8s]; omega)).mono ?_
      · have hi : i < l0.length := by
          have := (List.getElem?_eq_some_iff.1 hx).1; simpa [u8s] using this
        rw [Addr.add_lit, h3 i hi]
        simp only [u8s, List.getElem?_map, List.getElem?_eq_getElem hi, Option.map_some, Option.some.injEq] at hx
        rw [← hx, u8_toNat _ (hb0.at i hi)]
      · rintro e w' ⟨v, rfl, hf, hb⟩
        refine ⟨v, rfl, bsC_of_fresh hb0 hf (fun g c hv hne => ?_), hb⟩
        obtain ⟨g', cap', zs, hv', _, hcp, _, _, _, _, h7, _⟩ := hf
        rw [hv] at hv'
        injection hv' with hv' _ _
        injection hv' with hv'
        injection hv' with hv'
        subst hv'
        exact block_lt_of_cell (h7 0 (by have : (u8s l0).length = l0.length := List.length_map _; omega))
end Go.Proofs.YtlnpppdffhibjaaDoor.Ref

namespace Go.Proofs.YtlnpppdffhibjaaDoor.Ref
open Go.RowKit Mem FieldWalks Tab ByTab Parts
open Gf (Bytes chosen left_ Fits sumTo)
open Plans (rowF)
open Top (SumsOk whole_any)

/-- The shape, as the program asks it. -/
theorem shape_iff (d s L : Nat) (pieces : List ByteArray) (lost : List Int) : ShapeOk d s L pieces lost ↔ NumsOk (d + s) lost ∧ (pieces.length = d + s ∧ SizesOk L pieces lost) :=
  ⟨fun h => ⟨h.nums, h.count, h.sizes⟩, fun h => ⟨h.2.1, h.1, h.2.2⟩⟩
theorem facs_fit (d s L : Nat) (ps : List (List Nat)) (hd : 1 ≤ d) (hd2 : d ≤ 10) (hs : s ≤ 6) (hL : L ≤ 400) (hl : ps.length = d) (hsz : ∀ j, (h : j < ps.length) → ps[j].length = L) (hb : ∀ j, (h : j < ps.length) → Bytes ps[j]) : Fit (facs d s) ps L := by
  refine ⟨by omega, by omega, by simp [facs]; omega, hsz, fun i hi => by simp [facs, facRow, hl], fun i hi => ?_, hb, by omega⟩
  simp only [facs, List.length_map, List.length_range] at hi
  simp only [facs, List.getElem_map, List.getElem_range]
  exact facRow_bytes _ _ (by omega)

set_option maxRecDepth 100000 in
set_option maxHeartbeats 2000000 in
theorem pGather_any (hS : SumsOk) (d s x n L : Nat) (pieces : List ByteArray) (lost : List Int) (ps : List (List Nat)) (pv lv : Value) (w : World) (ht : Table w) (hp : StrsAt w pv pieces) (hl : IsC w lv lost) (hd : 1 ≤ d) (hd2 : d ≤ 10) (hs : s ≤ 6) (hx : x ≤ 2) (hn : n ≤ 400) (hL : L = (n + d - 1) / d)
    (hyes : ShapeOk d s L pieces lost) (hfew : lost.length ≤ s) (hfit : Fits d L (chosen (left_ lost) d s) (fun p => nums (pieces.getD p ByteArray.empty)) ps) :
    Calls Tryd.prog 46 #[.int .i64 d, .int .i64 s, .int .i64 x, .int .i64 n, pv, lv] w fun e w' => ∃ b, w.heap.size ≤ b ∧ e = .returned (.tuple #[.string (mkS (ps.flatten.take n)), .slice (some ⟨b, 0, none⟩) (d + s) (d + s)]) ∧ Blk w' b 9 (strV (texts ps (sums (facs d s) ps L))) ∧ Below w.heap.size w w' := by
  have hLs : L ≤ 400 := by have := ceil_le n d hd; omega
  have hnL : n ≤ d * L := by rw [hL]; exact ceil_mul n d (by omega)
  have HRB := rebuild_any hS d s x L pieces lost ps pv lv w ht hp hl hd hd2 hs hx hLs hyes hfew hfit
  have HRBH : Hid _ := HRB
  have HT : Hid (Table w) := ht
  have HFI : Hid (Fit (facs d s) ps L) := facs_fit d s L ps hd hd2 hs hLs hfit.len hfit.size hfit.byte
  have HPL : Hid (ps.length = d) := hfit.len
  have HPB : Hid (∀ j, (h : j < ps.length) → Bytes ps[j]) := hfit.byte
  have hfl : ps.flatten.length = d * L := by rw [flatten_length ps L hfit.size, hfit.len]
  have hfl2 : d * L ≤ 4000 := Nat.mul_le_mul hd2 hLs
  obtain ⟨T, hT⟩ : ∃ T, T = ps.flatten.length := ⟨_, rfl⟩
  have hT1 : n ≤ T := by omega
  have hT2 : T ≤ 4000 := by omega
  have HTE : Hid (T = ps.flatten.length) := hT
  clear HRB ht hp hl hyes hfew hfit hfl hfl2 hT hL
  go_enter Tryd.func46, Tryd.ntmps46
  go_wp2_with fail
  refine Calls.mono HRBH.out ?_
  rintro e w1 ⟨cb, hcb, rfl, hrows, hb1⟩
  have hjn := join_any ps d cb w1 hd HPL.out hrows HPB.out (by omega) (by rw [← HTE.out]; omega)
  have HJN : Hid _ := hjn
  have HRO : Hid (RowsC w1 (.slice (some ⟨cb, 0, none⟩) d d) ps) := hrows
  have HB1 : Hid (Below w.heap.size w w1) := hb1
  clear hjn hrows hb1 HRBH
  go_wp2_with fail
  refine Calls.mono HJN.out ?_
  rintro e w2 ⟨v, rfl, hbs, hb2⟩
  have HB2 : Hid (Below w.heap.size w w2) := HB1.out.trans (hb2.mono HB1.out.size)
  have HRO2 : Hid (RowsC w2.drew (.slice (some ⟨cb, 0, none⟩) d d) ps) := (HRO.out.to hb2).to (Below.refl _ _).drew
  obtain ⟨ao, ex, rfl, hbc⟩ := hbs
  rw [← HTE.out]
  have HBT : Hid (BsAt w2.drew (.slice ao n (T + ex)) (ps.flatten.take n)) := by
    have hlt : (ps.flatten.take n).length = n := by rw [List.length_take, ← HTE.out]; omega
    refine ⟨ao, T + ex, by rw [hlt], ?_⟩
    rcases hbc with h | ⟨b, off, h1, h2, h3⟩
    · exact .inl (by rw [h]; simp)
    · exact .inr ⟨b, off, h1, h2, fun k hk => by rw [List.getElem_take]; exact h3 k (by rw [List.length_take] at hk; omega)⟩
  have hcv2 : (convert 93 9 (.slice ao n (T + ex))).run Tryd.prog w2.drew = .ok (.string (mkS (ps.flatten.take n))) w2.drew := conv_str _ _ _ HBT.out
  have HTW : Hid (Table w2.drew) := table_to HT.out HB2.out.drew
  have hnT : (n : Int) ≤ (T : Int) := by omega
  clear hbc hb2 HJN
  go_wp2_with fail
  go_region_with (go_at_call 58; refine (whole_any hS d s x ps L _ HPL.out hd2 hs hx HFI.out _ (by exact HTW.out) (by exact HRO2.out)).mono ?_; rintro e w3 ⟨b, hb, rfl, hblk, hb3⟩; have hcv3 := conv_str w3 _ _ (HBT.out.to hb3))
  all_goals
    go_wp2
    go_ret2
    exact ⟨b, Nat.le_trans HB2.out.size hb, rfl, hblk, HB2.out.drew.trans (hb3.mono HB2.out.size)⟩

section
variable (pv lv : Value) (w : World)
set_option maxRecDepth 100000
theorem gFault_count (d s x n : Int) (h : okCounts d s = false) :
    Calls Tryd.prog 45 #[.int .i64 d, .int .i64 s, .int .i64 x, .int .i64 n, pv, lv] w fun e w' => e = .returned (.int .i64 3) ∧ w' = w := by
  go_enter Tryd.func45, Tryd.ntmps45
  go_wp2_with fail
  refine (areCounts_any _ _ _).mono ?_
  rintro e w' ⟨rfl, rfl⟩
  go_wp2
  go_ret
  exact ⟨rfl, rfl⟩
theorem gFault_way (d s x n : Int) (h1 : okCounts d s = true) (h : okWay x = false) :
    Calls Tryd.prog 45 #[.int .i64 d, .int .i64 s, .int .i64 x, .int .i64 n, pv, lv] w fun e w' => e = .returned (.int .i64 4) ∧ w' = w := by
  go_enter Tryd.func45, Tryd.ntmps45
  go_wp2_with fail
  refine (areCounts_any _ _ _).mono ?_
  rintro e w' ⟨rfl, rfl⟩
  go_wp2_with fail
  refine (isWay_any _ _).mono ?_
  rintro e w' ⟨rfl, rfl⟩
  go_wp2
  go_ret
  exact ⟨rfl, rfl⟩
theorem gFault_long (d s x n : Int) (h1 : okCounts d s = true) (h2 : okWay x = true) (h : ¬ (0 ≤ n ∧ n ≤ 400)) :
    Calls Tryd.prog 45 #[.int .i64 d, .int .i64 s, .int .i64 x, .int .i64 n, pv, lv] w fun e w' => e = .returned (.int .i64 5) ∧ w' = w := by
  have hz := okSize_no n h
  clear h
  go_enter Tryd.func45, Tryd.ntmps45
  go_wp2_with fail
  refine (areCounts_any _ _ _).mono ?_
  rintro e w' ⟨rfl, rfl⟩
  go_wp2_with fail
  refine (isWay_any _ _).mono ?_
  rintro e w' ⟨rfl, rfl⟩
  go_wp2_with fail
  refine (isSize_any _ _).mono ?_
  rintro e w' ⟨rfl, rfl⟩
  go_wp2
  go_ret
  exact ⟨rfl, rfl⟩
theorem gFault_rest (d s x n : Nat) (pieces : List ByteArray) (lost : List Int) (hp : StrsAt w pv pieces) (hl : IsC w lv lost) (hll : lost.length < 2 ^ 62) (hpl : pieces.length < 2 ^ 62) (hd : 1 ≤ d) (hd2 : d ≤ 10) (hs : s ≤ 6) (hx : x ≤ 2) (hn : n ≤ 400) (hsz : ∀ p, (h : p < pieces.length) → pieces[p].size < 2 ^ 62) (q : Bool) (hq : q = true ↔ ShapeOk d s ((n + d - 1) / d) pieces lost) :
    Calls Tryd.prog 45 #[.int .i64 d, .int .i64 s, .int .i64 x, .int .i64 n, pv, lv] w fun e w' => e = .returned (.int .i64 (if q = true then (if s < lost.length then 7 else 0) else 6)) ∧ w' = w := by
  have hok : okCounts d s = true := okCounts_yes _ _ (by omega)
  have how : okWay x = true := okWay_yes _ (by omega)
  have hz : okSize n = true := okSize_yes _ (by omega)
  have hG := goTogether_any d s n _ pieces lost pv lv w hp hl hll hpl hd hd2 hs hn rfl hsz
  have hA := areNumbers_any (d + s) (by omega) lost lv w hl hll
  rw [Int.natCast_add] at hA
  have HG : Hid _ := hG
  have HA : Hid _ := hA
  have HQ : Hid (q = true ↔ NumsOk (d + s) lost ∧ (pieces.length = d + s ∧ SizesOk ((n + d - 1) / d) pieces lost)) := hq.trans (shape_iff _ _ _ _ _)
  obtain ⟨lao, lex, rfl, _⟩ := hl
  clear hG hA hq hp hsz hpl
  go_enter Tryd.func45, Tryd.ntmps45
  go_wp2_with fail
  refine (areCounts_any _ _ _).mono ?_
  rintro e w' ⟨rfl, rfl⟩
  go_wp2_with fail
  refine (isWay_any _ _).mono ?_
  rintro e w' ⟨rfl, rfl⟩
  go_wp2_with fail
  refine (isSize_any _ _).mono ?_
  rintro e w' ⟨rfl, rfl⟩
  go_wp2_with fail
  refine Calls.mono HA.out ?_
  rintro e w' ⟨⟨b1, rfl, hb1⟩, rfl⟩
  have HB1 : Hid (b1 = true ↔ NumsOk (d + s) lost) := hb1
  clear hb1
  cases b1 with
  | false =>
    have hqf : q = false := by
      cases q with
      | false => rfl
      | true => exact absurd (HB1.out.2 (HQ.out.1 rfl).1) (by decide)
    subst hqf
    go_wp2
    go_ret
    exact ⟨rfl, rfl⟩
  | true =>
    go_wp2_with fail
    refine Calls.mono HG.out ?_
    rintro e w' ⟨⟨b2, rfl, hb2⟩, rfl⟩
    have HB2 : Hid (b2 = true ↔ pieces.length = d + s ∧ SizesOk ((n + d - 1) / d) pieces lost) := hb2
    clear hb2
    cases b2 with
    | false =>
      have hqf : q = false := by
        cases q with
        | false => rfl
        | true => exact absurd (HB2.out.2 (HQ.out.1 rfl).2) (by decide)
      subst hqf
      go_wp2
      go_ret
      exact ⟨rfl, rfl⟩
    | true =>
      have hqt : q = true := HQ.out.2 ⟨HB1.out.1 (by trivial), HB2.out.1 (by trivial)⟩
      subst hqt
      by_cases hm : s < lost.length
      · have e1 : decide ((s : Int) < (lost.length : Int)) = true := decide_eq_true (by omega)
        go_wp2
        go_ret
        exact ⟨by simp, rfl⟩
      · have e1 : decide ((s : Int) < (lost.length : Int)) = false := decide_eq_false (by omega)
        go_wp2
        go_ret
        exact ⟨by simp, rfl⟩
theorem wGather_no (k : Nat) (hk : 1 ≤ k) (_hk2 : k ≤ 100) (d s x n : Int) (hF : Calls Tryd.prog 45 #[.int .i64 d, .int .i64 s, .int .i64 x, .int .i64 n, pv, lv] w fun e w' => e = .returned (.int .i64 k) ∧ w' = w) :
    Calls Tryd.prog 24 #[.int .i64 d, .int .i64 s, .int .i64 x, .int .i64 n, pv, lv] w fun e w' => GNo k e ∧ w' = w := by
  have hk0 : ((k : Int) != 0) = true := by simp; omega
  have hk1 : ¬ k = 0 := by omega
  go_enter Tryd.func24, Tryd.ntmps24
  go_wp2_with fail
  refine Calls.mono hF ?_
  rintro e w' ⟨rfl, rfl⟩
  go_wp2
  go_ret3
  exact ⟨rfl, rfl⟩
theorem wGather_ok (hS : SumsOk) (d s x n L : Nat) (pieces : List ByteArray) (lost : List Int) (ps : List (List Nat)) (ht : Table w) (hp : StrsAt w pv pieces) (hl : IsC w lv lost) (hd : 1 ≤ d) (hd2 : d ≤ 10) (hs : s ≤ 6) (hx : x ≤ 2) (hn : n ≤ 400) (hL : L = (n + d - 1) / d) (hsz : ∀ p, (h : p < pieces.length) → pieces[p].size < 2 ^ 62)
    (hyes : ShapeOk d s L pieces lost) (hfew : lost.length ≤ s) (hfit : Fits d L (chosen (left_ lost) d s) (fun p => nums (pieces.getD p ByteArray.empty)) ps) :
    Calls Tryd.prog 24 #[.int .i64 d, .int .i64 s, .int .i64 x, .int .i64 n, pv, lv] w fun e w' => ∃ b, w.heap.size ≤ b ∧ e = .returned (.tuple #[.string (mkS (ps.flatten.take n)), .slice (some ⟨b, 0, none⟩) (d + s) (d + s), .int .i64 0]) ∧ Blk w' b 9 (strV (texts ps (sums (facs d s) ps L))) ∧ Below w.heap.size w w' := by
  have hF := gFault_rest pv lv w d s x n pieces lost hp hl (by omega) (by rw [hyes.count]; omega) hd hd2 hs hx hn hsz true ⟨fun _ => by rw [← hL]; exact hyes, fun _ => rfl⟩
  rw [if_pos rfl, if_neg (by omega)] at hF
  have HPH : Hid _ := pGather_any hS d s x n L pieces lost ps pv lv w ht hp hl hd hd2 hs hx hn hL hyes hfew hfit
  have HFH : Hid _ := hF
  clear hF hyes hsz hp hl hfit
  go_enter Tryd.func24, Tryd.ntmps24
  go_wp2_with fail
  refine Calls.mono HFH.out ?_
  rintro e w' ⟨rfl, rfl⟩
  go_wp2_with fail
  refine Calls.mono HPH.out ?_
  rintro e w1 ⟨b, hb, rfl, hblk, hb1⟩
  have HBLK : Hid (Blk w1 b 9 (strV (texts ps (sums (facs d s) ps L)))) := hblk
  clear hblk
  go_wp2
  go_ret3
  exact ⟨b, hb, rfl, HBLK.out, hb1⟩
end
end Go.Proofs.YtlnpppdffhibjaaDoor.Ref

namespace Go.Proofs.YtlnpppdffhibjaaDoor.KeepW
open Go.RowKit Mem FieldWalks Tab ByTab Parts Ref Top
open Gf (chosen left_ Fits)

theorem gather_yes (hS : SumsOk) : GatherYes := by
  intro d s x n L pieces lost pv lv w ht hp hl hd hd2 hs hx hn hL hsz hyes hfew
  obtain ⟨ps, hfit⟩ : ∃ ps, Fits d L (chosen (left_ lost) d s) (fun p => nums (pieces.getD p ByteArray.empty)) ps := by
    obtain ⟨_, _, _, ⟨_, ps, _, h, _⟩, _⟩ := rGather_ok d s x n L pieces lost pv lv w hp hl hd hd2 hs hx hn hL hsz hyes hfew []
    exact ⟨ps, h⟩
  have htl : (texts ps (sums (facs d s) ps L)).length = d + s := by simp [texts, sums, facs, hfit.len]
  refine (wGather_ok pv lv w hS d s x n L pieces lost ps ht hp hl hd hd2 hs hx hn hL hsz hyes hfew hfit).mono ?_
  rintro e w' ⟨b, _, rfl, hblk, hbel⟩
  exact ⟨_, ps, rfl, hfit, StrsAt.of_blk hblk _ _ htl.symm, hbel⟩
theorem gather_few : GatherFew := by
  intro d s x n L pieces lost pv lv w _ hp hl hd hd2 hs hx hn hL hsz hyes hfew hll
  have h := gFault_rest pv lv w d s x n pieces lost hp hl (by omega) (by rw [hyes.count]; omega) hd hd2 hs hx hn hsz true ⟨fun _ => by rw [← hL]; exact hyes, fun _ => rfl⟩
  rw [if_pos rfl, if_pos hfew] at h
  refine (wGather_no pv lv w 7 (by omega) (by omega) d s x n h).mono ?_
  rintro e w' ⟨he, rfl⟩
  exact ⟨he, Below.refl _ _⟩
end Go.Proofs.YtlnpppdffhibjaaDoor.KeepW

namespace Go.Proofs.YtlnpppdffhibjaaDoor.KeepW
open Go.RowKit Mem FieldWalks Tab ByTab Parts Ref Top
open Gf (chosen left_ Fits)
open Plans (infoInt intsV)

set_option maxRecDepth 100000 in
set_option maxHeartbeats 4000000 in
theorem kways_any (hS : SumsOk) (hY : GatherYes) (data spare : Int) (text : ByteArray) (lost : List Int) (lv : Value) (w : World) (ht : Table w) (hw0 : 0 < w.heap.size) (hl : IsC w lv lost) (hll : lost.length < 2 ^ 62) (hlb : ∀ x, x ∈ lost → -9223372036854775808 ≤ x ∧ x ≤ 9223372036854775807)
    (hd1 : -9223372036854775808 ≤ data) (hd2 : data ≤ 9223372036854775807) (hs1 : -9223372036854775808 ≤ spare) (hs2 : spare ≤ 9223372036854775807) :
    Calls Tryd.prog 10 #[.int .i64 data, .int .i64 spare, .string text, lv] w fun e w' => e = .returned (.bool true) ∧ Below w.heap.size w w' := by
  have HS0 : ∀ (x : Nat) (W : World), x ≤ 2 → Below w.heap.size w W → Calls Tryd.prog 28 #[.int .i64 data, .int .i64 spare, .int .i64 (x : Int), .string text] W fun e w' => ∃ b lb, e = .returned (.pointer (some ⟨b, 0, none⟩)) ∧ Spr w' W.heap.size b (1 + pickI data 10) (pickI spare 7) (shortS text) lb ∧ Below W.heap.size W w' :=
    fun x W hx hb => kspread_any hS data spare x text W (table_below ht hb hw0) (Nat.lt_of_lt_of_le hw0 hb.size) hd1 hd2 hs1 hs2 (by omega) (by omega)
  have HLV : Hid (IsC w lv lost) := hl
  obtain ⟨d, hd⟩ : ∃ d, d = 1 + pickI data 10 := ⟨_, rfl⟩
  obtain ⟨s, hs⟩ : ∃ s, s = pickI spare 7 := ⟨_, rfl⟩
  obtain ⟨T, hT⟩ : ∃ T, T = shortS text := ⟨_, rfl⟩
  have b1 := pickI_lt data 10 (by omega)
  have b2 := pickI_lt spare 7 (by omega)
  have hTs : T.size ≤ 400 := by rw [hT]; exact shortS_size _
  rw [← hd, ← hs, ← hT] at HS0
  have hd0 : 1 ≤ d := by omega
  have hd10 : d ≤ 10 := by omega
  have hs6 : s ≤ 6 := by omega
  have HSP : Hid (∀ (x : Nat) (W : World), x ≤ 2 → Below w.heap.size w W → Calls Tryd.prog 28 #[.int .i64 data, .int .i64 spare, .int .i64 (x : Int), .string text] W fun e w' => ∃ b lb, e = .returned (.pointer (some ⟨b, 0, none⟩)) ∧ Spr w' W.heap.size b d s T lb ∧ Below W.heap.size W w') := HS0
  have HLB : Hid (∀ x, x ∈ lost → -9223372036854775808 ≤ x ∧ x ≤ 9223372036854775807) := hlb
  obtain ⟨pcs, hpcs⟩ : ∃ pcs, pcs = pieces d s T := ⟨_, rfl⟩
  have hpl : pcs.length = d + s := by rw [hpcs]; exact pieces_length d s T
  have HPC : Hid (pcs = pieces d s T) := hpcs
  have HPL : Hid (pcs.length = d + s) := hpl
  have HT0 : Hid (Table w) := ht
  obtain ⟨lao, lex, rfl, _⟩ := hl
  clear hd hs hT b1 b2 HS0 hlb hpcs hpl ht
  go_enter Tryd.func10, Tryd.ntmps10
  go_wp2_with fail
  refine Calls.mono (HSP.out 0 _ (by omega) (Below.refl _ _)) ?_
  rintro e w1 ⟨b, lb, rfl, hspr1, hb1⟩
  have HS1 : Hid (Spr w1 w.heap.size b d s T lb) := hspr1
  have HB1 : Hid (Below w.heap.size w w1) := hb1
  clear hspr1 hb1
  go_wp2_with fail
  refine Calls.mono (HSP.out 1 _ (by omega) HB1.out) ?_
  rintro e w2 ⟨b2, lb2, rfl, hspr2, hb2⟩
  have HS2 : Hid (Spr w2 w1.heap.size b2 d s T lb2) := hspr2
  have HS12 : Hid (Spr w2 w.heap.size b d s T lb) := HS1.out.to hb2
  have HB2 : Hid (Below w.heap.size w w2) := HB1.out.trans (hb2.mono HB1.out.size)
  clear hspr2 hb2 HS1
  go_wp2_with fail
  refine Calls.mono (HSP.out 2 _ (by omega) HB2.out) ?_
  rintro e w3 ⟨b3, lb3, rfl, hspr3, hb3⟩
  have HS3 : Hid (Spr w3 w2.heap.size b3 d s T lb3) := hspr3
  have HS23 : Hid (Spr w3 w1.heap.size b2 d s T lb2) := HS2.out.to hb3
  have HS13 : Hid (Spr w3 w.heap.size b d s T lb) := HS12.out.to hb3
  have HB3 : Hid (Below w.heap.size w w3) := HB2.out.trans (hb3.mono HB2.out.size)
  have x3 := HS13.out.obj.cell_some (k := 3) rfl
  have y3 := HS23.out.obj.cell_some (k := 3) rfl
  have z3 := HS3.out.obj.cell_some (k := 3) rfl
  have SX : Hid (StrsAt w3 (.slice (some ⟨lb, 0, none⟩) (d + s) (d + s)) pcs) := by rw [HPC.out]; exact StrsAt.of_blk HS13.out.list _ _ (pieces_length d s T).symm
  have SY : Hid (StrsAt w3 (.slice (some ⟨lb2, 0, none⟩) (d + s) (d + s)) pcs) := by rw [HPC.out]; exact StrsAt.of_blk HS23.out.list _ _ (pieces_length d s T).symm
  have SZ : Hid (StrsAt w3 (.slice (some ⟨lb3, 0, none⟩) (d + s) (d + s)) pcs) := by rw [HPC.out]; exact StrsAt.of_blk HS3.out.list _ _ (pieces_length d s T).symm
  have HSA : Hid (∀ W, Drew w3 W → Calls Tryd.prog 30 #[.slice (some ⟨lb, 0, none⟩) (d + s) (d + s), .slice (some ⟨lb2, 0, none⟩) (d + s) (d + s)] W fun e w' => e = .returned (.bool true) ∧ Drew w3 w') := fun W hW => by
    refine (ksame_yes pcs _ _ W (SX.out.to hW.below) (SY.out.to hW.below) (by rw [HPL.out]; omega)).mono ?_
    rintro e w' ⟨he, n, rfl⟩
    exact ⟨he, hW.more n⟩
  have HSB : Hid (∀ W, Drew w3 W → Calls Tryd.prog 30 #[.slice (some ⟨lb2, 0, none⟩) (d + s) (d + s), .slice (some ⟨lb3, 0, none⟩) (d + s) (d + s)] W fun e w' => e = .returned (.bool true) ∧ Drew w3 w') := fun W hW => by
    refine (ksame_yes pcs _ _ W (SY.out.to hW.below) (SZ.out.to hW.below) (by rw [HPL.out]; omega)).mono ?_
    rintro e w' ⟨he, n, rfl⟩
    exact ⟨he, hW.more n⟩
  clear hspr3 hb3 HS2 HS12 HB1 HB2 SY SZ
  have HD0 : Hid (Drew w3 w3.drew) := ⟨1, rfl⟩
  go_wp2_with fail
  go_region_held3 (fun wx => wx.cell? ⟨b, 3, none⟩ = some (.slice (some ⟨lb, 0, none⟩) (d + s) (d + s)) ∧ wx.cell? ⟨b2, 3, none⟩ = some (.slice (some ⟨lb2, 0, none⟩) (d + s) (d + s))) (go_keep) (first | (go_at_call 30; refine Calls.mono (HSA.out _ (by exact HD0.out)) ?_; rintro e w4 ⟨rfl, hdr4⟩; have t0 := (hdr4.cell ⟨b, 3, none⟩).trans x3; have t1 := (hdr4.cell ⟨b2, 3, none⟩).trans y3))
  have HDR4 : Hid (Drew w3 w4) := hdr4
  have z4 := (hdr4.cell ⟨b3, 3, none⟩).trans z3
  have HDR4d : Hid (Drew w3 w4.drew) := hdr4.more 1
  clear hdr4 x3 y3 z3 HSA
  go_wp2_with fail
  go_region_held3 (fun wx => wx.cell? ⟨b2, 3, none⟩ = some (.slice (some ⟨lb2, 0, none⟩) (d + s) (d + s)) ∧ wx.cell? ⟨b3, 3, none⟩ = some (.slice (some ⟨lb3, 0, none⟩) (d + s) (d + s))) (go_keep) (first | (go_at_call 30; refine Calls.mono (HSB.out _ (by exact HDR4d.out)) ?_; rintro e w5 ⟨rfl, hdr5⟩; have v1 := (hdr5.cell ⟨b2, 3, none⟩).trans (HS23.out.obj.cell_some (k := 3) rfl); have v2 := (hdr5.cell ⟨b3, 3, none⟩).trans (HS3.out.obj.cell_some (k := 3) rfl)))
  have HS5 : Hid (Spr w5 w.heap.size b d s T lb) := HS13.out.to hdr5.below
  have HB5 : Hid (Below w.heap.size w w5) := HB3.out.trans (hdr5.below.mono HB3.out.size)
  have c0 := HS5.out.obj.cell_some (k := 0) rfl
  have c1 := HS5.out.obj.cell_some (k := 1) rfl
  have hbl := HS5.out.obj.lt
  obtain ⟨l, hl⟩ : ∃ l, l = goneTo lost (d + s) s lost.length := ⟨_, rfl⟩
  have HG : Hid (Calls Tryd.prog 29 #[.slice lao lost.length (lost.length + lex), .int .i64 ((d : Int) + (s : Int)), .int .i64 s] w5.drew fun e w' => ∃ v, e = .returned v ∧ w'.ownsRow w5.heap.size 3 1 v l.length (intsV l) ∧ Below w5.heap.size w5 w') := by
    have := kgone_any lost (d + s) s (.slice lao lost.length (lost.length + lex)) w5.drew (HLV.out.to HB5.out.drew) hll HLB.out (by omega) (by omega) (by omega)
    rw [← hl, show ((d + s : Nat) : Int) = (d : Int) + (s : Int) by omega] at this
    refine Calls.mono this ?_
    rintro e w' ⟨v, he, h1, h2⟩
    exact ⟨v, he, h1, (Below.refl _ _).drew.trans h2⟩
  have HLL : Hid (l.Nodup ∧ (∀ x, x ∈ l → x < d + s) ∧ l.length ≤ s) := by
    rw [hl]; exact ⟨goneTo_nodup _ _ _ _, goneTo_lt _ _ _ _ (by omega), goneTo_le _ _ _ _⟩
  have y5 : IntKind.i64.wrap ((d : Int) + (s : Int)) = (d : Int) + (s : Int) := by rw [IntKind.wrap_i64]; omega
  clear hdr5 t0 t1 z4 v1 v2 hl HSB HS13 HS23 HS3 HB3 HDR4 HDR4d HD0 SX
  go_wp2_with fail
  go_region_held3 (fun wx => wx.cell? ⟨b, 0, none⟩ = some (.int .i64 (d : Int)) ∧ wx.cell? ⟨b, 1, none⟩ = some (.int .i64 (s : Int))) (go_keep) (first | (go_at_call 29; refine Calls.mono HG.out ?_; rintro e w6 ⟨lv2, rfl, hlown, hb6⟩; have t0 := (hb6.cell (p := ⟨b, 0, none⟩) hbl).trans c0; have t1 := (hb6.cell (p := ⟨b, 1, none⟩) hbl).trans c1))
  have HS6 : Hid (Spr w6 w.heap.size b d s T lb) := HS5.out.to hb6
  have HB6 : Hid (Below w.heap.size w w6) := HB5.out.trans (hb6.mono HB5.out.size)
  obtain ⟨la, lc, rfl⟩ := Plans.owns_form hlown
  have HIL : Hid (IsC w6 (.slice la l.length lc) (l.map Int.ofNat)) := IsC.of_owns hlown
  have hbl6 : b < w6.heap.size := HS6.out.obj.lt
  clear hlown hb6 t0 t1 c0 c1 HG HS5 HB5 hbl
  obtain ⟨L, hL⟩ : ∃ L, L = (T.size + d - 1) / d := ⟨_, rfl⟩
  have hTL : T.size ≤ d * L := by rw [hL]; exact ceil_mul T.size d (by omega)
  have HGA : Hid (∀ (x : Nat) (W : World), x ≤ 2 → Below w6.heap.size w6 W → Calls Tryd.prog 24 #[.int .i64 d, .int .i64 s, .int .i64 (x : Int), .int .i64 (T.size : Nat), .slice (some ⟨lb, 0, none⟩) (d + s) (d + s), .slice la l.length lc] W fun e w' => ∃ v, e = .returned (.tuple #[.string T, v, .int .i64 0]) ∧ StrsAt w' v pcs ∧ Below W.heap.size W w') := by
    intro x W hx hW
    have hpz : ∀ p, (h : p < pcs.length) → pcs[p].size = L := fun p h => by
      have := pieces_sizes d s T p (by rw [← HPC.out]; exact h)
      simp only [HPC.out]; rw [this, hL]
    have hLs : L ≤ 400 := by have := ceil_le T.size d hd0; omega
    have hlen : (l.map Int.ofNat).length ≤ s := by simpa using HLL.out.2.2
    have hst : StrsAt W (.slice (some ⟨lb, 0, none⟩) (d + s) (d + s)) pcs := by rw [HPC.out]; exact (StrsAt.of_blk HS6.out.list _ _ (pieces_length d s T).symm).to hW
    refine Calls.mono (hY d s x T.size L pcs (l.map Int.ofNat) _ _ W (table_below HT0.out (HB6.out.trans (hW.mono HB6.out.size)) hw0) hst (HIL.out.to hW) hd0 hd10 hs6 hx hTs hL (fun p h => by rw [hpz p h]; omega) (shape_all HPL.out hpz HLL.out.1 HLL.out.2.1) hlen) ?_
    rintro e w' ⟨v, ps, rfl, hfit, hst', hb'⟩
    have hfit2 := pieces_fit d s T (l.map Int.ofNat) pcs (by omega) (fun p hp hno => by rw [HPC.out])
    rw [← hL] at hfit2
    have e1 : ps = cuts (nums T) d L := Gf.Fits.sole (by omega) (Gf.enough d s _ hlen) hfit hfit2
    refine ⟨v, ?_, ?_, hb'⟩
    · rw [e1, flatten_take (nums T) d L T.size (nums_length T) hTL, mkS_nums]
    · have : texts ps (sums (facs d s) ps L) = pcs := by rw [e1, HPC.out, hL]; rfl
      rw [this] at hst'; exact hst'
  clear hL hTL HIL
  go_wp2
  go_loopw [15] (fun iv wr => ∃ i : Nat, i ≤ 3 ∧ iv = .int .i64 i ∧ Below w6.heap.size w6 wr) (fun iv _ => 3 - (intOf iv).toNat)
  case atStart => exact ⟨0, by omega, rfl, Below.refl _ _⟩
  case round =>
    obtain ⟨i, hi, rfl, hbel⟩ := hrel
    by_cases hi3 : i < 3
    · have HGI : Hid (Calls Tryd.prog 24 #[.int .i64 d, .int .i64 s, .int .i64 (i : Int), .int .i64 (T.size : Nat), .slice (some ⟨lb, 0, none⟩) (d + s) (d + s), .slice la l.length lc] wr.drew fun e w' => ∃ v, e = .returned (.tuple #[.string T, v, .int .i64 0]) ∧ StrsAt w' v pcs ∧ Below wr.heap.size wr w') := by
        refine Calls.mono (HGA.out i wr.drew (by omega) hbel.drew) ?_
        rintro e w' ⟨v, he, h1, h2⟩
        exact ⟨v, he, h1, (Below.refl _ _).drew.trans h2⟩
      have hsp := HS6.out.to hbel
      have k0 := hsp.obj.cell_some (k := 0) rfl
      have k1 := hsp.obj.cell_some (k := 1) rfl
      have k2 := hsp.obj.cell_some (k := 2) rfl
      have k3 := hsp.obj.cell_some (k := 3) rfl
      have hblr := hsp.obj.lt
      have HSR : Hid (Spr wr w.heap.size b d s T lb) := hsp
      have HBR : Hid (Below w6.heap.size w6 wr) := hbel
      clear hsp hbel
      go_wp2_with fail
      go_region_held3 (fun wx => wx.cell? ⟨b, 0, none⟩ = some (.int .i64 (d : Int)) ∧ wx.cell? ⟨b, 1, none⟩ = some (.int .i64 (s : Int)) ∧ wx.cell? ⟨b, 2, none⟩ = some (.string T) ∧ wx.cell? ⟨b, 3, none⟩ = some (.slice (some ⟨lb, 0, none⟩) (d + s) (d + s))) (go_keep) (first | (go_at_call 24; refine Calls.mono HGI.out ?_; rintro e w7 ⟨v7, rfl, hst7, hb7⟩; have u0 := (hb7.cell (p := ⟨b, 0, none⟩) hblr).trans k0; have u1 := (hb7.cell (p := ⟨b, 1, none⟩) hblr).trans k1; have u2 := (hb7.cell (p := ⟨b, 2, none⟩) hblr).trans k2; have u3 := (hb7.cell (p := ⟨b, 3, none⟩) hblr).trans k3))
      have HSA7 : Hid (Calls Tryd.prog 30 #[v7, .slice (some ⟨lb, 0, none⟩) (d + s) (d + s)] w7 fun e w' => e = .returned (.bool true) ∧ Drew w7 w') := by
        have hl7 : StrsAt w7 (.slice (some ⟨lb, 0, none⟩) (d + s) (d + s)) pcs := by rw [HPC.out]; exact StrsAt.of_blk ((HSR.out.to hb7).list) _ _ (pieces_length d s T).symm
        refine (ksame_yes pcs _ _ w7 hst7 hl7 (by rw [HPL.out]; omega)).mono ?_
        rintro e w' ⟨he, n, rfl⟩
        exact ⟨he, n, rfl⟩
      have HB67 : Hid (Below w6.heap.size w6 w7) := HBR.out.trans (hb7.mono HBR.out.size)
      obtain ⟨va7, vc7, rfl⟩ : ∃ ao c, v7 = .slice ao pcs.length c := by obtain ⟨ao, c, h, _⟩ := hst7; exact ⟨ao, c, h⟩
      clear hst7 hb7 k0 k1 k2 k3 HGI HSR HBR u0 u1
      go_wp2_with fail
      refine Calls.mono HSA7.out ?_
      rintro e w8 ⟨rfl, hdr8⟩
      have p2 := (hdr8.cell ⟨b, 2, none⟩).trans u2
      have HB68 : Hid (Below w6.heap.size w6 w8) := HB67.out.trans (hdr8.below.mono HB67.out.size)
      clear hdr8 u2 u3 HSA7 HB67
      go_wp2
      go_roundw
      case rel => exact ⟨i + 1, by omega, by go_num, HB68.out⟩
      case measure => simp [intOf]; omega
    · obtain rfl : i = 3 := by omega
      have HB9 : Hid (Below w.heap.size w wr) := HB6.out.trans (hbel.mono HB6.out.size)
      clear hbel
      go_wp2
      go_ret
      exact ⟨rfl, HB9.out⟩
end Go.Proofs.YtlnpppdffhibjaaDoor.KeepW

namespace Go.Proofs.YtlnpppdffhibjaaDoor.Top
open Go.RowKit Mem FieldWalks Tab ByTab Parts

set_option maxRecDepth 100000 in
set_option maxHeartbeats 1000000 in
/-- ████ Sums, in each of the three ways. ████ -/
theorem sums_any : SumsOk := by
  intro x rows ps L rv pv w hx ht hr hp hfit
  rcases (show x = 0 ∨ x = 1 ∨ x = 2 by omega) with rfl | rfl | rfl
  · go_enter Tryd.func75, Tryd.ntmps75
    go_wp2_with fail
    refine (sumsByTables_any rows ps L rv pv _ ht hr hp.rows hfit).mono ?_
    rintro e w1 ⟨v, rfl, hrow, hb⟩
    go_wp2
    go_ret
    exact ⟨_, rfl, hrow, hb⟩
  · go_enter Tryd.func75, Tryd.ntmps75
    go_wp2_with fail
    refine (Planes.sumsByPlanes_any rows ps L rv pv _ ht hr hp.rows hfit).mono ?_
    rintro e w1 ⟨v, rfl, hrow, hb⟩
    go_wp2
    go_ret
    exact ⟨_, rfl, hrow, hb⟩
  · go_enter Tryd.func75, Tryd.ntmps75
    go_wp2_with fail
    refine (Plans.sumsByPlan_any rows ps L rv pv _ ht hr hp hfit).mono ?_
    rintro e w1 ⟨v, rfl, hrow, hb⟩
    go_wp2
    go_ret
    exact ⟨_, rfl, hrow, hb⟩
end Go.Proofs.YtlnpppdffhibjaaDoor.Top

namespace Go.Proofs.YtlnpppdffhibjaaDoor.Book
open Go.RowKit Mem FieldWalks Tab ByTab Parts Ref
open Plans (But infoInt)

def beyond : ByteArray := ⟨#[98, 101, 121, 111, 110, 100]⟩
def mine : ByteArray := ⟨#[109, 105, 110, 101]⟩
theorem infoStrSize : (Tryd.prog.info? 9).map (·.size) = some 1 := by kernel_rfl
theorem infoIntSize : (Tryd.prog.info? 3).map (·.size) = some 1 := by kernel_rfl
theorem make_lent (n : Nat) (hn : n ≤ 8796093022204) (w : World) :
    (Instr.makeSlice 38 (.int .i64 ((n : Int) + 4)) (.int .i64 ((n : Int) + 4))).run Tryd.prog w = .ok (.slice (some ⟨w.heap.size, 0, none⟩) (n + 4) (n + 4)) (w.alloc (.cells (madeCells #[.string ByteArray.empty] (n + 4)) 9)) := by
  obtain ⟨i, hi, hz0, hz1, hz2⟩ := info_parts infoStr
  have := run_make (P := Tryd.prog) w 38 9 i (.string ByteArray.empty) Tryd.underlying38 hi hz0 .i64 .i64 ((n : Int) + 4) ((n : Int) + 4) (by omega) (by omega) (by rw [hz2]; omega) (by omega)
  rw [hz1, show ((n : Int) + 4).toNat = n + 4 by omega, Nat.mul_one] at this
  exact this
theorem make_lentI (n : Nat) (hn : n ≤ 17592186044412) (w : World) :
    (Instr.makeSlice 45 (.int .i64 ((n : Int) + 4)) (.int .i64 ((n : Int) + 4))).run Tryd.prog w = .ok (.slice (some ⟨w.heap.size, 0, none⟩) (n + 4) (n + 4)) (w.alloc (.cells (madeCells #[.int .i64 0] (n + 4)) 3)) := by
  obtain ⟨i, hi, hz0, hz1, hz2⟩ := info_parts infoInt
  have := run_make (P := Tryd.prog) w 45 3 i (.int .i64 0) Tryd.underlying45 hi hz0 .i64 .i64 ((n : Int) + 4) ((n : Int) + 4) (by omega) (by omega) (by rw [hz2]; omega) (by omega)
  rw [hz1, show ((n : Int) + 4).toNat = n + 4 by omega, Nat.mul_one] at this
  exact this
theorem eql_nilT (a : Option Addr) (n c : Nat) (w : World) : (binOp .eql 38 (.slice a n c) (.slice none 0 0)).run Tryd.prog w = .ok (.bool a.isNone) w := Lib.run_eql_slice_nil w 38 9 a n c 0 0 Tryd.underlying38
theorem eql_nilI (a : Option Addr) (n c : Nat) (w : World) : (binOp .eql 45 (.slice a n c) (.slice none 0 0)).run Tryd.prog w = .ok (.bool a.isNone) w := Lib.run_eql_slice_nil w 45 3 a n c 0 0 Tryd.underlying45
/-- The list, k of the caller's things behind it, then nothing yet. -/
def lentTo (vs : List Value) (x z : Value) (k : Nat) : List Value := vs ++ (List.replicate k x ++ List.replicate (4 - k) z)
theorem lentTo_next (vs : List Value) (x z : Value) (n k : Nat) (hn : vs.length = n) (hk : k < 4) : (lentTo vs x z k).set (n + k) x = lentTo vs x z (k + 1) := by
  unfold lentTo
  rw [List.set_append_right _ _ (by omega), hn, show n + k - n = k by omega, List.set_append_right _ _ (by simp), List.length_replicate, Nat.sub_self]
  obtain ⟨m, hm⟩ : ∃ m, 4 - k = m + 1 := ⟨4 - k - 1, by omega⟩
  rw [hm, List.replicate_succ, List.set_cons_zero, show 4 - (k + 1) = m by omega, List.replicate_succ']
  simp
theorem lentTo_at (vs : List Value) (x z : Value) (n k : Nat) (hn : vs.length = n) (hk : k < 4) : (lentTo vs x z k)[n + k]? = some z := by
  unfold lentTo
  rw [List.getElem?_append_right (by omega), hn, show n + k - n = k by omega, List.getElem?_append_right (by simp), List.length_replicate, Nat.sub_self]
  obtain ⟨m, hm⟩ : ∃ m, 4 - k = m + 1 := ⟨4 - k - 1, by omega⟩
  rw [hm, List.replicate_succ]; rfl
theorem splice_made (vs : List Value) (z : Value) (n : Nat) (hn : vs.length = n) : splice (madeCells #[z] (n + 4)).toList 0 vs = lentTo vs z z 0 := by
  unfold splice lentTo
  rw [toList_madeCells_one]
  simp [hn]

set_option maxRecDepth 100000 in
theorem lendT_nil (w : World) : Calls Tryd.prog 47 #[.slice none 0 0] w fun e w' => e = .returned (.slice none 0 0) ∧ w' = w := by
  have hnil := fun w => eql_nilT none 0 0 w
  go_enter Tryd.func47, Tryd.ntmps47
  go_wp2
  go_ret
  exact ⟨rfl, rfl⟩
set_option maxRecDepth 100000 in
theorem lendI_nil (w : World) : Calls Tryd.prog 48 #[.slice none 0 0] w fun e w' => e = .returned (.slice none 0 0) ∧ w' = w := by
  have hnil := fun w => eql_nilI none 0 0 w
  go_enter Tryd.func48, Tryd.ntmps48
  go_wp2
  go_ret
  exact ⟨rfl, rfl⟩
set_option maxRecDepth 100000 in
set_option maxHeartbeats 400000 in
theorem lendT_any (ss : List ByteArray) (ad : Addr) (c : Nat) (w : World) (h : StrsAt w (.slice (some ad) ss.length c) ss) (hn : ss.length ≤ 8796093022204) :
    Calls Tryd.prog 47 #[.slice (some ad) ss.length c] w fun e w' => ∃ b, w.heap.size ≤ b ∧ e = .returned (.slice (some ⟨b, 0, none⟩) ss.length (ss.length + 4)) ∧ Blk w' b 9 (lentTo (strV ss) (.string beyond) (.string ByteArray.empty) 4) ∧ Below w.heap.size w w' := by
  have hmk := fun w => make_lent ss.length hn w
  have hnil := fun w => eql_nilT (some ad) ss.length c w
  have HC : Hid (∀ j v, (strV ss)[j]? = some v → w.cell? (ad.add j) = some v ∧ (ad.add j).block < w.heap.size) := by
    intro j v hv
    have hj : j < ss.length := by have := (List.getElem?_eq_some_iff.1 hv).1; simpa [strV] using this
    obtain ⟨ao, cap, he, hx⟩ := h
    injection he with he _ _
    rcases hx with hx | ⟨b, off, hao, hlt, hc⟩
    · rw [hx] at hj; simp at hj
    · rw [← he] at hao
      injection hao with hao
      subst hao
      refine ⟨?_, by rw [Addr.add_lit]; exact hlt⟩
      rw [Addr.add_lit, hc j hj]
      simp [strV, hj] at hv
      rw [hv]
  clear h
  go_enter Tryd.func47, Tryd.ntmps47
  go_wp2_with ((refine wpList_copy_splice rfl _ _ 38 38 rfl 9 Tryd.underlying38 infoStrSize _ _ _ _ _ _ rfl rfl w.heap.size 0 (madeCells #[.string ByteArray.empty] (ss.length + 4)).toList 9 (by rw [Array.toArray_toList]; exact heap_alloc_new _ _) (strV ss) (by simp [strV]) (fun _ => ⟨rfl, ad, rfl, fun j v hv => by have := HC.out j v hv; exact (((Below.refl w.heap.size w).alloc (Nat.le_refl _) _).cell (p := ad.add j) this.2).trans this.1⟩) (by simp [strV, size_madeCells]) (by intro v hv; simp [strV] at hv; obtain ⟨s, _, rfl⟩ := hv; rfl) w.heap.size w ((Below.refl _ _).alloc (Nat.le_refl _) _) (Nat.le_refl _) ?_); intro w1 hr1 hb1)
  have HB : Hid (Blk w1 w.heap.size 9 (lentTo (strV ss) (.string beyond) (.string ByteArray.empty) 0)) := by
    have := hr1.out
    rw [splice_made _ _ ss.length (by simp [strV])] at this
    exact this
  clear hr1 hmk
  go_loopw [5] (fun iv wr => ∃ k : Nat, k ≤ 4 ∧ iv = .int .i64 ((ss.length + k : Nat) : Int) ∧ Blk wr w.heap.size 9 (lentTo (strV ss) (.string beyond) (.string ByteArray.empty) k) ∧ Below w.heap.size w wr) (fun iv _ => ss.length + 4 - (intOf iv).toNat)
  case atStart => exact ⟨0, Nat.zero_le _, rfl, HB.out, hb1⟩
  case round =>
    clear HB hb1
    obtain ⟨k, hk, rfl, hblk, hbel⟩ := hrel
    by_cases hlt : k < 4
    · have c1 := hblk.cell_some (lentTo_at (strV ss) (.string beyond) (.string ByteArray.empty) ss.length k (by simp [strV]) hlt)
      have f1 := hblk.free (ss.length + k)
      have HBL : Hid (Blk (wr.setCell ⟨w.heap.size, ss.length + k, none⟩ (.string beyond)) w.heap.size 9 (lentTo (strV ss) (.string beyond) (.string ByteArray.empty) (k + 1))) := (hblk.set _ _).eq (lentTo_next _ _ _ ss.length k (by simp [strV]) hlt)
      have hlt2 : (ss.length : Int) + (k : Int) < (ss.length : Int) + 4 := by omega
      clear hblk
      go_wp2
      go_roundw
      case rel => exact ⟨k + 1, by omega, by go_num, HBL.out, hbel.setCell (Nat.le_refl _) _⟩
      case measure => simp [intOf]; omega
    · obtain rfl : k = 4 := by omega
      go_wp2
      go_ret
      exact ⟨_, Nat.le_refl _, rfl, hblk, hbel⟩
def intV (l : List Int) : List Value := l.map (Value.int .i64)
set_option maxRecDepth 100000 in
set_option maxHeartbeats 400000 in
theorem lendI_any (ss : List Int) (ad : Addr) (c : Nat) (w : World) (h : IsC w (.slice (some ad) ss.length c) ss) (hn : ss.length ≤ 17592186044412) :
    Calls Tryd.prog 48 #[.slice (some ad) ss.length c] w fun e w' => ∃ b, w.heap.size ≤ b ∧ e = .returned (.slice (some ⟨b, 0, none⟩) ss.length (ss.length + 4)) ∧ Blk w' b 3 (lentTo (intV ss) (.int .i64 (-77)) (.int .i64 0) 4) ∧ Below w.heap.size w w' := by
  have hmk := fun w => make_lentI ss.length hn w
  have hnil := fun w => eql_nilI (some ad) ss.length c w
  have HC : Hid (∀ j v, (intV ss)[j]? = some v → w.cell? (ad.add j) = some v ∧ (ad.add j).block < w.heap.size) := by
    intro j v hv
    have hj : j < ss.length := by have := (List.getElem?_eq_some_iff.1 hv).1; simpa [intV] using this
    obtain ⟨ao, cap, he, hx⟩ := h
    injection he with he _ _
    rcases hx with hx | ⟨b, off, hao, hlt, hc⟩
    · rw [hx] at hj; simp at hj
    · rw [← he] at hao
      injection hao with hao
      subst hao
      refine ⟨?_, by rw [Addr.add_lit]; exact hlt⟩
      rw [Addr.add_lit, hc j hj]
      simp [intV, hj] at hv
      rw [hv]
  clear h
  go_enter Tryd.func48, Tryd.ntmps48
  go_wp2_with ((refine wpList_copy_splice rfl _ _ 45 45 rfl 3 Tryd.underlying45 infoIntSize _ _ _ _ _ _ rfl rfl w.heap.size 0 (madeCells #[.int .i64 0] (ss.length + 4)).toList 3 (by rw [Array.toArray_toList]; exact heap_alloc_new _ _) (intV ss) (by simp [intV]) (fun _ => ⟨rfl, ad, rfl, fun j v hv => by have := HC.out j v hv; exact (((Below.refl w.heap.size w).alloc (Nat.le_refl _) _).cell (p := ad.add j) this.2).trans this.1⟩) (by simp [intV, size_madeCells]) (by intro v hv; simp [intV] at hv; obtain ⟨s, _, rfl⟩ := hv; rfl) w.heap.size w ((Below.refl _ _).alloc (Nat.le_refl _) _) (Nat.le_refl _) ?_); intro w1 hr1 hb1)
  have HB : Hid (Blk w1 w.heap.size 3 (lentTo (intV ss) (.int .i64 (-77)) (.int .i64 0) 0)) := by
    have := hr1.out
    rw [splice_made _ _ ss.length (by simp [intV])] at this
    exact this
  clear hr1 hmk
  go_loopw [5] (fun iv wr => ∃ k : Nat, k ≤ 4 ∧ iv = .int .i64 ((ss.length + k : Nat) : Int) ∧ Blk wr w.heap.size 3 (lentTo (intV ss) (.int .i64 (-77)) (.int .i64 0) k) ∧ Below w.heap.size w wr) (fun iv _ => ss.length + 4 - (intOf iv).toNat)
  case atStart => exact ⟨0, Nat.zero_le _, rfl, HB.out, hb1⟩
  case round =>
    clear HB hb1
    obtain ⟨k, hk, rfl, hblk, hbel⟩ := hrel
    by_cases hlt : k < 4
    · have c1 := hblk.cell_some (lentTo_at (intV ss) (.int .i64 (-77)) (.int .i64 0) ss.length k (by simp [intV]) hlt)
      have f1 := hblk.free (ss.length + k)
      have HBL : Hid (Blk (wr.setCell ⟨w.heap.size, ss.length + k, none⟩ (.int .i64 (-77))) w.heap.size 3 (lentTo (intV ss) (.int .i64 (-77)) (.int .i64 0) (k + 1))) := (hblk.set _ _).eq (lentTo_next _ _ _ ss.length k (by simp [intV]) hlt)
      have hlt2 : (ss.length : Int) + (k : Int) < (ss.length : Int) + 4 := by omega
      clear hblk
      go_wp2
      go_roundw
      case rel => exact ⟨k + 1, by omega, by go_num, HBL.out, hbel.setCell (Nat.le_refl _) _⟩
      case measure => simp [intOf]; omega
    · obtain rfl : k = 4 := by omega
      go_wp2
      go_ret
      exact ⟨_, Nat.le_refl _, rfl, hblk, hbel⟩
theorem lent_get (vs : List Value) (x z : Value) (n i : Nat) (hn : vs.length = n) : (lentTo vs x z 4)[i]? = if i < n then vs[i]? else if i < n + 4 then some x else none := by
  unfold lentTo
  by_cases h : i < n
  · rw [List.getElem?_append_left (by omega), if_pos h]
  · rw [List.getElem?_append_right (by omega), if_neg h, hn]
    by_cases h2 : i < n + 4
    · rw [if_pos h2, List.getElem?_append_left (by rw [List.length_replicate]; omega), List.getElem?_replicate, if_pos (by omega)]
    · rw [if_neg h2, List.getElem?_eq_none (by simp; omega)]
theorem lent_length (vs : List Value) (x z : Value) (n : Nat) (hn : vs.length = n) : (lentTo vs x z 4).length = n + 4 := by simp [lentTo, hn]
set_option maxRecDepth 100000 in
theorem wholeT_nil (o : Value) (w : World) : Calls Tryd.prog 50 #[o, .slice none 0 0] w fun e w' => e = .returned (.bool true) ∧ w' = w := by
  have hnil := fun w => eql_nilT none 0 0 w
  go_enter Tryd.func50, Tryd.ntmps50
  go_wp2
  go_ret
  exact ⟨rfl, rfl⟩
set_option maxRecDepth 100000 in
theorem wholeI_nil (o : Value) (w : World) : Calls Tryd.prog 51 #[o, .slice none 0 0] w fun e w' => e = .returned (.bool true) ∧ w' = w := by
  have hnil := fun w => eql_nilI none 0 0 w
  go_enter Tryd.func51, Tryd.ntmps51
  go_wp2
  go_ret
  exact ⟨rfl, rfl⟩
set_option maxRecDepth 100000 in
set_option maxHeartbeats 400000 in
theorem wholeT_any (ss : List ByteArray) (ad : Addr) (c b : Nat) (w : World) (h : StrsAt w (.slice (some ad) ss.length c) ss) (hb : Blk w b 9 (lentTo (strV ss) (.string beyond) (.string ByteArray.empty) 4)) (hne : ad.block ≠ b) (hn : ss.length ≤ 8796093022204) :
    Calls Tryd.prog 50 #[.slice (some ⟨b, 0, none⟩) ss.length (ss.length + 4), .slice (some ad) ss.length c] w fun e w' => e = .returned (.bool true) ∧ But b w w' := by
  have hnil := fun w => eql_nilT (some ad) ss.length c w
  have HC : Hid (∀ j, (hj : j < ss.length) → ∃ q, ad = ⟨ad.block, q, none⟩ ∧ w.cell? ⟨ad.block, q + j, none⟩ = some (.string ss[j]) ∧ ad.block < w.heap.size) := by
    intro j hj
    obtain ⟨ao, cap, he, hx⟩ := h
    injection he with he _ _
    rcases hx with hx | ⟨b', off, hao, hlt, hc⟩
    · rw [hx] at hj; simp at hj
    · rw [← he] at hao
      injection hao with hao
      subst hao
      exact ⟨off, rfl, hc j hj, hlt⟩
  have hlen := lent_length (strV ss) (.string beyond) (.string ByteArray.empty) ss.length (by simp [strV])
  obtain ⟨vs, hvs⟩ : ∃ vs, vs = lentTo (strV ss) (.string beyond) (.string ByteArray.empty) 4 := ⟨_, rfl⟩
  rw [← hvs] at hb hlen
  have HG : Hid (∀ i, vs[i]? = if i < ss.length then (strV ss)[i]? else if i < ss.length + 4 then some (.string beyond) else none) := fun i => by rw [hvs]; exact lent_get _ _ _ _ _ (by simp [strV])
  have HLN : Hid (vs.length = ss.length + 4) := hlen
  have HB : Hid (Blk w b 9 vs) := hb
  have z1 : (0 : Int) ≤ (ss.length : Int) + 4 := by omega
  have z2 : ((ss.length : Int) + 4).toNat = ss.length + 4 := by omega
  have z3 : ¬ ss.length + 4 = 0 := by omega
  clear h hb hvs hlen
  go_enter Tryd.func50, Tryd.ntmps50
  go_wp2
  go_loopw [7, 8] (fun o iv wr => ∃ i : Nat, i ≤ ss.length + 4 ∧ o = .bool true ∧ iv = .int .i64 (i : Nat) ∧ Blk wr b 9 (mix (List.replicate (ss.length + 4) (.string mine)) vs i) ∧ But b w wr) (fun _ iv _ => ss.length + 4 - (intOf iv).toNat)
  case atStart => exact ⟨0, Nat.zero_le _, rfl, rfl, by rw [mix_zero]; exact HB.out, But.refl _ _⟩
  case round =>
    obtain ⟨i, hi, rfl, rfl, hblk, hbut⟩ := hrel
    by_cases hlt : i < ss.length + 4
    · have hml : (List.replicate (ss.length + 4) (Value.string mine)).length = vs.length := by rw [HLN.out]; simp
      have hil : i < vs.length := by rw [HLN.out]; exact hlt
      have c1 := hblk.cell_some (mix_at hml hil)
      have f1 := hblk.free i
      have HNW : Hid (Blk (wr.setCell ⟨b, i, none⟩ (.string mine)) b 9 (mix (List.replicate (ss.length + 4) (.string mine)) vs (i + 1))) := by
        refine (hblk.set i _).eq ?_
        rw [← mix_set hml hil]
        simp
      have HBT : Hid (But b w wr) := hbut
      have hg := HG.out i
      rw [List.getElem?_eq_getElem hil] at hg
      have l4 : (i : Int) < (ss.length : Int) + 4 := by omega
      by_cases hin : i < ss.length
      · rw [if_pos hin, show (strV ss)[i]? = some (.string ss[i]) by simp [strV, hin]] at hg
        injection hg with hg
        rw [hg] at c1
        obtain ⟨q, hq, hcq, hql⟩ := HC.out i hin
        have c2 : wr.cell? ⟨ad.block, q + i, none⟩ = some (.string ss[i]) := (hbut.cell (p := ⟨ad.block, q + i, none⟩) hne hql).trans hcq
        obtain ⟨ab, hab⟩ : ∃ ab, ab = ad.block := ⟨_, rfl⟩
        rw [← hab] at hq c2
        subst hq
        obtain ⟨x, hx⟩ : ∃ x, x = ss[i] := ⟨_, rfl⟩
        rw [← hx] at c1 c2
        have l1 : decide ((i : Int) < (ss.length : Int)) = true := decide_eq_true (by omega)
        clear hx hg hblk hcq hbut
        go_wp2
        go_roundw
        case rel => exact ⟨i + 1, by omega, by simp, by go_num, HNW.out, HBT.out.setCell _ _⟩
        case measure => simp [intOf]; omega
      · rw [if_neg hin, if_pos hlt] at hg
        injection hg with hg
        rw [hg] at c1
        have l1 : decide ((i : Int) < (ss.length : Int)) = false := decide_eq_false (by omega)
        clear hg hblk hbut
        go_wp2
        go_roundw
        case rel => exact ⟨i + 1, by omega, by simp [beyond], by go_num, HNW.out, HBT.out.setCell _ _⟩
        case measure => simp [intOf]; omega
    · obtain rfl : i = ss.length + 4 := by omega
      go_wp2
      go_ret
      exact ⟨rfl, hbut⟩
set_option maxRecDepth 100000 in
set_option maxHeartbeats 400000 in
theorem wholeI_any (ss : List Int) (ad : Addr) (c b : Nat) (w : World) (h : IsC w (.slice (some ad) ss.length c) ss) (hb : Blk w b 3 (lentTo (intV ss) (.int .i64 (-77)) (.int .i64 0) 4)) (hne : ad.block ≠ b) (hn : ss.length ≤ 17592186044412) :
    Calls Tryd.prog 51 #[.slice (some ⟨b, 0, none⟩) ss.length (ss.length + 4), .slice (some ad) ss.length c] w fun e w' => e = .returned (.bool true) ∧ But b w w' := by
  have hnil := fun w => eql_nilI (some ad) ss.length c w
  have HC : Hid (∀ j, (hj : j < ss.length) → ∃ q, ad = ⟨ad.block, q, none⟩ ∧ w.cell? ⟨ad.block, q + j, none⟩ = some (.int .i64 ss[j]) ∧ ad.block < w.heap.size) := by
    intro j hj
    obtain ⟨ao, cap, he, hx⟩ := h
    injection he with he _ _
    rcases hx with hx | ⟨b', off, hao, hlt, hc⟩
    · rw [hx] at hj; simp at hj
    · rw [← he] at hao
      injection hao with hao
      subst hao
      exact ⟨off, rfl, hc j hj, hlt⟩
  have hlen := lent_length (intV ss) (.int .i64 (-77)) (.int .i64 0) ss.length (by simp [intV])
  obtain ⟨vs, hvs⟩ : ∃ vs, vs = lentTo (intV ss) (.int .i64 (-77)) (.int .i64 0) 4 := ⟨_, rfl⟩
  rw [← hvs] at hb hlen
  have HG : Hid (∀ i, vs[i]? = if i < ss.length then (intV ss)[i]? else if i < ss.length + 4 then some (.int .i64 (-77)) else none) := fun i => by rw [hvs]; exact lent_get _ _ _ _ _ (by simp [intV])
  have HLN : Hid (vs.length = ss.length + 4) := hlen
  have HB : Hid (Blk w b 3 vs) := hb
  have z1 : (0 : Int) ≤ (ss.length : Int) + 4 := by omega
  have z2 : ((ss.length : Int) + 4).toNat = ss.length + 4 := by omega
  have z3 : ¬ ss.length + 4 = 0 := by omega
  clear h hb hvs hlen
  go_enter Tryd.func51, Tryd.ntmps51
  go_wp2
  go_loopw [7, 8] (fun o iv wr => ∃ i : Nat, i ≤ ss.length + 4 ∧ o = .bool true ∧ iv = .int .i64 (i : Nat) ∧ Blk wr b 3 (mix (List.replicate (ss.length + 4) (.int .i64 (-99))) vs i) ∧ But b w wr) (fun _ iv _ => ss.length + 4 - (intOf iv).toNat)
  case atStart => exact ⟨0, Nat.zero_le _, rfl, rfl, by rw [mix_zero]; exact HB.out, But.refl _ _⟩
  case round =>
    obtain ⟨i, hi, rfl, rfl, hblk, hbut⟩ := hrel
    by_cases hlt : i < ss.length + 4
    · have hml : (List.replicate (ss.length + 4) (Value.int .i64 (-99))).length = vs.length := by rw [HLN.out]; simp
      have hil : i < vs.length := by rw [HLN.out]; exact hlt
      have c1 := hblk.cell_some (mix_at hml hil)
      have f1 := hblk.free i
      have HNW : Hid (Blk (wr.setCell ⟨b, i, none⟩ (.int .i64 (-99))) b 3 (mix (List.replicate (ss.length + 4) (.int .i64 (-99))) vs (i + 1))) := by
        refine (hblk.set i _).eq ?_
        rw [← mix_set hml hil]
        simp
      have HBT : Hid (But b w wr) := hbut
      have hg := HG.out i
      rw [List.getElem?_eq_getElem hil] at hg
      have l4 : (i : Int) < (ss.length : Int) + 4 := by omega
      by_cases hin : i < ss.length
      · rw [if_pos hin, show (intV ss)[i]? = some (.int .i64 ss[i]) by simp [intV, hin]] at hg
        injection hg with hg
        rw [hg] at c1
        obtain ⟨q, hq, hcq, hql⟩ := HC.out i hin
        have c2 : wr.cell? ⟨ad.block, q + i, none⟩ = some (.int .i64 ss[i]) := (hbut.cell (p := ⟨ad.block, q + i, none⟩) hne hql).trans hcq
        obtain ⟨ab, hab⟩ : ∃ ab, ab = ad.block := ⟨_, rfl⟩
        rw [← hab] at hq c2
        subst hq
        obtain ⟨x, hx⟩ : ∃ x, x = ss[i] := ⟨_, rfl⟩
        rw [← hx] at c1 c2
        have l1 : decide ((i : Int) < (ss.length : Int)) = true := decide_eq_true (by omega)
        clear hx hg hblk hcq hbut
        go_wp2
        go_roundw
        case rel => exact ⟨i + 1, by omega, by simp, by go_num, HNW.out, HBT.out.setCell _ _⟩
        case measure => simp [intOf]; omega
      · rw [if_neg hin, if_pos hlt] at hg
        injection hg with hg
        rw [hg] at c1
        have l1 : decide ((i : Int) < (ss.length : Int)) = false := decide_eq_false (by omega)
        clear hg hblk hbut
        go_wp2
        go_roundw
        case rel => exact ⟨i + 1, by omega, by simp, by go_num, HNW.out, HBT.out.setCell _ _⟩
        case measure => simp [intOf]; omega
    · obtain rfl : i = ss.length + 4 := by omega
      go_wp2
      go_ret
      exact ⟨rfl, hbut⟩
end Go.Proofs.YtlnpppdffhibjaaDoor.Book

namespace Go.Proofs.YtlnpppdffhibjaaDoor.Ref
open Go.RowKit Mem FieldWalks Tab ByTab Parts Book
open Plans (But)

/-- Only one block between lo and hi was written, and new ones made. -/
def Wrote (lo hi : Nat) (w w' : World) : Prop := w' = w ∨ ∃ S, lo ≤ S ∧ S < hi ∧ But S w w'
section
variable {lo hi : Nat} {w w' : World}
theorem Wrote.below (h : Wrote lo hi w w') {w0 : World} {B : Nat} (hb : Below B w0 w) (hB : B ≤ w.heap.size) (hlo : B ≤ lo) : Below B w0 w' := by
  rcases h with rfl | ⟨S, h1, _, h3⟩
  · exact hb
  · exact h3.below hb (Nat.le_trans hlo h1) hB
theorem Wrote.size (h : Wrote lo hi w w') : w.heap.size ≤ w'.heap.size := by
  rcases h with rfl | ⟨S, _, _, h3⟩
  · exact Nat.le_refl _
  · exact h3.size
theorem Wrote.blk (h : Wrote lo hi w w') {b : Nat} {t : TypeId} {vs : List Value} (hb : Blk w b t vs) (hl : hi ≤ b) : Blk w' b t vs := by
  rcases h with rfl | ⟨S, _, h2, h3⟩
  · exact hb
  · exact h3.blk hb (by omega)
theorem Wrote.blk_low (h : Wrote lo hi w w') {b : Nat} {t : TypeId} {vs : List Value} (hb : Blk w b t vs) (hl : b < lo) : Blk w' b t vs := by
  rcases h with rfl | ⟨S, h1, _, h3⟩
  · exact hb
  · exact h3.blk hb (by omega)
theorem Wrote.strs (h : Wrote lo hi w w') {v : Value} {ss : List ByteArray} (hs : StrsNew w hi v ss) : StrsNew w' hi v ss := by
  rcases h with rfl | ⟨S, _, h2, h3⟩
  · exact hs
  · obtain ⟨ao, cap, rfl, hs⟩ := hs
    refine ⟨ao, cap, rfl, ?_⟩
    rcases hs with hs | ⟨b, off, rfl, h4, h5, h6⟩
    · exact .inl hs
    · exact .inr ⟨b, off, rfl, h4, Nat.lt_of_lt_of_le h5 h3.size, fun k hk => by rw [h3.cell (p := ⟨b, off + k, none⟩) (by show b ≠ S; omega) h5]; exact h6 k hk⟩
end
/-- A list that came in: none, or one that lies in a block that is there. -/
def CameT (w : World) (pv : Value) (n : Nat) : Prop := pv = .slice none 0 0 ∨ ∃ ad cp, pv = .slice (some ad) n cp ∧ ad.block < w.heap.size
theorem CameT.to {w w' : World} {pv : Value} {n : Nat} (h : CameT w pv n) (hb : w.heap.size ≤ w'.heap.size) : CameT w' pv n := by
  rcases h with h | ⟨ad, cp, h1, h2⟩
  · exact .inl h
  · exact .inr ⟨ad, cp, h1, Nat.lt_of_lt_of_le h2 hb⟩

theorem lendT_both (pieces : List ByteArray) (pv : Value) (w : World) (hp : CameT w pv pieces.length) (hst : StrsAt w pv pieces) (hpl : pieces.length ≤ 8796093022204) :
    Calls Tryd.prog 47 #[pv] w fun e w1 => ∃ p, e = .returned p ∧ StrsAt w1 p pieces ∧ Below w.heap.size w w1 ∧
      ∀ w3, Below w1.heap.size w1 w3 → Calls Tryd.prog 50 #[p, pv] w3 fun e w4 => e = .returned (.bool true) ∧ Wrote w.heap.size w1.heap.size w3 w4 := by
  rcases hp with rfl | ⟨ad, cp, rfl, hlt⟩
  · refine (lendT_nil w).mono ?_
    rintro e w1 ⟨rfl, rfl⟩
    refine ⟨_, rfl, hst, Below.refl _ _, fun w3 _ => (wholeT_nil _ w3).mono ?_⟩
    rintro e w4 ⟨rfl, rfl⟩
    exact ⟨rfl, .inl rfl⟩
  · refine (lendT_any pieces ad cp w hst hpl).mono ?_
    rintro e w1 ⟨b, hb, rfl, hblk, hb1⟩
    refine ⟨_, rfl, ?_, hb1, fun w3 hb3 => ?_⟩
    · refine ⟨_, _, rfl, .inr ⟨b, 0, rfl, hblk.lt, fun k hk => ?_⟩⟩
      rw [Nat.zero_add]
      refine hblk.cell_some ?_
      rw [lent_get _ _ _ pieces.length k (by simp [strV]), if_pos hk]
      simp [strV, hk]
    · refine (wholeT_any pieces ad cp b w3 ((hst.to hb1).to hb3) (hblk.to hb3) (by omega) hpl).mono ?_
      rintro e w4 ⟨rfl, hbut⟩
      exact ⟨rfl, .inr ⟨b, hb, hblk.lt, hbut⟩⟩
theorem lendI_both (l : List Int) (pv : Value) (w : World) (hp : CameT w pv l.length) (hst : IsC w pv l) (hpl : l.length ≤ 17592186044412) :
    Calls Tryd.prog 48 #[pv] w fun e w1 => ∃ p, e = .returned p ∧ IsC w1 p l ∧ Below w.heap.size w w1 ∧
      ∀ w3, IsC w3 pv l → (∀ b t vs, b < w1.heap.size → w.heap.size ≤ b → Blk w1 b t vs → Blk w3 b t vs) → Calls Tryd.prog 51 #[p, pv] w3 fun e w4 => e = .returned (.bool true) ∧ Wrote w.heap.size w1.heap.size w3 w4 := by
  rcases hp with rfl | ⟨ad, cp, rfl, hlt⟩
  · refine (lendI_nil w).mono ?_
    rintro e w1 ⟨rfl, rfl⟩
    refine ⟨_, rfl, hst, Below.refl _ _, fun w3 _ _ => (wholeI_nil _ w3).mono ?_⟩
    rintro e w4 ⟨rfl, rfl⟩
    exact ⟨rfl, .inl rfl⟩
  · refine (lendI_any l ad cp w hst hpl).mono ?_
    rintro e w1 ⟨b, hb, rfl, hblk, hb1⟩
    refine ⟨_, rfl, ?_, hb1, fun w3 hi3 hk3 => ?_⟩
    · refine ⟨_, 4, rfl, .inr ⟨b, 0, rfl, hblk.lt, fun k hk => ?_⟩⟩
      rw [Nat.zero_add]
      refine hblk.cell_some ?_
      rw [lent_get _ _ _ l.length k (by simp [intV]), if_pos hk]
      simp [intV, hk]
    · refine (wholeI_any l ad cp b w3 hi3 (hk3 b _ _ hblk.lt hb hblk) (by omega) hpl).mono ?_
      rintro e w4 ⟨rfl, hbut⟩
      exact ⟨rfl, .inr ⟨b, hb, hblk.lt, hbut⟩⟩
end Go.Proofs.YtlnpppdffhibjaaDoor.Ref

/- Lists that come in, opened: strings, numbers. -/
namespace Go.Proofs.YtlnpppdffhibjaaDoor.CardArgs
open Go.ChangeShapes Go.WideShapes Go.ChangeAt Go.RowKit Mem Ref

theorem laidOut : laidOutB Tryd.prog = true := by kernel_rfl
theorem cellsStr : Tryd.prog.cellsOf 9 = 1 := by kernel_rfl
theorem cellsInt : Tryd.prog.cellsOf 3 = 1 := by kernel_rfl
theorem bytesStr : Tryd.prog.bytesOf 9 = 16 := by kernel_rfl
theorem bytesInt : Tryd.prog.bytesOf 3 = 8 := by kernel_rfl

/-- A slice that is one lies in a block that is there, at no inner place. -/
theorem slice_plain {P : Program} {W : World} {r : Reach} {base : Nat} {t e : TypeId} {a : Addr} {len cap : Nat} (ht : P.underlying t = some (.slice e)) (h : Value.okWide P W r base t (.slice (some a) len cap)) : ∃ b off, a = ⟨b, off, none⟩ ∧ b < W.heap.size := by
  simp only [Value.okWide, ht, Cell.okWide, Cell.ok] at h
  obtain ⟨_, _, _, h1, row, cells, h2, _⟩ := h
  refine ⟨a.block, a.off, ?_, ?_⟩
  · cases a; simp at h1; subst h1; rfl
  · apply Classical.byContradiction
    intro hn
    have : W.heap[a.block]? = none := by simp; omega
    simp [World.shape?, this] at h2

theorem wf_i64 {x : Int} (h : (Lit.int .i64 x).wf = true) : -9223372036854775808 ≤ x ∧ x ≤ 9223372036854775807 := by
  have h1 : IntKind.i64.min = -9223372036854775808 := by decide
  have h2 : IntKind.i64.max = 9223372036854775807 := by decide
  simp only [Lit.wf, h1, h2, Bool.and_eq_true, decide_eq_true_eq] at h
  exact h
theorem weights_all {H : Type} {P : Program} {e : TypeId} {d : DataW H} {n : Nat} : ∀ {l : List (DataW H)}, d ∈ l → n ∈ d.weights P e → n ∈ DataW.weightsAll P e l
  | [], h, _ => by cases h
  | x :: l, h, hn => by
    simp only [DataW.weightsAll, List.mem_append]
    rcases List.mem_cons.1 h with rfl | h
    · exact .inl hn
    · exact .inr (weights_all h hn)

section
set_option maxRecDepth 100000
variable {H : Type} {enc : TypeId × Value → H} {W : World} {base j : Nat} {v : Value} {d : DataW H} {p : List MemPlace} {ts : List TypeId} {ds : List (DataW H)}
theorem strs_arg (hval : Value.okWide Tryd.prog W .any base 38 v) (h : DataW.Trod enc Tryd.prog W 0 (fun _ => true) true 38 v d p) (hsz : (DataW.weightsEach Tryd.prog ts ds).all (· ≤ reachBytes) = true) (hts : ts[j]? = some 38) (hds : ds[j]? = some d) :
    ∃ pieces : List ByteArray, CameT W v pieces.length ∧ StrsAt W v pieces ∧ pieces.length ≤ 8796093022204 ∧ ∀ q, (h : q < pieces.length) → pieces[q].size < 2 ^ 62 := by
  obtain ⟨fuel, h⟩ := h
  obtain ⟨a0, len0, cap0, rfl⟩ := okWide_slice Tryd.underlying38 hval
  have hcs : (Value.slice a0 len0 cap0).cells.toList = [.slice a0 len0 cap0] := rfl
  rw [hcs] at h
  rcases Deep.open_strs Tryd.underlying38 Tryd.underlying9 cellsStr h with ⟨h1, h2⟩ | ⟨a, len, cap, m, Sx, h1, h2, h3, h4, h5, h6, h7⟩
  · injection h1 with h1 _
    rw [h1]
    exact ⟨[], .inl rfl, ⟨none, 0, rfl, .inl rfl⟩, by simp, fun q hq => by simp at hq⟩
  · injection h1 with h1 _
    rw [h1] at hval ⊢
    obtain ⟨b, off, rfl, hb⟩ := slice_plain Tryd.underlying38 hval
    simp only [Prod.mk.injEq] at h6
    obtain ⟨rfl, _⟩ := h6
    have hm : m = cap := by simpa using h5
    have hbytes := sized_slice hsz hts hds Tryd.underlying38
    rw [bytesStr] at hbytes
    simp only [List.length_map, List.length_range] at hbytes
    have hr : reachBytes = 140737488351232 := by decide
    refine ⟨(List.range len).map Sx, .inr ⟨⟨b, off, none⟩, cap, by simp, hb⟩, ⟨_, cap, by simp, .inr ⟨b, off, rfl, hb, fun k hk => ?_⟩⟩, ?_, fun q hq => ?_⟩
    · have hk' : k < len := by simpa using hk
      have := (h7 k (by omega)).1
      rw [Addr.add_lit] at this
      rw [this]; simp
    · simp only [List.length_map, List.length_range]; omega
    · have hq' : q < len := by simpa using hq
      have hmem : (DataW.lit (.string (Sx q).data.toList) : DataW H) ∈ (List.range len).map fun i => (DataW.lit (.string (Sx i).data.toList) : DataW H) := List.mem_map.2 ⟨q, List.mem_range.2 hq', rfl⟩
      have hw := weights_all (P := Tryd.prog) (e := 9) (n := (Sx q).data.toList.length) hmem (by simp [DataW.weights])
      have hall := List.all_eq_true.1 hsz _ (DataW.weights_mem_each hts hds ((Sx q).data.toList.length) (by
        simp only [DataW.weights, Tryd.underlying38, List.mem_cons, List.mem_append]
        exact .inr (.inl hw)))
      have hsq : (Sx q).size = (Sx q).data.toList.length := by rw [Array.length_toList]; rfl
      simp only [List.getElem_map, List.getElem_range]
      rw [hsq]
      have : (Sx q).data.toList.length ≤ reachBytes := by simpa using hall
      omega
theorem ints_arg (hval : Value.okWide Tryd.prog W .any base 45 v) (h : DataW.Trod enc Tryd.prog W 0 (fun _ => true) true 45 v d p) (hsz : (DataW.weightsEach Tryd.prog ts ds).all (· ≤ reachBytes) = true) (hts : ts[j]? = some 45) (hds : ds[j]? = some d) :
    ∃ l : List Int, CameT W v l.length ∧ IsC W v l ∧ l.length ≤ 17592186044412 ∧ ∀ x, x ∈ l → -9223372036854775808 ≤ x ∧ x ≤ 9223372036854775807 := by
  obtain ⟨fuel, h⟩ := h
  obtain ⟨a0, len0, cap0, rfl⟩ := okWide_slice Tryd.underlying45 hval
  have hcs : (Value.slice a0 len0 cap0).cells.toList = [.slice a0 len0 cap0] := rfl
  rw [hcs] at h
  rcases open_ints Tryd.underlying45 Tryd.underlying3 cellsInt h with ⟨h1, h2⟩ | ⟨a, len, cap, zs, h1, h2, h3, h4, h5, h6, h7, h8⟩
  · injection h1 with h1 _
    rw [h1]
    exact ⟨[], .inl rfl, ⟨none, 0, rfl, .inl rfl⟩, by simp, fun q hq => by simp at hq⟩
  · injection h1 with h1 _
    rw [h1] at hval ⊢
    obtain ⟨b, off, rfl, hb⟩ := slice_plain Tryd.underlying45 hval
    simp only [Prod.mk.injEq] at h6
    obtain ⟨rfl, _⟩ := h6
    have hm : zs.length = cap := by simpa using h5
    have hbytes := sized_slice hsz hts hds Tryd.underlying45
    rw [bytesInt] at hbytes
    simp only [lits, List.length_map, List.length_take, List.length_drop] at hbytes
    have hr : reachBytes = 140737488351232 := by decide
    have hlt : (zs.take len).length = len := by rw [List.length_take]; omega
    refine ⟨zs.take len, .inr ⟨⟨b, off, none⟩, cap, by rw [hlt], hb⟩, ⟨_, cap - len, by rw [hlt]; congr 1; omega, .inr ⟨b, off, rfl, hb, fun k hk => ?_⟩⟩, ?_, fun x hx => ?_⟩
    · rw [hlt] at hk
      have := h7 k (by omega)
      rw [Addr.add_lit] at this
      rw [this]; simp [show k < zs.length by omega]
    · rw [hlt]; omega
    · have := h8 x (List.mem_of_mem_take hx)
      exact wf_i64 this
end
end Go.Proofs.YtlnpppdffhibjaaDoor.CardArgs

namespace Go.Proofs.YtlnpppdffhibjaaDoor.WaysCard
open Go.ChangeShapes Go.WideShapes Go.ChangeAt Go.ChangeMaps Go.RowKit

theorem own : ownKnob Tryd.prog.godebug = none := by kernel_rfl
theorem gTab : Tryd.prog.globalNamed "wattle/field.highPowers" = some 0 := by kernel_rfl
theorem gTabType : (Tryd.prog.globals[0]?).map (·.type) = some 106 := by kernel_rfl
theorem cellsTab : Tryd.prog.cellsOf 106 = 7 := by kernel_rfl
theorem cellsByte : Tryd.prog.cellsOf 5 = 1 := by kernel_rfl

/-- What the row's list gives: the table's cells hold its seven numbers. -/
theorem table {W : World} (h : laidMetH Tryd.prog Rows.waysRow.laid W) : FieldWalks.Table W := by
  have t : Lib.TabIs Tryd.prog W "wattle/field.highPowers" .u8 [29, 58, 116, 232, 205, 135, 19] :=
    Lib.tabIs_of_head (rest := []) gTab gTabType Tryd.underlying106 Tryd.underlying5 cellsByte cellsTab h
  intro k hk
  match k, hk with
  | 0, _ => exact t.cell gTab 0 (by decide)
  | 1, _ => exact t.cell gTab 1 (by decide)
  | 2, _ => exact t.cell gTab 2 (by decide)
  | 3, _ => exact t.cell gTab 3 (by decide)
  | 4, _ => exact t.cell gTab 4 (by decide)
  | 5, _ => exact t.cell gTab 5 (by decide)
  | 6, _ => exact t.cell gTab 6 (by decide)

set_option maxRecDepth 100000 in
theorem contract (H : Type) (enc : TypeId × Value → H) (W : World) (base : Nat) (args : Array Value) (ds gs : List (DataW H)) (before : List MemPlace)
    (hval : ∀ (j : Nat) t v, Tryd.f10.params[j]? = some t → args[j]? = some v → Value.okWide Tryd.prog W .any base t v)
    (hW : DataW.Whole enc Tryd.prog Tryd.f10.params.toList Rows.waysSpec.vars false W args.toList ds gs before)
    (hsized : (DataW.weightsEach Tryd.prog (Tryd.f10.params.toList ++ (OpenSpec.ofChange Rows.waysSpec).bare.plain.varTypes Tryd.prog) (ds ++ gs)).all (· ≤ reachBytes) = true) (hL : laidMetH Tryd.prog Rows.waysRow.laid W) :
    Calls Tryd.prog 10 args W fun e W' => ∃ v, e = .returned v ∧ Rows.waysSpec.post enc Tryd.prog Tryd.f10 false true false false W args v W' := by
  have hW' := hW
  have hlt := hW.lt
  obtain ⟨p, q, hA0, hV, rfl, hfz, hnd⟩ := hW
  have hA : DataW.TrodAll enc Tryd.prog W 0 (fun _ => true) true Tryd.f10.params.toList args.toList ds p := hA0
  rw [Tryd.params10] at hA hval hsized
  obtain ⟨v0, vs0, d0, ds0, p0, q0, hargs, rfl, rfl, h0, r0⟩ := trodAll_cons hA
  obtain ⟨v1, vs1, d1, ds1, p1, q1, rfl, rfl, rfl, h1, r1⟩ := trodAll_cons r0
  obtain ⟨v2, vs2, d2, ds2, p2, q2, rfl, rfl, rfl, h2, r2⟩ := trodAll_cons r1
  obtain ⟨v3, vs3, d3, ds3, p3, q3, rfl, rfl, rfl, h3, r3⟩ := trodAll_cons r2
  obtain ⟨rfl, rfl, rfl⟩ := trodAll_nil r3
  obtain rfl : args = #[v0, v1, v2, v3] := Array.toList_inj.1 hargs
  obtain ⟨rfl, rfl⟩ := trodVars_none hV
  obtain ⟨a, rfl, rfl, rfl, wa⟩ := open_int Tryd.underlying3 (hval 0 3 v0 rfl rfl) h0
  obtain ⟨b, rfl, rfl, rfl, wb⟩ := open_int Tryd.underlying3 (hval 1 3 v1 rfl rfl) h1
  obtain ⟨str, rfl, rfl, rfl, hs⟩ := open_string Tryd.underlying9 (hval 2 9 v2 rfl rfl) h2
  obtain ⟨lost, hcl, hil, hll, hlb⟩ := CardArgs.ints_arg (j := 3) (hval 3 45 v3 rfl rfl) h3 hsized rfl rfl
  clear hA0
  simp only [List.append_nil, List.nil_append] at hW' hlt
  have hT := table hL
  have wa' := CardArgs.wf_i64 wa
  have wb' := CardArgs.wf_i64 wb
  refine (KeepW.kways_any Top.sums_any (KeepW.gather_yes Top.sums_any) a b str lost v3 W hT (block_lt_of_cell (hT 0 (by decide))) hil (by omega) hlb wa'.1 wa'.2 wb'.1 wb'.2).mono fun e W' ⟨he, hb⟩ => ?_
  subst he
  have h3' := Below.trod CardArgs.laidOut (by kernel_rfl) (of_decide_eq_true (by kernel_rfl)) h3 hb (fun y hy => hlt y (by simp [hy]))
  exact ⟨_, rfl, _, _, _, [], _, [], hW', trodAll_cons_mk (shut_bool Tryd.underlying4 _) trodAll_mk0,
    trodAll_cons_mk (shut_int Tryd.underlying3 wa) (trodAll_cons_mk (shut_int Tryd.underlying3 wb) (trodAll_cons_mk (shut_string Tryd.underlying9 hs) (trodAll_cons_mk h3' trodAll_mk0))), rfl,
    hb.frame _, fun h => by cases h⟩

theorem laid_met (os : Os) : laidMet Tryd.prog Rows.waysRow.laid ((World.doorLaid Tryd.prog 400 os).forCall (fun _ _ => 0) ⟨#[], #[.int .i64 0, .int .i64 0, .string ByteArray.empty, .slice none 0 0], []⟩).memory :=
  laidMet_of_run' 8 (by kernel_rfl) (by kernel_rfl)
theorem reads (os : Os) {H : Type} (enc : TypeId × Value → H) : ∃ places, DataW.whole enc Tryd.prog ((World.doorLaid Tryd.prog 400 os).forCall (fun _ _ => 0) ⟨#[], #[.int .i64 0, .int .i64 0, .string ByteArray.empty, .slice none 0 0], []⟩).memory Tryd.f10.params.toList Rows.waysSpec.vars false #[Value.int .i64 0, Value.int .i64 0, Value.string ByteArray.empty, Value.slice none 0 0].toList 8 = some ([.lit (.int .i64 0), .lit (.int .i64 0), .lit (.string []), .nil], [], places) :=
  ⟨[], by kernel_rfl⟩

set_option maxRecDepth 100000 in
theorem lifted (os : Os) (started : os.Started) (H : Type) (enc : TypeId × Value → H) (F : Stop.Interp) :
    ReturnsInHanded {} Tryd.checked os 10 .any ((OpenSpec.ofChange Rows.waysSpec).preRow enc Tryd.prog Tryd.f10 Rows.waysRow.domain false Rows.waysRow.laid) (((OpenSpec.ofChange Rows.waysSpec).at F).post enc Tryd.prog Tryd.f10 false true false false) := by
  obtain ⟨places, hx⟩ := reads os enc
  refine returnsInHanded_of_row (C := Tryd.checked) (s := OpenSpec.ofChange Rows.waysSpec) own started (by kernel_rfl) Tryd.func10
    (witness_row_at (enc := enc) (C := Tryd.checked) false (World.doorLaid Tryd.prog 400 os) #[.int .i64 0, .int .i64 0, .string ByteArray.empty, .slice none 0 0] rfl (by kernel_rfl) (by kernel_rfl) (by kernel_rfl)
      (OpenSpec.preRow_of_cond 8 hx (by kernel_rfl) (fun k hk => by cases hk) (by kernel_rfl) (laid_met os))) ?_
  intro W base args ds gs before hval hW _ _ hsized hL _ _
  exact contract H enc W base args ds gs before hval hW hsized hL

theorem said : Rows.WaysSaid :=
  OpenClaim.holds_of_cond 10 Tryd.f10 rfl rfl rfl rfl rfl rfl rfl ⟨rfl, rfl, rfl, rfl, rfl⟩ rfl rfl rfl rfl rfl (by kernel_rfl) Tryd.func10 (by kernel_rfl)
    (of_decide_eq_true (by kernel_rfl)) (by unfold Func.isWrapper; first | (rw [if_pos (by decide +kernel)]; kernel_rfl) | (rw [if_neg (by decide +kernel)]; exact ⟨rfl, rfl⟩))
    (fun os started H enc _ F => by rw [OpenClaim.pre_eq_preRow]; exact lifted os started H enc F)

theorem plain (f : FuncId) (fn : Func) (hf : Tryd.pinned.checked.prog.funcNamed "wattle/wattlekeep.Ways" = some f) (hfn : Tryd.pinned.checked.prog.funcs[f]? = some fn) :
    false = Tryd.pinned.checked.prog.looks [] ∧ ∀ (j : Nat) t, fn.params[j]? = some t → Tryd.pinned.checked.prog.wantsStandIn t = false := by
  obtain rfl : f = 10 := Option.some.inj ((show Tryd.prog.funcNamed "wattle/wattlekeep.Ways" = some 10 by kernel_rfl).symm.trans hf) |>.symm
  obtain rfl : fn = Tryd.f10 := (Option.some.inj (Tryd.func10.symm.trans hfn)).symm
  refine ⟨by kernel_rfl, fun j t ht => ?_⟩
  rw [Tryd.params10] at ht
  have hm : t = 3 ∨ t = 9 ∨ t = 45 := by
    have := Array.mem_of_getElem? ht
    simp only [List.mem_toArray, List.mem_cons, List.not_mem_nil, or_false] at this
    rcases this with h | h | h | h <;> simp [h]
  rcases hm with rfl | rfl | rfl
  · exact (show Tryd.prog.wantsStandIn 3 = false by kernel_rfl)
  · exact (show Tryd.prog.wantsStandIn 9 = false by kernel_rfl)
  · exact (show Tryd.prog.wantsStandIn 45 = false by kernel_rfl)
end Go.Proofs.YtlnpppdffhibjaaDoor.WaysCard
namespace Go.Proofs.YtlnpppdffhibjaaDoor
/-- ████ THE CARD ████ -/
theorem ways_card : Rows.WaysCardSaid :=
  Claim7.holds_tied_plain_at .later [] _ _ _ _ WaysCard.said (fun _ h => by cases h) (by kernel_rfl) (fun _ h => by cases h) ways_row_tie rfl ⟨rfl, rfl⟩ (by kernel_rfl) rfl WaysCard.plain (by kernel_rfl)
end Go.Proofs.YtlnpppdffhibjaaDoor

