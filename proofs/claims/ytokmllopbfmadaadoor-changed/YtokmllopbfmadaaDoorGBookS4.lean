import Derived.Test.YtokmllopbfmadaaDoorGBookS3
namespace Go.Proofs.YtokmllopbfmadaaDoor.BookS
open Go.RowKit Mem FieldWalks Tab ByTab Parts Plans
open Book (old_cell many_cells below_alloc owns_slice' step_append_many infoKept)

theorem mark_cells {W : World} {g m c : Nat} (h : Blk W g 73 (marksL m c)) (j : Nat) (u : Value) (hu : (marksL m c)[j]? = some u) : W.cell? ((⟨g, 0, none⟩ : Addr).add j) = some u := by
  rw [addr_add']; exact h.cell_some hu

theorem mark_kept {w W w' : World} {MB : Nat} {us : List Value} {v : Value} (hb : Below w.heap.size w W) (h : Blk w MB 73 us) (hg : W.grownBy w' v.ownBlock) (hne : ∀ g, v.ownBlock = some g → g ≠ MB) : Blk w' MB 73 us := by
  have h1 := h.to hb
  unfold Blk
  rw [hg.block MB h1.lt (fun e => hne MB e.symm rfl)]; exact h1

set_option maxRecDepth 100000 in
set_option maxHeartbeats 4000000 in
theorem steps_any (B b c lb n : Nat) (v : Value) (xs : List Value) (w : World) (hbook : BookAt w B b c lb) (hc : c ≤ 8) (hn : n ≤ 100000) (hlb : B ≤ lb) (hown : w.ownsRow lb 73 3 v n xs) :
    Calls Tryd.prog 38 #[.pointer (some ⟨b, 0, none⟩), v] w fun e w' => e = .returned (.tuple #[]) ∧ BookAt w' B b (c + 1) w'.heap.size ∧ Below B w w' ∧ ∀ g us, Blk w g 73 us → v.ownBlock ≠ some g → w'.heap[g]? = w.heap[g]? := by
  obtain ⟨hB, kv, es, hel, hblk, hown0, hes⟩ := hbook
  have c0 := hblk.cell_some (k := 0) rfl
  have f0 := hblk.free 0
  have hblt := hblk.lt
  have ST0 : Hid (St w (w.setCell ⟨b, 0, none⟩ (.int .i64 ((c : Int) + 1))) B b c lb kv es v) := St.start hB hlb hblk hown0 hes
  have hput : (w.setCell ⟨b, 0, none⟩ (.int .i64 ((c : Int) + 1))).cell? ⟨b, 0, none⟩ = some (.int .i64 ((c : Int) + 1)) := (hblk.set 0 _).cell_some rfl
  obtain ⟨lo, cap, rfl⟩ : ∃ lo cap, v = .slice lo n cap := owns_form hown
  have hL0 : (n = 0 ∧ cap = 0 ∧ lo = none) ∨ ∃ g us, lo = some ⟨g, 0, none⟩ ∧ lb ≤ g ∧ Blk (w.setCell ⟨b, 0, none⟩ (.int .i64 ((c : Int) + 1))) g 73 us ∧ us.length = cap * 3 ∧ n ≤ cap ∧ cap ≤ maxLen := by
    rcases hown.2 with ⟨h1, h2⟩ | ⟨g, cap', cur, h1, h2, h3, h4, h5, h6, _⟩
    · injection h1 with h1 h1' h1''
      exact .inl ⟨h2, h1'', h1⟩
    · injection h1 with h1 h1' h1''
      subst h1''
      have hbg : Blk w g 73 cur.toList := by unfold Blk; rw [h3]
      exact .inr ⟨g, cur.toList, h1, h2, hbg.other (hbg.type_ne hblk (by decide)) _, by simpa using h6, h4, h5⟩
  clear hblk hown hown0 hes
  obtain ⟨x, hx⟩ : ∃ x : Int, -((c : Int) + 1) = x := ⟨_, rfl⟩
  have hneg : IntKind.i64.wrap x = x := by rw [IntKind.wrap_i64]; omega
  have HX : Hid (x = -((c + 1 : Nat) : Int)) := by show _ = _; omega
  have HL0 : Hid ((n = 0 ∧ cap = 0 ∧ lo = none) ∨ ∃ g us, lo = some ⟨g, 0, none⟩ ∧ lb ≤ g ∧ Blk (w.setCell ⟨b, 0, none⟩ (.int .i64 ((c : Int) + 1))) g 73 us ∧ us.length = cap * 3 ∧ n ≤ cap ∧ cap ≤ maxLen) := hL0
  clear hL0
  go_enter Tryd.func38, Tryd.ntmps38
  go_wp2
  clear c0 f0 hput
  go_loopw [5] (fun i wr => ∃ k : Nat, k ≤ n ∧ i = .int .i64 k ∧ St w wr B b c lb kv es (.slice lo n cap) ∧ Blk wr w.heap.size 73 [.int .i64 x, .int .i64 0, .bool false] ∧ ((n = 0 ∧ cap = 0 ∧ lo = none) ∨ ∃ g us, lo = some ⟨g, 0, none⟩ ∧ lb ≤ g ∧ g ≠ w.heap.size ∧ Blk wr g 73 us ∧ us.length = cap * 3 ∧ n ≤ cap ∧ cap ≤ maxLen ∧ Mk us k (c + 1))) (fun i _ => n - (intOf i).toNat)
  case atStart =>
    have hsz : (w.setCell ⟨b, 0, none⟩ (.int .i64 ((c : Int) + 1))).heap.size = w.heap.size := size_setCell ..
    have hnb := Blk.new (w.setCell ⟨b, 0, none⟩ (.int .i64 ((c : Int) + 1))) #[.int .i64 x, .int .i64 0, .bool false] 73
    rw [hsz] at hnb
    refine ⟨0, Nat.zero_le _, rfl, ST0.out.to ((Below.refl _ _).alloc (Nat.le_refl _) _), hnb, ?_⟩
    rcases HL0.out with h | ⟨g, us, h1, h2, h3, h4, h5, h6⟩
    · exact .inl h
    · have := h3.lt
      rw [hsz] at this
      exact .inr ⟨g, us, h1, h2, by omega, h3.alloc _, h4, h5, h6, fun k hk => by omega⟩
  case round =>
    clear ST0 HL0
    obtain ⟨k, hk, rfl, hst, hmb, hLk⟩ := hrel
    by_cases hlt : k < n
    · obtain ⟨g, us, rfl, hlg, hgw, hgb, hul, hnc, hcm, hmk⟩ : ∃ g us, lo = some ⟨g, 0, none⟩ ∧ lb ≤ g ∧ g ≠ w.heap.size ∧ Blk wr g 73 us ∧ us.length = cap * 3 ∧ n ≤ cap ∧ cap ≤ maxLen ∧ Mk us k (c + 1) := by
        rcases hLk with h | h
        · omega
        · exact h
      have m0 := hmb.cell_some (k := 0) rfl
      have m1 := hmb.cell_some (k := 1) rfl
      have m2 := hmb.cell_some (k := 2) rfl
      have u0 := hgb.cell_some (k := k * 3) (List.getElem?_eq_getElem (by omega))
      have u1 := hgb.cell_some (k := k * 3 + 1) (List.getElem?_eq_getElem (by omega))
      have u2 := hgb.cell_some (k := k * 3 + 2) (List.getElem?_eq_getElem (by omega))
      generalize us[k * 3]'(by omega) = y0 at u0
      generalize us[k * 3 + 1]'(by omega) = y1 at u1
      generalize us[k * 3 + 2]'(by omega) = y2 at u2
      have f0 := hgb.free (k * 3)
      have f1 := hgb.free (k * 3 + 1)
      have f2 := hgb.free (k * 3 + 2)
      have HST : Hid (St w wr B b c lb kv es (.slice (some ⟨g, 0, none⟩) n cap)) := hst
      have HMB : Hid (Blk wr w.heap.size 73 [.int .i64 x, .int .i64 0, .bool false]) := hmb
      have HGB : Hid (Blk wr g 73 us) := hgb
      have HMK : Hid (Mk us k (c + 1)) := hmk
      clear hst hmb hgb hmk hLk
      go_wp2
      go_roundw
      case rel =>
        have hgr : wr.grownBy (((wr.setCell ⟨g, k * 3, none⟩ (.int .i64 x)).setCell ⟨g, k * 3 + 1, none⟩ (.int .i64 0)).setCell ⟨g, k * 3 + 2, none⟩ (.bool false)) (some g) := ⟨rfl, rfl, rfl, by simp [World.setCell], fun q _ hq => by
          have hq' : q ≠ g := fun e => hq (by rw [e])
          rw [Below.heap_setCell _ _ _ _ (by exact hq'), Below.heap_setCell _ _ _ _ (by exact hq'), Below.heap_setCell _ _ _ _ (by exact hq')]⟩
        refine ⟨k + 1, by omega, by go_num, HST.out.grown (v := .slice (some ⟨g, 0, none⟩) n cap) hgr (fun q hq => ?_), ?_, .inr ⟨g, _, rfl, hlg, hgw, ((HGB.out.set (k * 3) _).set (k * 3 + 1) _).set (k * 3 + 2) _, by simp [hul], hnc, hcm, ?_⟩⟩
        · obtain rfl := Option.some.inj hq; exact ⟨hlg, us, HGB.out⟩
        · exact ((HMB.out.other (by exact Ne.symm hgw) _).other (by exact Ne.symm hgw) _).other (by exact Ne.symm hgw) _
        · have := mk_set HMK.out hul (by omega)
          rw [HX.out]; exact this
      case measure => simp [intOf]; omega
    · obtain rfl : k = n := by omega
      obtain ⟨wo, rfl⟩ : ∃ wo, wo = wr := ⟨_, rfl⟩
      have HLSwo : Hid (LSt wo (.slice lo k cap) k cap (c + 1)) := by
        rcases hLk with ⟨h1, h2, h3⟩ | ⟨g, us, h1, h2, h3, h4, h5, h6, h7, h8⟩
        · rw [h3]; exact .inl ⟨h1, h2, by rw [h1, h2]⟩
        · rw [h1]; exact .inr ⟨g, us, k, rfl, h4, h5, Nat.le_refl _, h6, h7, h8⟩
      have HLO : Hid (∀ g, (Value.slice lo k cap).ownBlock = some g → lb ≤ g) := by
        intro g hg
        rcases hLk with ⟨h1, h2, h3⟩ | ⟨g', us, h1, h2, _⟩
        · rw [h3] at hg; cases hg
        · rw [h1] at hg; obtain rfl := Option.some.inj hg; exact h2
      have HNM : Hid (∀ g, (Value.slice lo k cap).ownBlock = some g → g ≠ w.heap.size) := by
        intro g hg
        rcases hLk with ⟨h1, h2, h3⟩ | ⟨g', us, h1, _, h3, _⟩
        · rw [h3] at hg; cases hg
        · rw [h1] at hg; obtain rfl := Option.some.inj hg; exact h3
      have HV1 : Hid ([.int .i64 x, .int .i64 0, .bool false] = marksL 1 (c + 1)) := by show _ = _; rw [HX.out]; rfl
      have HV2 : Hid ([.int .i64 x, .int .i64 0, .bool false, .int .i64 x, .int .i64 0, .bool false] = marksL 2 (c + 1)) := by show _ = _; rw [HX.out]; rfl
      have HV3 : Hid ([.int .i64 x, .int .i64 0, .bool false, .int .i64 x, .int .i64 0, .bool false, .int .i64 x, .int .i64 0, .bool false] = marksL 3 (c + 1)) := by show _ = _; rw [HX.out]; rfl
      have m0 := hmb.cell_some (k := 0) rfl
      have m1 := hmb.cell_some (k := 1) rfl
      have m2 := hmb.cell_some (k := 2) rfl
      have HSTwo : Hid (St w wo B b c lb kv es (.slice lo k cap)) := hst
      have HMBwo : Hid (Blk wo w.heap.size 73 [.int .i64 x, .int .i64 0, .bool false]) := hmb
      clear hst hmb hLk
      go_wp2_with (first | (at_builtin; refine wpList_append_marksS _ rfl (.tmp 35) (.tmp 37) rfl (.slice lo k cap) k cap (c + 1) 1 rfl (HLSwo.out.to (below_alloc wo _)) ⟨wo.heap.size, 0, none⟩ 1 rfl (by decide) (by decide) (by omega) (by exact mark_cells ((Blk.new wo #[.int .i64 x, .int .i64 0, .bool false] 73).eq HV1.out)) ?_; intro a1 p1 wa hswa hlwa hpwa hgwa; have HLSwa : Hid (LSt wa (.slice lo k cap) k cap (c + 1)) := hlwa; have HSTwa : Hid (St w wa B b c lb kv es (.slice lo k cap)) := (HSTwo.out.to (below_alloc wo _)).grown hgwa ((HLSwo.out.to (below_alloc wo _)).block HLO.out); have hmwa := mark_kept (below_alloc wo _) HMBwo.out hgwa HNM.out; have HMBwa : Hid (Blk wa w.heap.size 73 [.int .i64 x, .int .i64 0, .bool false]) := hmwa; have x0wa := hmwa.cell_some (k := 0) rfl; have x1wa := hmwa.cell_some (k := 1) rfl; have x2wa := hmwa.cell_some (k := 2) rfl; have HN1wa : Hid (SIn wa wa.heap.size (.slice a1 (k + 1) p1) (k + 1) (c + 1)) := hswa; clear hswa hlwa hpwa hgwa hmwa) | (at_builtin; refine wpList_append_marksS _ rfl (.tmp 39) (.tmp 42) rfl (.slice lo k cap) k cap (c + 1) 2 rfl (HLSwa.out.to (below_alloc wa _)) ⟨wa.heap.size, 0, none⟩ 2 rfl (by decide) (by decide) (by omega) (by exact mark_cells ((Blk.new wa #[.int .i64 x, .int .i64 0, .bool false, .int .i64 x, .int .i64 0, .bool false] 73).eq HV2.out)) ?_; intro a2 p2 wb hswb hlwb hpwb hgwb; have HLSwb : Hid (LSt wb (.slice lo k cap) k cap (c + 1)) := hlwb; have HSTwb : Hid (St w wb B b c lb kv es (.slice lo k cap)) := (HSTwa.out.to (below_alloc wa _)).grown hgwb ((HLSwa.out.to (below_alloc wa _)).block HLO.out); have hmwb := mark_kept (below_alloc wa _) HMBwa.out hgwb HNM.out; have HMBwb : Hid (Blk wb w.heap.size 73 [.int .i64 x, .int .i64 0, .bool false]) := hmwb; have x0wb := hmwb.cell_some (k := 0) rfl; have x1wb := hmwb.cell_some (k := 1) rfl; have x2wb := hmwb.cell_some (k := 2) rfl; have HN2wb : Hid (SIn wb wb.heap.size (.slice a2 (k + 2) p2) (k + 2) (c + 1)) := hswb; have HN1wb : Hid (SIn wb wb.heap.size (.slice a1 (k + 1) p1) (k + 1) (c + 1)) := ((HN1wa.out).later (below_alloc wa _)).of3 (by exact hgwb.size) hpwb; clear hswb hlwb hpwb hgwb hmwb) | (at_builtin; refine wpList_append_marksS _ rfl (.tmp 44) (.tmp 48) rfl (.slice lo k cap) k cap (c + 1) 3 rfl (HLSwb.out.to (below_alloc wb _)) ⟨wb.heap.size, 0, none⟩ 3 rfl (by decide) (by decide) (by omega) (by exact mark_cells ((Blk.new wb #[.int .i64 x, .int .i64 0, .bool false, .int .i64 x, .int .i64 0, .bool false, .int .i64 x, .int .i64 0, .bool false] 73).eq HV3.out)) ?_; intro a3 p3 wc hswc hlwc hpwc hgwc; have HLSwc : Hid (LSt wc (.slice lo k cap) k cap (c + 1)) := hlwc; have HSTwc : Hid (St w wc B b c lb kv es (.slice lo k cap)) := (HSTwb.out.to (below_alloc wb _)).grown hgwc ((HLSwb.out.to (below_alloc wb _)).block HLO.out); have hmwc := mark_kept (below_alloc wb _) HMBwb.out hgwc HNM.out; have HMBwc : Hid (Blk wc w.heap.size 73 [.int .i64 x, .int .i64 0, .bool false]) := hmwc; have x0wc := hmwc.cell_some (k := 0) rfl; have x1wc := hmwc.cell_some (k := 1) rfl; have x2wc := hmwc.cell_some (k := 2) rfl; have HN3wc : Hid (SIn wc wc.heap.size (.slice a3 (k + 3) p3) (k + 3) (c + 1)) := hswc; have HN1wc : Hid (SIn wc wc.heap.size (.slice a1 (k + 1) p1) (k + 1) (c + 1)) := ((HN1wb.out).later (below_alloc wb _)).of3 (by exact hgwc.size) hpwc; have HN2wc : Hid (SIn wc wc.heap.size (.slice a2 (k + 2) p2) (k + 2) (c + 1)) := ((HN2wb.out).later (below_alloc wb _)).of3 (by exact hgwc.size) hpwc; clear hswc hlwc hpwc hgwc hmwc))
      have S4 : St w wc B b c lb kv es (.slice lo k cap) := HSTwc.out
      have hc0 := S4.blk.cell_some (k := 0) rfl
      have hc1 := S4.blk.cell_some (k := 1) rfl
      have hf1 := S4.blk.free 1
      rw [show ((c + 1 : Nat) : Int) = (c : Int) + 1 by omega] at hc0
      have HC0 : Hid (wc.drew.cell? ⟨b, 0, none⟩ = some (.int .i64 ((c : Int) + 1))) := hc0
      have hb4lt := S4.blk.lt
      have HS4 : Hid (St w wc B b c lb kv es (.slice lo k cap)) := S4
      have hk1 : IntKind.i64.wrap ((k : Int) + 1) = (k : Int) + 1 := by rw [IntKind.wrap_i64]; omega
      have hk2 : IntKind.i64.wrap ((k : Int) + 2) = (k : Int) + 2 := by rw [IntKind.wrap_i64]; omega
      have hk3 : IntKind.i64.wrap ((k : Int) + 3) = (k : Int) + 3 := by rw [IntKind.wrap_i64]; omega
      obtain ⟨ka, kc, rfl⟩ : ∃ ao c', kv = .slice ao (4 * c) c' := by
        rcases S4.own.2 with ⟨rfl, h0⟩ | ⟨g, cap, cur, rfl, _⟩
        · rw [h0]; exact ⟨_, _, rfl⟩
        · exact ⟨_, _, rfl⟩
      have HNEW : Hid (∀ e, e ∈ newsOf c k (.slice lo k cap) (.slice a1 (k + 1) p1) (.slice a2 (k + 2) p2) (.slice a3 (k + 3) p3) → e.ok wc wc.heap.size) :=
        newsOf_ok c k (by omega) (by omega) wc HLSwc.out.sIn HN1wc.out HN2wc.out HN3wc.out
      clear S4 hc0 m0 m1 m2 x0wa x1wa x2wa x0wb x1wb x2wb x0wc x1wc x2wc hx hneg
      refine wp_region_held (S := fun wx => wx.cell? ⟨b, 0, none⟩ = some (.int .i64 ((c : Int) + 1))) rfl ?_
      refine wpAnyH_take (i := 0) (v := (.pointer (some ⟨b, 0, none⟩))) rfl (by kernel_rfl) (by kernel_rfl) (by kernel_rfl) (fun _ _ _ h => h) (Or.inl ⟨by rfl, fun w hw => by go_simp⟩) HC0.out ?_
      refine wpAnyH_take (i := 1) (v := (.pointer (some ⟨b, 0, none⟩))) rfl (by kernel_rfl) (by kernel_rfl) (by kernel_rfl) (fun _ _ _ h => h) (Or.inl ⟨by rfl, fun w hw => by go_simp⟩) HC0.out ?_
      refine wpAnyH_take (i := 2) (v := (.pointer (some ⟨b, 0, none⟩))) rfl (by kernel_rfl) (by kernel_rfl) (by kernel_rfl) (fun _ _ _ h => h) (Or.inl ⟨by rfl, fun w hw => by go_simp⟩) HC0.out ?_
      refine wpAnyH_take (i := 3) (v := (.pointer (some ⟨b, 1, none⟩))) rfl (by kernel_rfl) (by kernel_rfl) (by kernel_rfl) (fun _ _ _ h => h) (Or.inl ⟨by rfl, fun w hw => by go_simp⟩) HC0.out ?_
      refine wpAnyH_take (i := 5) (v := (.pointer (some ⟨b, 0, none⟩))) rfl (by kernel_rfl) (by kernel_rfl) (by kernel_rfl) (fun _ _ _ h => h) (Or.inl ⟨by rfl, fun w hw => by go_simp⟩) HC0.out ?_
      simp only [Act.put]
      refine wpAnyH_take (i := 6) (v := (.pointer (some ⟨b, 0, none⟩))) rfl (by kernel_rfl) (by kernel_rfl) (by kernel_rfl) (fun _ _ _ h => h) (Or.inl ⟨by rfl, fun w hw => by go_simp⟩) HC0.out ?_
      refine wpAnyH_take (i := 7) (v := (.pointer (some ⟨b, 0, none⟩))) rfl (by kernel_rfl) (by kernel_rfl) (by kernel_rfl) (fun _ _ _ h => h) (Or.inl ⟨by rfl, fun w hw => by go_simp⟩) HC0.out ?_
      refine wpAnyH_take (i := 8) (v := (.int .i64 ((c : Int) + 1))) rfl (by kernel_rfl) (by kernel_rfl) (by kernel_rfl) (fun _ _ _ h => h) (Or.inl ⟨by rfl, fun w hw => by go_simp⟩) HC0.out ?_
      refine wpAnyH_take (i := 9) (v := (.int .i64 (k : Int))) rfl (by kernel_rfl) (by kernel_rfl) (by kernel_rfl) (fun _ _ _ h => h) (Or.inl ⟨by rfl, fun w hw => by go_simp⟩) HC0.out ?_
      refine wpAnyH_take (i := 10) (v := (.slice lo k cap)) rfl (by kernel_rfl) (by kernel_rfl) (by kernel_rfl) (fun _ _ _ h => h) (Or.inl ⟨by rfl, fun w hw => by go_simp⟩) HC0.out ?_
      refine wpAnyH_take (i := 11) (v := (.agg #[.int .i64 ((c : Int) + 1), .int .i64 (k : Int), .slice none 0 0, .slice none 0 0, .slice lo k cap])) rfl (by kernel_rfl) (by kernel_rfl) (by kernel_rfl) (fun _ _ _ h => h) (Or.inl ⟨by rfl, fun w hw => by go_simp⟩) HC0.out ?_
      simp only [Act.put]
      refine wpAnyH_take (i := 12) (v := (.pointer (some ⟨b, 0, none⟩))) rfl (by kernel_rfl) (by kernel_rfl) (by kernel_rfl) (fun _ _ _ h => h) (Or.inl ⟨by rfl, fun w hw => by go_simp⟩) HC0.out ?_
      refine wpAnyH_take (i := 13) (v := (.pointer (some ⟨b, 0, none⟩))) rfl (by kernel_rfl) (by kernel_rfl) (by kernel_rfl) (fun _ _ _ h => h) (Or.inl ⟨by rfl, fun w hw => by go_simp⟩) HC0.out ?_
      refine wpAnyH_take (i := 14) (v := (.pointer (some ⟨b, 0, none⟩))) rfl (by kernel_rfl) (by kernel_rfl) (by kernel_rfl) (fun _ _ _ h => h) (Or.inl ⟨by rfl, fun w hw => by go_simp⟩) HC0.out ?_
      refine wpAnyH_take (i := 15) (v := (.int .i64 ((c : Int) + 1))) rfl (by kernel_rfl) (by kernel_rfl) (by kernel_rfl) (fun _ _ _ h => h) (Or.inl ⟨by rfl, fun w hw => by go_simp⟩) HC0.out ?_
      refine wpAnyH_take (i := 16) (v := (.int .i64 (k : Int))) rfl (by kernel_rfl) (by kernel_rfl) (by kernel_rfl) (fun _ _ _ h => h) (Or.inl ⟨by rfl, fun w hw => by go_simp⟩) HC0.out ?_
      refine wpAnyH_take (i := 17) (v := (.int .i64 ((k : Int) + 1))) rfl (by kernel_rfl) (by kernel_rfl) (by kernel_rfl) (fun _ _ _ h => h) (Or.inl ⟨by rfl, fun w hw => by go_simp⟩) HC0.out ?_
      simp only [Act.put]
      refine wpAnyH_take (i := 18) (v := (.slice a1 (k + 1) p1)) rfl (by kernel_rfl) (by kernel_rfl) (by kernel_rfl) (fun _ _ _ h => h) (Or.inl ⟨by rfl, fun w hw => by go_simp⟩) HC0.out ?_
      refine wpAnyH_take (i := 19) (v := (.agg #[.int .i64 ((c : Int) + 1), .int .i64 ((k : Int) + 1), .slice none 0 0, .slice none 0 0, .slice a1 (k + 1) p1])) rfl (by kernel_rfl) (by kernel_rfl) (by kernel_rfl) (fun _ _ _ h => h) (Or.inl ⟨by rfl, fun w hw => by go_simp⟩) HC0.out ?_
      refine wpAnyH_take (i := 20) (v := (.pointer (some ⟨b, 0, none⟩))) rfl (by kernel_rfl) (by kernel_rfl) (by kernel_rfl) (fun _ _ _ h => h) (Or.inl ⟨by rfl, fun w hw => by go_simp⟩) HC0.out ?_
      refine wpAnyH_take (i := 21) (v := (.pointer (some ⟨b, 0, none⟩))) rfl (by kernel_rfl) (by kernel_rfl) (by kernel_rfl) (fun _ _ _ h => h) (Or.inl ⟨by rfl, fun w hw => by go_simp⟩) HC0.out ?_
      refine wpAnyH_take (i := 22) (v := (.pointer (some ⟨b, 0, none⟩))) rfl (by kernel_rfl) (by kernel_rfl) (by kernel_rfl) (fun _ _ _ h => h) (Or.inl ⟨by rfl, fun w hw => by go_simp⟩) HC0.out ?_
      refine wpAnyH_take (i := 23) (v := (.int .i64 ((c : Int) + 1))) rfl (by kernel_rfl) (by kernel_rfl) (by kernel_rfl) (fun _ _ _ h => h) (Or.inl ⟨by rfl, fun w hw => by go_simp⟩) HC0.out ?_
      simp only [Act.put]
      refine wpAnyH_take (i := 24) (v := (.int .i64 (k : Int))) rfl (by kernel_rfl) (by kernel_rfl) (by kernel_rfl) (fun _ _ _ h => h) (Or.inl ⟨by rfl, fun w hw => by go_simp⟩) HC0.out ?_
      refine wpAnyH_take (i := 25) (v := (.int .i64 ((k : Int) + 2))) rfl (by kernel_rfl) (by kernel_rfl) (by kernel_rfl) (fun _ _ _ h => h) (Or.inl ⟨by rfl, fun w hw => by go_simp⟩) HC0.out ?_
      refine wpAnyH_take (i := 26) (v := (.slice a2 (k + 2) p2)) rfl (by kernel_rfl) (by kernel_rfl) (by kernel_rfl) (fun _ _ _ h => h) (Or.inl ⟨by rfl, fun w hw => by go_simp⟩) HC0.out ?_
      refine wpAnyH_take (i := 27) (v := (.agg #[.int .i64 ((c : Int) + 1), .int .i64 ((k : Int) + 2), .slice none 0 0, .slice none 0 0, .slice a2 (k + 2) p2])) rfl (by kernel_rfl) (by kernel_rfl) (by kernel_rfl) (fun _ _ _ h => h) (Or.inl ⟨by rfl, fun w hw => by go_simp⟩) HC0.out ?_
      refine wpAnyH_take (i := 28) (v := (.pointer (some ⟨b, 0, none⟩))) rfl (by kernel_rfl) (by kernel_rfl) (by kernel_rfl) (fun _ _ _ h => h) (Or.inl ⟨by rfl, fun w hw => by go_simp⟩) HC0.out ?_
      refine wpAnyH_take (i := 29) (v := (.pointer (some ⟨b, 0, none⟩))) rfl (by kernel_rfl) (by kernel_rfl) (by kernel_rfl) (fun _ _ _ h => h) (Or.inl ⟨by rfl, fun w hw => by go_simp⟩) HC0.out ?_
      simp only [Act.put]
      refine wpAnyH_take (i := 30) (v := (.pointer (some ⟨b, 0, none⟩))) rfl (by kernel_rfl) (by kernel_rfl) (by kernel_rfl) (fun _ _ _ h => h) (Or.inl ⟨by rfl, fun w hw => by go_simp⟩) HC0.out ?_
      refine wpAnyH_take (i := 31) (v := (.int .i64 ((c : Int) + 1))) rfl (by kernel_rfl) (by kernel_rfl) (by kernel_rfl) (fun _ _ _ h => h) (Or.inl ⟨by rfl, fun w hw => by go_simp⟩) HC0.out ?_
      refine wpAnyH_take (i := 32) (v := (.int .i64 (k : Int))) rfl (by kernel_rfl) (by kernel_rfl) (by kernel_rfl) (fun _ _ _ h => h) (Or.inl ⟨by rfl, fun w hw => by go_simp⟩) HC0.out ?_
      refine wpAnyH_take (i := 33) (v := (.int .i64 ((k : Int) + 3))) rfl (by kernel_rfl) (by kernel_rfl) (by kernel_rfl) (fun _ _ _ h => h) (Or.inl ⟨by rfl, fun w hw => by go_simp⟩) HC0.out ?_
      refine wpAnyH_take (i := 34) (v := (.slice a3 (k + 3) p3)) rfl (by kernel_rfl) (by kernel_rfl) (by kernel_rfl) (fun _ _ _ h => h) (Or.inl ⟨by rfl, fun w hw => by go_simp⟩) HC0.out ?_
      refine wpAnyH_take (i := 35) (v := (.agg #[.int .i64 ((c : Int) + 1), .int .i64 ((k : Int) + 3), .slice none 0 0, .slice none 0 0, .slice a3 (k + 3) p3])) rfl (by kernel_rfl) (by kernel_rfl) (by kernel_rfl) (fun _ _ _ h => h) (Or.inl ⟨by rfl, fun w hw => by go_simp⟩) HC0.out ?_
      simp only [Act.put]
      refine wpAnyH_ready (rs := [4, 36]) (by kernel_rfl) (by simp) ?_
      refine AllReadyH.cons rfl (fun K hK => ?_) (AllReadyH.cons rfl (fun K hK => ?_) AllReadyH.nil)
      · go_simp
        refine hK.out _ _ HC0.out (fun _ => ?_)
        clear hK K
        refine wpAnyH_ready (rs := [36]) (by kernel_rfl) (by simp) ?_
        refine AllReadyH.cons rfl (fun K hK => ?_) AllReadyH.nil
        go_simp
        refine hK.out _ _ (by exact old_cell (w := wc) HC0.out _) (fun _ => ?_)
        clear hK K
        refine wpAnyH_ready (rs := [37]) (by kernel_rfl) (by simp) ?_
        refine AllReadyH.cons rfl (fun K hK => ?_) AllReadyH.nil
        refine step_append_many rfl (.tmp 54) (.tmp 86) 35 rfl B 88 _ 5 88 Tryd.underlying35 infoKept rfl (by decide) (.slice ka (4 * c) kc) (4 * c) (es.flatMap Ent.cells) rfl (by exact (HS4.out.own.alloc _).drew) ⟨wc.heap.size, 0, none⟩ 4 4 [.int .i64 ((c : Int) + 1), .int .i64 (k : Int), .slice none 0 0, .slice none 0 0, .slice lo k cap, .int .i64 ((c : Int) + 1), .int .i64 ((k : Int) + 1), .slice none 0 0, .slice none 0 0, .slice a1 (k + 1) p1, .int .i64 ((c : Int) + 1), .int .i64 ((k : Int) + 2), .slice none 0 0, .slice none 0 0, .slice a2 (k + 2) p2, .int .i64 ((c : Int) + 1), .int .i64 ((k : Int) + 3), .slice none 0 0, .slice none 0 0, .slice a3 (k + 3) p3] rfl rfl (many_cells wc 88 _) (by intro u hu; simp only [List.mem_cons, List.not_mem_nil, or_false] at hu; rcases hu with h | h | h | h | h | h | h | h | h | h | h | h | h | h | h | h | h | h | h | h <;> (rw [h]; rfl)) (by unfold maxLen; omega) (by omega) (by simp; omega) ?_
        intro kv' w5 ho hg
        have hb41 : Below wc.heap.size wc ((wc.alloc (.cells ([.int .i64 ((c : Int) + 1), .int .i64 (k : Int), .slice none 0 0, .slice none 0 0, .slice lo k cap, .int .i64 ((c : Int) + 1), .int .i64 ((k : Int) + 1), .slice none 0 0, .slice none 0 0, .slice a1 (k + 1) p1, .int .i64 ((c : Int) + 1), .int .i64 ((k : Int) + 2), .slice none 0 0, .slice none 0 0, .slice a2 (k + 2) p2, .int .i64 ((c : Int) + 1), .int .i64 ((k : Int) + 3), .slice none 0 0, .slice none 0 0, .slice a3 (k + 3) p3] : List Value).toArray 88)).drew) := (below_alloc wc _).drew
        have hblk5 := HS4.out.after hb41 hg
        obtain ⟨va, vc, rfl⟩ := owns_slice' ho
        have c05 := hblk5.cell_some (k := 0) rfl
        have c15 := hblk5.cell_some (k := 1) rfl
        have f15 := hblk5.free 1
        rw [← newsOf_cells] at ho
        have R := HS4.out.book hb41 hel rfl ho hg (fun e he => by
          obtain ⟨x1, x2, x3, x4⟩ := HNEW.out e he
          exact ⟨x1, x2, x3, x4.later hb41⟩)
        have HR : Hid _ := R
        have HC5 : Hid (w5.cell? ⟨b, 0, none⟩ = some (.int .i64 ((c : Int) + 1))) := c05
        have c06 : Hid ((w5.setCell ⟨b, 1, none⟩ (.slice va (4 * c + 4) vc)).cell? ⟨b, 0, none⟩ = some (.int .i64 ((c : Int) + 1))) := (hblk5.set 1 _).cell_some rfl
        clear R hblk5 hb41 hg ho c05
        refine hK.out _ _ HC5.out (fun _ => ?_)
        clear hK K
        refine wpAnyH_take (i := 38) (v := .pointer (some ⟨b, 0, none⟩)) rfl (by kernel_rfl) (by kernel_rfl) (by kernel_rfl) (fun _ _ _ h => h) (Or.inl ⟨by rfl, fun w hw => by go_simp⟩) HC5.out ?_
        refine wpAnyH_take (i := 39) (v := .pointer (some ⟨b, 1, none⟩)) rfl (by kernel_rfl) (by kernel_rfl) (by kernel_rfl) (fun _ _ _ h => h) (Or.inl ⟨by rfl, fun w hw => by go_simp⟩) HC5.out ?_
        simp only [Act.put]
        refine wpAnyH_ready (rs := [40]) (by kernel_rfl) (by simp) ?_
        refine AllReadyH.cons rfl (fun K hK => ?_) AllReadyH.nil
        go_simp
        refine hK.out _ _ c06.out (fun _ => ?_)
        clear hK K
        refine wpAnyH_done (by kernel_rfl) ?_ _
        go_wp2
        go_end0
        exact ⟨rfl, HR.out⟩
      · go_simp
        refine hK.out _ _ (by exact old_cell (w := wc) HC0.out _) (fun _ => ?_)
        clear hK K
        refine wpAnyH_ready (rs := [4]) (by kernel_rfl) (by simp) ?_
        refine AllReadyH.cons rfl (fun K hK => ?_) AllReadyH.nil
        go_simp
        refine hK.out _ _ (by exact old_cell (w := wc) HC0.out _) (fun _ => ?_)
        clear hK K
        refine wpAnyH_ready (rs := [37]) (by kernel_rfl) (by simp) ?_
        refine AllReadyH.cons rfl (fun K hK => ?_) AllReadyH.nil
        refine step_append_many rfl (.tmp 54) (.tmp 86) 35 rfl B 88 _ 5 88 Tryd.underlying35 infoKept rfl (by decide) (.slice ka (4 * c) kc) (4 * c) (es.flatMap Ent.cells) rfl (by exact (HS4.out.own.alloc _).drew) ⟨wc.heap.size, 0, none⟩ 4 4 [.int .i64 ((c : Int) + 1), .int .i64 (k : Int), .slice none 0 0, .slice none 0 0, .slice lo k cap, .int .i64 ((c : Int) + 1), .int .i64 ((k : Int) + 1), .slice none 0 0, .slice none 0 0, .slice a1 (k + 1) p1, .int .i64 ((c : Int) + 1), .int .i64 ((k : Int) + 2), .slice none 0 0, .slice none 0 0, .slice a2 (k + 2) p2, .int .i64 ((c : Int) + 1), .int .i64 ((k : Int) + 3), .slice none 0 0, .slice none 0 0, .slice a3 (k + 3) p3] rfl rfl (many_cells wc 88 _) (by intro u hu; simp only [List.mem_cons, List.not_mem_nil, or_false] at hu; rcases hu with h | h | h | h | h | h | h | h | h | h | h | h | h | h | h | h | h | h | h | h <;> (rw [h]; rfl)) (by unfold maxLen; omega) (by omega) (by simp; omega) ?_
        intro kv' w5 ho hg
        have hb41 : Below wc.heap.size wc ((wc.alloc (.cells ([.int .i64 ((c : Int) + 1), .int .i64 (k : Int), .slice none 0 0, .slice none 0 0, .slice lo k cap, .int .i64 ((c : Int) + 1), .int .i64 ((k : Int) + 1), .slice none 0 0, .slice none 0 0, .slice a1 (k + 1) p1, .int .i64 ((c : Int) + 1), .int .i64 ((k : Int) + 2), .slice none 0 0, .slice none 0 0, .slice a2 (k + 2) p2, .int .i64 ((c : Int) + 1), .int .i64 ((k : Int) + 3), .slice none 0 0, .slice none 0 0, .slice a3 (k + 3) p3] : List Value).toArray 88)).drew) := (below_alloc wc _).drew
        have hblk5 := HS4.out.after hb41 hg
        obtain ⟨va, vc, rfl⟩ := owns_slice' ho
        have c05 := hblk5.cell_some (k := 0) rfl
        have c15 := hblk5.cell_some (k := 1) rfl
        have f15 := hblk5.free 1
        rw [← newsOf_cells] at ho
        have R := HS4.out.book hb41 hel rfl ho hg (fun e he => by
          obtain ⟨x1, x2, x3, x4⟩ := HNEW.out e he
          exact ⟨x1, x2, x3, x4.later hb41⟩)
        have HR : Hid _ := R
        have HC5 : Hid (w5.cell? ⟨b, 0, none⟩ = some (.int .i64 ((c : Int) + 1))) := c05
        have c06 : Hid ((w5.setCell ⟨b, 1, none⟩ (.slice va (4 * c + 4) vc)).cell? ⟨b, 0, none⟩ = some (.int .i64 ((c : Int) + 1))) := (hblk5.set 1 _).cell_some rfl
        clear R hblk5 hb41 hg ho c05
        refine hK.out _ _ HC5.out (fun _ => ?_)
        clear hK K
        refine wpAnyH_take (i := 38) (v := .pointer (some ⟨b, 0, none⟩)) rfl (by kernel_rfl) (by kernel_rfl) (by kernel_rfl) (fun _ _ _ h => h) (Or.inl ⟨by rfl, fun w hw => by go_simp⟩) HC5.out ?_
        refine wpAnyH_take (i := 39) (v := .pointer (some ⟨b, 1, none⟩)) rfl (by kernel_rfl) (by kernel_rfl) (by kernel_rfl) (fun _ _ _ h => h) (Or.inl ⟨by rfl, fun w hw => by go_simp⟩) HC5.out ?_
        simp only [Act.put]
        refine wpAnyH_ready (rs := [40]) (by kernel_rfl) (by simp) ?_
        refine AllReadyH.cons rfl (fun K hK => ?_) AllReadyH.nil
        go_simp
        refine hK.out _ _ c06.out (fun _ => ?_)
        clear hK K
        refine wpAnyH_done (by kernel_rfl) ?_ _
        go_wp2
        go_end0
        exact ⟨rfl, HR.out⟩
end Go.Proofs.YtokmllopbfmadaaDoor.BookS
