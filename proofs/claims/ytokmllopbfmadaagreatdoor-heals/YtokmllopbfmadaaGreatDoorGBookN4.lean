import Derived.Test.YtokmllopbfmadaaGreatDoorGBookN3
import Derived.Test.YtokmllopbfmadaaGreatDoorGField
/- Numbers come into the book. -/
namespace Go.Proofs.YtokmllopbfmadaaGreatDoor.BookN
open Go.RowKit Mem FieldWalks Tab ByTab Parts Plans
open Book (StrsIn markS old_cell below_alloc many_cells owns_slice' step_append_many infoKept ownsRow_kept)

theorem NIn.of3 {w w' : World} {v : Value} {k n N : Nat} (h : NIn w N v k n) (hN : N ≤ w'.heap.size) (hk : ∀ N v2 n2, NIn w N v2 n2 n → NIn w' N v2 n2 n) : NIn w' w'.heap.size v k n := (hk _ _ _ h).mono hN
theorem owns_formI {w : World} {base : Nat} {v : Value} {n : Nat} {xs : List Value} (h : w.ownsRow base 3 1 v n xs) : ∃ lo cap, v = .slice lo n cap := Ref.owns_slice h
set_option maxRecDepth 100000 in
set_option maxHeartbeats 4000000 in
theorem numbers_any (B b c N lb n : Nat) (v : Value) (xs : List Value) (w : World) (hbook : BookAt w B b c N lb) (hc : c ≤ 8) (hn : n ≤ 90) (hN : B ≤ N) (hlb : B ≤ lb) (hown : w.ownsRow lb 3 1 v n xs) :
    Calls Tryz.prog 10 #[.pointer (some ⟨b, 0, none⟩), v] w fun e w' => e = .returned (.tuple #[]) ∧ BookAt w' B b (c + 1) N w'.heap.size ∧ Below B w w' ∧ (∀ g us, Blk w g 3 us → v.ownBlock ≠ some g → w'.heap[g]? = w.heap[g]?) ∧ ∀ g t us, t ≠ 3 → t ≠ 25 → t ≠ 61 → Blk w g t us → w'.heap[g]? = w.heap[g]? := by
  obtain ⟨hB, kv, es, hel, hblk, hown0, hes⟩ := hbook
  have c0 := hblk.cell_some (k := 0) rfl
  have f0 := hblk.free 0
  have hblt := hblk.lt
  have ST0 : Hid (StI w (w.setCell ⟨b, 0, none⟩ (.int .i64 ((c : Int) + 1))) B b c N lb kv es v) := StI.start hB hN hlb hblk hown0 hes
  have hput : (w.setCell ⟨b, 0, none⟩ (.int .i64 ((c : Int) + 1))).cell? ⟨b, 0, none⟩ = some (.int .i64 ((c : Int) + 1)) := (hblk.set 0 _).cell_some rfl
  obtain ⟨lo, cap, rfl⟩ : ∃ lo cap, v = .slice lo n cap := owns_formI hown
  have hL0 : (n = 0 ∧ cap = 0 ∧ lo = none) ∨ ∃ g us, lo = some ⟨g, 0, none⟩ ∧ lb ≤ g ∧ Blk (w.setCell ⟨b, 0, none⟩ (.int .i64 ((c : Int) + 1))) g 3 us ∧ us.length = cap ∧ n ≤ cap ∧ cap ≤ maxLen := by
    rcases hown.2 with ⟨h1, h2⟩ | ⟨g, cap', cur, h1, h2, h3, h4, h5, h6, _⟩
    · injection h1 with h1 h1' h1''
      exact .inl ⟨h2, h1'', h1⟩
    · injection h1 with h1 h1' h1''
      subst h1''
      have hbg : Blk w g 3 cur.toList := by unfold Blk; rw [h3]
      exact .inr ⟨g, cur.toList, h1, h2, hbg.other (hbg.type_ne hblk (by decide)) _, by simpa using h6, h4, h5⟩
  clear hblk hown hown0 hes
  obtain ⟨x, hx⟩ : ∃ x : Int, -1000 - ((c : Int) + 1) = x := ⟨_, rfl⟩
  have hneg : IntKind.i64.wrap x = x := by rw [IntKind.wrap_i64]; omega
  have HX : Hid ((.int .i64 x : Value) = mN (c + 1)) := by
    show _ = _
    unfold mN
    rw [← hx]; congr 1
  have HL0 : Hid ((n = 0 ∧ cap = 0 ∧ lo = none) ∨ ∃ g us, lo = some ⟨g, 0, none⟩ ∧ lb ≤ g ∧ Blk (w.setCell ⟨b, 0, none⟩ (.int .i64 ((c : Int) + 1))) g 3 us ∧ us.length = cap ∧ n ≤ cap ∧ cap ≤ maxLen) := hL0
  clear hL0
  go_enter Tryz.func10, Tryz.ntmps10
  go_wp2
  clear c0 f0 hput
  go_loopw [5] (fun i wr => ∃ k : Nat, k ≤ n ∧ i = .int .i64 k ∧ StI w wr B b c N lb kv es (.slice lo n cap) ∧ ((n = 0 ∧ cap = 0 ∧ lo = none) ∨ ∃ g us, lo = some ⟨g, 0, none⟩ ∧ lb ≤ g ∧ Blk wr g 3 us ∧ us.length = cap ∧ n ≤ cap ∧ cap ≤ maxLen ∧ MkI us k (c + 1))) (fun i _ => n - (intOf i).toNat)
  case atStart =>
    refine ⟨0, Nat.zero_le _, rfl, ST0.out, ?_⟩
    rcases HL0.out with h | ⟨g, us, h1, h2, h3, h4, h5, h6⟩
    · exact .inl h
    · exact .inr ⟨g, us, h1, h2, h3, h4, h5, h6, fun k hk => by omega⟩
  case round =>
    clear ST0 HL0
    obtain ⟨k, hk, rfl, hst, hLk⟩ := hrel
    by_cases hlt : k < n
    · obtain ⟨g, us, rfl, hlg, hgb, hul, hnc, hcm, hmk⟩ : ∃ g us, lo = some ⟨g, 0, none⟩ ∧ lb ≤ g ∧ Blk wr g 3 us ∧ us.length = cap ∧ n ≤ cap ∧ cap ≤ maxLen ∧ MkI us k (c + 1) := by
        rcases hLk with h | h
        · omega
        · exact h
      have u0 := hgb.cell_some (k := k) (List.getElem?_eq_getElem (by omega))
      generalize us[k]'(by omega) = y0 at u0
      have f0 := hgb.free k
      have HST : Hid (StI w wr B b c N lb kv es (.slice (some ⟨g, 0, none⟩) n cap)) := hst
      have HGB : Hid (Blk wr g 3 us) := hgb
      have HMK : Hid (MkI us k (c + 1)) := hmk
      have HUL : Hid (us.length = cap) := hul
      clear hst hgb hmk hLk hul
      go_wp2
      go_roundw
      case rel =>
        have hgr : wr.grownBy (wr.setCell ⟨g, k, none⟩ (.int .i64 x)) (some g) := ⟨rfl, rfl, rfl, by simp [World.setCell], fun q _ hq => by
          have hq' : q ≠ g := fun e => hq (by rw [e])
          rw [Below.heap_setCell _ _ _ _ (by exact hq')]⟩
        refine ⟨k + 1, by omega, by go_num, HST.out.grown (v := .slice (some ⟨g, 0, none⟩) n cap) hgr (fun q hq => ?_), .inr ⟨g, _, rfl, hlg, HGB.out.set k _, by simp [HUL.out], hnc, hcm, ?_⟩⟩
        · obtain rfl := Option.some.inj hq; exact ⟨hlg, us, HGB.out⟩
        · have := mkI_set HMK.out (by rw [HUL.out]; omega)
          rw [HX.out]; exact this
      case measure => simp [intOf]; omega
    · obtain rfl : k = n := by omega
      obtain ⟨wo, rfl⟩ : ∃ wo, wo = wr := ⟨_, rfl⟩
      have HLSwo : Hid (LStI wo (.slice lo k cap) k cap (c + 1)) := by
        rcases hLk with ⟨h1, h2, h3⟩ | ⟨g, us, h1, h2, h4, h5, h6, h7, h8⟩
        · rw [h3]; exact .inl ⟨h1, h2, by rw [h1, h2]⟩
        · rw [h1]; exact .inr ⟨g, us, k, rfl, h4, h5, Nat.le_refl _, h6, h7, h8⟩
      have HLO : Hid (∀ g, (Value.slice lo k cap).ownBlock = some g → lb ≤ g) := by
        intro g hg
        rcases hLk with ⟨h1, h2, h3⟩ | ⟨g', us, h1, h2, _⟩
        · rw [h3] at hg; cases hg
        · rw [h1] at hg; obtain rfl := Option.some.inj hg; exact h2
      have HV1 : Hid ([.int .i64 x] = marksI 1 (c + 1)) := by show _ = _; rw [HX.out]; rfl
      have HV2 : Hid ([.int .i64 x, .int .i64 x] = marksI 2 (c + 1)) := by show _ = _; rw [HX.out]; rfl
      have HV3 : Hid ([.int .i64 x, .int .i64 x, .int .i64 x] = marksI 3 (c + 1)) := by show _ = _; rw [HX.out]; rfl
      have HSTwo : Hid (StI w wo B b c N lb kv es (.slice lo k cap)) := hst
      clear hst hLk
      go_wp2_with (first | (at_builtin; refine wpList_append_marksI _ rfl (.tmp 34) (.tmp 36) rfl (.slice lo k cap) k cap (c + 1) 1 rfl (HLSwo.out.to (below_alloc wo _)) ⟨wo.heap.size, 0, none⟩ 1 rfl (by decide) (by decide) (by omega) (by exact markI_cells ((Blk.new wo #[.int .i64 x] 3).eq HV1.out)) ?_; intro a1 p1 wa hswa hlwa hpwa hgwa; have HLSwa : Hid (LStI wa (.slice lo k cap) k cap (c + 1)) := hlwa; have HSTwa : Hid (StI w wa B b c N lb kv es (.slice lo k cap)) := (HSTwo.out.to (below_alloc wo _)).grown hgwa ((HLSwo.out.to (below_alloc wo _)).block HLO.out); have HN1wa : Hid (NIn wa wa.heap.size (.slice a1 (k + 1) p1) (k + 1) (c + 1)) := hswa; clear hswa hlwa hpwa hgwa) | (at_builtin; refine wpList_append_marksI _ rfl (.tmp 38) (.tmp 41) rfl (.slice lo k cap) k cap (c + 1) 2 rfl (HLSwa.out.to (below_alloc wa _)) ⟨wa.heap.size, 0, none⟩ 2 rfl (by decide) (by decide) (by omega) (by exact markI_cells ((Blk.new wa #[.int .i64 x, .int .i64 x] 3).eq HV2.out)) ?_; intro a2 p2 wb hswb hlwb hpwb hgwb; have HLSwb : Hid (LStI wb (.slice lo k cap) k cap (c + 1)) := hlwb; have HSTwb : Hid (StI w wb B b c N lb kv es (.slice lo k cap)) := (HSTwa.out.to (below_alloc wa _)).grown hgwb ((HLSwa.out.to (below_alloc wa _)).block HLO.out); have HN2wb : Hid (NIn wb wb.heap.size (.slice a2 (k + 2) p2) (k + 2) (c + 1)) := hswb; have HN1wb : Hid (NIn wb wb.heap.size (.slice a1 (k + 1) p1) (k + 1) (c + 1)) := ((HN1wa.out).later (below_alloc wa _)).of3 (by exact hgwb.size) hpwb; clear hswb hlwb hpwb hgwb) | (at_builtin; refine wpList_append_marksI _ rfl (.tmp 43) (.tmp 47) rfl (.slice lo k cap) k cap (c + 1) 3 rfl (HLSwb.out.to (below_alloc wb _)) ⟨wb.heap.size, 0, none⟩ 3 rfl (by decide) (by decide) (by omega) (by exact markI_cells ((Blk.new wb #[.int .i64 x, .int .i64 x, .int .i64 x] 3).eq HV3.out)) ?_; intro a3 p3 wc hswc hlwc hpwc hgwc; have HLSwc : Hid (LStI wc (.slice lo k cap) k cap (c + 1)) := hlwc; have HSTwc : Hid (StI w wc B b c N lb kv es (.slice lo k cap)) := (HSTwb.out.to (below_alloc wb _)).grown hgwc ((HLSwb.out.to (below_alloc wb _)).block HLO.out); have HN3wc : Hid (NIn wc wc.heap.size (.slice a3 (k + 3) p3) (k + 3) (c + 1)) := hswc; have HN1wc : Hid (NIn wc wc.heap.size (.slice a1 (k + 1) p1) (k + 1) (c + 1)) := ((HN1wb.out).later (below_alloc wb _)).of3 (by exact hgwc.size) hpwc; have HN2wc : Hid (NIn wc wc.heap.size (.slice a2 (k + 2) p2) (k + 2) (c + 1)) := ((HN2wb.out).later (below_alloc wb _)).of3 (by exact hgwc.size) hpwc; clear hswc hlwc hpwc hgwc))
      have S4 : StI w wc B b c N lb kv es (.slice lo k cap) := HSTwc.out
      have hc0 := S4.st.blk.cell_some (k := 0) rfl
      have hc1 := S4.st.blk.cell_some (k := 1) rfl
      have hf1 := S4.st.blk.free 1
      rw [show ((c + 1 : Nat) : Int) = (c : Int) + 1 by omega] at hc0
      have HC0 : Hid (wc.drew.cell? ⟨b, 0, none⟩ = some (.int .i64 ((c : Int) + 1))) := hc0
      have hb4lt := S4.st.blk.lt
      have HS4 : Hid (StI w wc B b c N lb kv es (.slice lo k cap)) := S4
      have hk1 : IntKind.i64.wrap ((k : Int) + 1) = (k : Int) + 1 := by rw [IntKind.wrap_i64]; omega
      have hk2 : IntKind.i64.wrap ((k : Int) + 2) = (k : Int) + 2 := by rw [IntKind.wrap_i64]; omega
      have hk3 : IntKind.i64.wrap ((k : Int) + 3) = (k : Int) + 3 := by rw [IntKind.wrap_i64]; omega
      obtain ⟨ka, kc, rfl⟩ : ∃ ao c', kv = .slice ao (4 * c) c' := by
        rcases S4.st.own.2 with ⟨rfl, h0⟩ | ⟨g, cap, cur, rfl, _⟩
        · rw [h0]; exact ⟨_, _, rfl⟩
        · exact ⟨_, _, rfl⟩
      have HNEW : Hid (∀ e, e ∈ newsI c k (.slice lo k cap) (.slice a1 (k + 1) p1) (.slice a2 (k + 2) p2) (.slice a3 (k + 3) p3) → e.ok wc N wc.heap.size) :=
        newsI_ok N c k (by omega) (by omega) wc HLSwc.out.nIn HN1wc.out HN2wc.out HN3wc.out
      clear S4 hc0 hx hneg
      refine wp_region_held (S := fun wx => wx.cell? ⟨b, 0, none⟩ = some (.int .i64 ((c : Int) + 1))) rfl ?_
      refine wpAnyH_take (i := 0) (v := (.pointer (some ⟨b, 0, none⟩))) rfl (by kernel_rfl) (by kernel_rfl) (by kernel_rfl) (fun _ _ _ h => h) (Or.inl ⟨by rfl, fun w hw => by go_simp⟩) HC0.out ?_
      refine wpAnyH_take (i := 1) (v := (.pointer (some ⟨b, 0, none⟩))) rfl (by kernel_rfl) (by kernel_rfl) (by kernel_rfl) (fun _ _ _ h => h) (Or.inl ⟨by rfl, fun w hw => by go_simp⟩) HC0.out ?_
      refine wpAnyH_take (i := 2) (v := (.pointer (some ⟨b, 0, none⟩))) rfl (by kernel_rfl) (by kernel_rfl) (by kernel_rfl) (fun _ _ _ h => h) (Or.inl ⟨by rfl, fun w hw => by go_simp⟩) HC0.out ?_
      refine wpAnyH_take (i := 3) (v := (.pointer (some ⟨b, 1, none⟩))) rfl (by kernel_rfl) (by kernel_rfl) (by kernel_rfl) (fun _ _ _ h => h) (Or.inl ⟨by rfl, fun w hw => by go_simp⟩) HC0.out ?_
      refine wpAnyH_take (i := 5) (v := (.pointer (some ⟨b, 0, none⟩))) rfl (by kernel_rfl) (by kernel_rfl) (by kernel_rfl) (fun _ _ _ h => h) (Or.inl ⟨by rfl, fun w hw => by go_simp⟩) HC0.out ?_
      simp only [Act.put]
      refine wpAnyH_take (i := 6) (v := (.pointer (some ⟨b, 0, none⟩))) rfl (by kernel_rfl) (by kernel_rfl) (by kernel_rfl) (fun _ _ _ h => h) (Or.inl ⟨by rfl, fun w hw => by go_simp⟩) HC0.out ?_
      refine wpAnyH_take (i := 7) (v := (.pointer (some ⟨b, 0, none⟩))) rfl (by kernel_rfl) (by kernel_rfl) (by kernel_rfl) (fun _ _ _ h => h) (Or.inl ⟨by rfl, fun w hw => by go_simp⟩) HC0.out ?_
      refine wpAnyH_take (i := 8) (v := (.int .i64 ((c : Int) + 1))) rfl (by kernel_rfl) (by kernel_rfl) (by kernel_rfl) (fun _ _ _ h => h) (Or.inl ⟨by rfl, fun w hw => by go_simp⟩) HC0.out ?_
      refine wpAnyH_take (i := 9) (v := (.int .i64 (k : Int))) rfl (by kernel_rfl) (by kernel_rfl) (by kernel_rfl) (fun _ _ _ h => h) (Or.inl ⟨by rfl, fun w hw => by go_simp⟩) HC0.out ?_
      refine wpAnyH_take (i := 10) (v := (.slice lo k cap)) rfl (by kernel_rfl) (by kernel_rfl) (by kernel_rfl) (fun _ _ _ h => h) (Or.inl ⟨by rfl, fun w hw => by go_simp⟩) HC0.out ?_
      refine wpAnyH_take (i := 11) (v := (.agg #[.int .i64 ((c : Int) + 1), .int .i64 (k : Int), .slice none 0 0, .slice lo k cap, .slice none 0 0])) rfl (by kernel_rfl) (by kernel_rfl) (by kernel_rfl) (fun _ _ _ h => h) (Or.inl ⟨by rfl, fun w hw => by go_simp⟩) HC0.out ?_
      simp only [Act.put]
      refine wpAnyH_take (i := 12) (v := (.pointer (some ⟨b, 0, none⟩))) rfl (by kernel_rfl) (by kernel_rfl) (by kernel_rfl) (fun _ _ _ h => h) (Or.inl ⟨by rfl, fun w hw => by go_simp⟩) HC0.out ?_
      refine wpAnyH_take (i := 13) (v := (.pointer (some ⟨b, 0, none⟩))) rfl (by kernel_rfl) (by kernel_rfl) (by kernel_rfl) (fun _ _ _ h => h) (Or.inl ⟨by rfl, fun w hw => by go_simp⟩) HC0.out ?_
      refine wpAnyH_take (i := 14) (v := (.pointer (some ⟨b, 0, none⟩))) rfl (by kernel_rfl) (by kernel_rfl) (by kernel_rfl) (fun _ _ _ h => h) (Or.inl ⟨by rfl, fun w hw => by go_simp⟩) HC0.out ?_
      refine wpAnyH_take (i := 15) (v := (.int .i64 ((c : Int) + 1))) rfl (by kernel_rfl) (by kernel_rfl) (by kernel_rfl) (fun _ _ _ h => h) (Or.inl ⟨by rfl, fun w hw => by go_simp⟩) HC0.out ?_
      refine wpAnyH_take (i := 16) (v := (.int .i64 (k : Int))) rfl (by kernel_rfl) (by kernel_rfl) (by kernel_rfl) (fun _ _ _ h => h) (Or.inl ⟨by rfl, fun w hw => by go_simp⟩) HC0.out ?_
      refine wpAnyH_take (i := 17) (v := (.int .i64 ((k : Int) + 1))) rfl (by kernel_rfl) (by kernel_rfl) (by kernel_rfl) (fun _ _ _ h => h) (Or.inl ⟨by rfl, fun w hw => by go_simp⟩) HC0.out ?_
      simp only [Act.put]
      refine wpAnyH_take (i := 18) (v := (.slice a1 (k + 1) p1)) rfl (by kernel_rfl) (by kernel_rfl) (by kernel_rfl) (fun _ _ _ h => h) (Or.inl ⟨by rfl, fun w hw => by go_simp⟩) HC0.out ?_
      refine wpAnyH_take (i := 19) (v := (.agg #[.int .i64 ((c : Int) + 1), .int .i64 ((k : Int) + 1), .slice none 0 0, .slice a1 (k + 1) p1, .slice none 0 0])) rfl (by kernel_rfl) (by kernel_rfl) (by kernel_rfl) (fun _ _ _ h => h) (Or.inl ⟨by rfl, fun w hw => by go_simp⟩) HC0.out ?_
      refine wpAnyH_take (i := 20) (v := (.pointer (some ⟨b, 0, none⟩))) rfl (by kernel_rfl) (by kernel_rfl) (by kernel_rfl) (fun _ _ _ h => h) (Or.inl ⟨by rfl, fun w hw => by go_simp⟩) HC0.out ?_
      refine wpAnyH_take (i := 21) (v := (.pointer (some ⟨b, 0, none⟩))) rfl (by kernel_rfl) (by kernel_rfl) (by kernel_rfl) (fun _ _ _ h => h) (Or.inl ⟨by rfl, fun w hw => by go_simp⟩) HC0.out ?_
      refine wpAnyH_take (i := 22) (v := (.pointer (some ⟨b, 0, none⟩))) rfl (by kernel_rfl) (by kernel_rfl) (by kernel_rfl) (fun _ _ _ h => h) (Or.inl ⟨by rfl, fun w hw => by go_simp⟩) HC0.out ?_
      refine wpAnyH_take (i := 23) (v := (.int .i64 ((c : Int) + 1))) rfl (by kernel_rfl) (by kernel_rfl) (by kernel_rfl) (fun _ _ _ h => h) (Or.inl ⟨by rfl, fun w hw => by go_simp⟩) HC0.out ?_
      simp only [Act.put]
      refine wpAnyH_take (i := 24) (v := (.int .i64 (k : Int))) rfl (by kernel_rfl) (by kernel_rfl) (by kernel_rfl) (fun _ _ _ h => h) (Or.inl ⟨by rfl, fun w hw => by go_simp⟩) HC0.out ?_
      refine wpAnyH_take (i := 25) (v := (.int .i64 ((k : Int) + 2))) rfl (by kernel_rfl) (by kernel_rfl) (by kernel_rfl) (fun _ _ _ h => h) (Or.inl ⟨by rfl, fun w hw => by go_simp⟩) HC0.out ?_
      refine wpAnyH_take (i := 26) (v := (.slice a2 (k + 2) p2)) rfl (by kernel_rfl) (by kernel_rfl) (by kernel_rfl) (fun _ _ _ h => h) (Or.inl ⟨by rfl, fun w hw => by go_simp⟩) HC0.out ?_
      refine wpAnyH_take (i := 27) (v := (.agg #[.int .i64 ((c : Int) + 1), .int .i64 ((k : Int) + 2), .slice none 0 0, .slice a2 (k + 2) p2, .slice none 0 0])) rfl (by kernel_rfl) (by kernel_rfl) (by kernel_rfl) (fun _ _ _ h => h) (Or.inl ⟨by rfl, fun w hw => by go_simp⟩) HC0.out ?_
      refine wpAnyH_take (i := 28) (v := (.pointer (some ⟨b, 0, none⟩))) rfl (by kernel_rfl) (by kernel_rfl) (by kernel_rfl) (fun _ _ _ h => h) (Or.inl ⟨by rfl, fun w hw => by go_simp⟩) HC0.out ?_
      refine wpAnyH_take (i := 29) (v := (.pointer (some ⟨b, 0, none⟩))) rfl (by kernel_rfl) (by kernel_rfl) (by kernel_rfl) (fun _ _ _ h => h) (Or.inl ⟨by rfl, fun w hw => by go_simp⟩) HC0.out ?_
      simp only [Act.put]
      refine wpAnyH_take (i := 30) (v := (.pointer (some ⟨b, 0, none⟩))) rfl (by kernel_rfl) (by kernel_rfl) (by kernel_rfl) (fun _ _ _ h => h) (Or.inl ⟨by rfl, fun w hw => by go_simp⟩) HC0.out ?_
      refine wpAnyH_take (i := 31) (v := (.int .i64 ((c : Int) + 1))) rfl (by kernel_rfl) (by kernel_rfl) (by kernel_rfl) (fun _ _ _ h => h) (Or.inl ⟨by rfl, fun w hw => by go_simp⟩) HC0.out ?_
      refine wpAnyH_take (i := 32) (v := (.int .i64 (k : Int))) rfl (by kernel_rfl) (by kernel_rfl) (by kernel_rfl) (fun _ _ _ h => h) (Or.inl ⟨by rfl, fun w hw => by go_simp⟩) HC0.out ?_
      refine wpAnyH_take (i := 33) (v := (.int .i64 ((k : Int) + 3))) rfl (by kernel_rfl) (by kernel_rfl) (by kernel_rfl) (fun _ _ _ h => h) (Or.inl ⟨by rfl, fun w hw => by go_simp⟩) HC0.out ?_
      refine wpAnyH_take (i := 34) (v := (.slice a3 (k + 3) p3)) rfl (by kernel_rfl) (by kernel_rfl) (by kernel_rfl) (fun _ _ _ h => h) (Or.inl ⟨by rfl, fun w hw => by go_simp⟩) HC0.out ?_
      refine wpAnyH_take (i := 35) (v := (.agg #[.int .i64 ((c : Int) + 1), .int .i64 ((k : Int) + 3), .slice none 0 0, .slice a3 (k + 3) p3, .slice none 0 0])) rfl (by kernel_rfl) (by kernel_rfl) (by kernel_rfl) (fun _ _ _ h => h) (Or.inl ⟨by rfl, fun w hw => by go_simp⟩) HC0.out ?_
      simp only [Act.put]
      refine wpAnyH_ready (rs := [4, 36]) (by kernel_rfl) (by simp) ?_
      refine AllReadyH.cons rfl (fun K hK => ?_) (AllReadyH.cons rfl (fun K hK => ?_) AllReadyH.nil)
      · go_simp
        refine hK.out _ _ HC0.out (fun _ => ?_)
        clear hK K
        refine wpAnyH_ready (rs := [36]) (by kernel_rfl) (by simp) ?_
        refine AllReadyH.cons rfl (fun K hK => ?_) AllReadyH.nil
        go_simp
        refine hK.out _ _ (by exact old_cell (w := wc) HC0.out _) (fun _ => ?_)
        clear hK K
        refine wpAnyH_ready (rs := [37]) (by kernel_rfl) (by simp) ?_
        refine AllReadyH.cons rfl (fun K hK => ?_) AllReadyH.nil
        refine step_append_many rfl (.tmp 53) (.tmp 85) 23 rfl B 61 _ 5 88 Tryz.underlying23 infoKept rfl (by decide) (.slice ka (4 * c) kc) (4 * c) (es.flatMap Ent.cells) rfl (by exact (HS4.out.st.own.alloc _).drew) ⟨wc.heap.size, 0, none⟩ 4 4 [.int .i64 ((c : Int) + 1), .int .i64 (k : Int), .slice none 0 0, .slice lo k cap, .slice none 0 0, .int .i64 ((c : Int) + 1), .int .i64 ((k : Int) + 1), .slice none 0 0, .slice a1 (k + 1) p1, .slice none 0 0, .int .i64 ((c : Int) + 1), .int .i64 ((k : Int) + 2), .slice none 0 0, .slice a2 (k + 2) p2, .slice none 0 0, .int .i64 ((c : Int) + 1), .int .i64 ((k : Int) + 3), .slice none 0 0, .slice a3 (k + 3) p3, .slice none 0 0] rfl rfl (many_cells wc 61 _) (by intro u hu; simp only [List.mem_cons, List.not_mem_nil, or_false] at hu; rcases hu with h | h | h | h | h | h | h | h | h | h | h | h | h | h | h | h | h | h | h | h <;> (rw [h]; rfl)) (by unfold maxLen; omega) (by omega) (by simp; omega) ?_
        intro kv' w5 ho hg
        have hb41 : Below wc.heap.size wc ((wc.alloc (.cells ([.int .i64 ((c : Int) + 1), .int .i64 (k : Int), .slice none 0 0, .slice lo k cap, .slice none 0 0, .int .i64 ((c : Int) + 1), .int .i64 ((k : Int) + 1), .slice none 0 0, .slice a1 (k + 1) p1, .slice none 0 0, .int .i64 ((c : Int) + 1), .int .i64 ((k : Int) + 2), .slice none 0 0, .slice a2 (k + 2) p2, .slice none 0 0, .int .i64 ((c : Int) + 1), .int .i64 ((k : Int) + 3), .slice none 0 0, .slice a3 (k + 3) p3, .slice none 0 0] : List Value).toArray 61)).drew) := (below_alloc wc _).drew
        have hblk5 := HS4.out.st.after hb41 hg
        obtain ⟨va, vc, rfl⟩ := owns_slice' ho
        have c05 := hblk5.cell_some (k := 0) rfl
        have c15 := hblk5.cell_some (k := 1) rfl
        have f15 := hblk5.free 1
        rw [← newsI_cells] at ho
        have R := HS4.out.book hb41 hel rfl ho hg (fun e he => Ent.hereI (Ent.to (HNEW.out e he) hb41))
        have HR : Hid _ := R
        have HC5 : Hid (w5.cell? ⟨b, 0, none⟩ = some (.int .i64 ((c : Int) + 1))) := c05
        have c06 : Hid ((w5.setCell ⟨b, 1, none⟩ (.slice va (4 * c + 4) vc)).cell? ⟨b, 0, none⟩ = some (.int .i64 ((c : Int) + 1))) := (hblk5.set 1 _).cell_some rfl
        clear R hblk5 hb41 hg ho c05
        refine hK.out _ _ HC5.out (fun _ => ?_)
        clear hK K
        refine wpAnyH_take (i := 38) (v := .pointer (some ⟨b, 0, none⟩)) rfl (by kernel_rfl) (by kernel_rfl) (by kernel_rfl) (fun _ _ _ h => h) (Or.inl ⟨by rfl, fun w hw => by go_simp⟩) HC5.out ?_
        refine wpAnyH_take (i := 39) (v := .pointer (some ⟨b, 1, none⟩)) rfl (by kernel_rfl) (by kernel_rfl) (by kernel_rfl) (fun _ _ _ h => h) (Or.inl ⟨by rfl, fun w hw => by go_simp⟩) HC5.out ?_
        simp only [Act.put]
        refine wpAnyH_ready (rs := [40]) (by kernel_rfl) (by simp) ?_
        refine AllReadyH.cons rfl (fun K hK => ?_) AllReadyH.nil
        go_simp
        refine hK.out _ _ c06.out (fun _ => ?_)
        clear hK K
        refine wpAnyH_done (by kernel_rfl) ?_ _
        go_wp2
        go_end0
        exact ⟨rfl, HR.out⟩
      · go_simp
        refine hK.out _ _ (by exact old_cell (w := wc) HC0.out _) (fun _ => ?_)
        clear hK K
        refine wpAnyH_ready (rs := [4]) (by kernel_rfl) (by simp) ?_
        refine AllReadyH.cons rfl (fun K hK => ?_) AllReadyH.nil
        go_simp
        refine hK.out _ _ (by exact old_cell (w := wc) HC0.out _) (fun _ => ?_)
        clear hK K
        refine wpAnyH_ready (rs := [37]) (by kernel_rfl) (by simp) ?_
        refine AllReadyH.cons rfl (fun K hK => ?_) AllReadyH.nil
        refine step_append_many rfl (.tmp 53) (.tmp 85) 23 rfl B 61 _ 5 88 Tryz.underlying23 infoKept rfl (by decide) (.slice ka (4 * c) kc) (4 * c) (es.flatMap Ent.cells) rfl (by exact (HS4.out.st.own.alloc _).drew) ⟨wc.heap.size, 0, none⟩ 4 4 [.int .i64 ((c : Int) + 1), .int .i64 (k : Int), .slice none 0 0, .slice lo k cap, .slice none 0 0, .int .i64 ((c : Int) + 1), .int .i64 ((k : Int) + 1), .slice none 0 0, .slice a1 (k + 1) p1, .slice none 0 0, .int .i64 ((c : Int) + 1), .int .i64 ((k : Int) + 2), .slice none 0 0, .slice a2 (k + 2) p2, .slice none 0 0, .int .i64 ((c : Int) + 1), .int .i64 ((k : Int) + 3), .slice none 0 0, .slice a3 (k + 3) p3, .slice none 0 0] rfl rfl (many_cells wc 61 _) (by intro u hu; simp only [List.mem_cons, List.not_mem_nil, or_false] at hu; rcases hu with h | h | h | h | h | h | h | h | h | h | h | h | h | h | h | h | h | h | h | h <;> (rw [h]; rfl)) (by unfold maxLen; omega) (by omega) (by simp; omega) ?_
        intro kv' w5 ho hg
        have hb41 : Below wc.heap.size wc ((wc.alloc (.cells ([.int .i64 ((c : Int) + 1), .int .i64 (k : Int), .slice none 0 0, .slice lo k cap, .slice none 0 0, .int .i64 ((c : Int) + 1), .int .i64 ((k : Int) + 1), .slice none 0 0, .slice a1 (k + 1) p1, .slice none 0 0, .int .i64 ((c : Int) + 1), .int .i64 ((k : Int) + 2), .slice none 0 0, .slice a2 (k + 2) p2, .slice none 0 0, .int .i64 ((c : Int) + 1), .int .i64 ((k : Int) + 3), .slice none 0 0, .slice a3 (k + 3) p3, .slice none 0 0] : List Value).toArray 61)).drew) := (below_alloc wc _).drew
        have hblk5 := HS4.out.st.after hb41 hg
        obtain ⟨va, vc, rfl⟩ := owns_slice' ho
        have c05 := hblk5.cell_some (k := 0) rfl
        have c15 := hblk5.cell_some (k := 1) rfl
        have f15 := hblk5.free 1
        rw [← newsI_cells] at ho
        have R := HS4.out.book hb41 hel rfl ho hg (fun e he => Ent.hereI (Ent.to (HNEW.out e he) hb41))
        have HR : Hid _ := R
        have HC5 : Hid (w5.cell? ⟨b, 0, none⟩ = some (.int .i64 ((c : Int) + 1))) := c05
        have c06 : Hid ((w5.setCell ⟨b, 1, none⟩ (.slice va (4 * c + 4) vc)).cell? ⟨b, 0, none⟩ = some (.int .i64 ((c : Int) + 1))) := (hblk5.set 1 _).cell_some rfl
        clear R hblk5 hb41 hg ho c05
        refine hK.out _ _ HC5.out (fun _ => ?_)
        clear hK K
        refine wpAnyH_take (i := 38) (v := .pointer (some ⟨b, 0, none⟩)) rfl (by kernel_rfl) (by kernel_rfl) (by kernel_rfl) (fun _ _ _ h => h) (Or.inl ⟨by rfl, fun w hw => by go_simp⟩) HC5.out ?_
        refine wpAnyH_take (i := 39) (v := .pointer (some ⟨b, 1, none⟩)) rfl (by kernel_rfl) (by kernel_rfl) (by kernel_rfl) (fun _ _ _ h => h) (Or.inl ⟨by rfl, fun w hw => by go_simp⟩) HC5.out ?_
        simp only [Act.put]
        refine wpAnyH_ready (rs := [40]) (by kernel_rfl) (by simp) ?_
        refine AllReadyH.cons rfl (fun K hK => ?_) AllReadyH.nil
        go_simp
        refine hK.out _ _ c06.out (fun _ => ?_)
        clear hK K
        refine wpAnyH_done (by kernel_rfl) ?_ _
        go_wp2
        go_end0
        exact ⟨rfl, HR.out⟩
end Go.Proofs.YtokmllopbfmadaaGreatDoor.BookN

namespace Go.Proofs.YtokmllopbfmadaaGreatDoor.FieldWalks
open Go.RowKit

theorem num_any (a : Int) (w : World) : Calls Tryz.prog 14 #[.int .i64 a] w fun e w' => e = .returned (.int .i64 a) ∧ w' = w := by
  go_enter Tryz.func14, Tryz.ntmps14
  go_wp2
  go_ret
  exact ⟨rfl, rfl⟩

end Go.Proofs.YtokmllopbfmadaaGreatDoor.FieldWalks
