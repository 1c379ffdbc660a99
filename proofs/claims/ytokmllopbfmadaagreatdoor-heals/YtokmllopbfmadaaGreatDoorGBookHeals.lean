import Derived.Test.YtokmllopbfmadaaGreatDoorGBookOpen
import Derived.Test.YtokmllopbfmadaaGreatDoorGRefHealed
/- Read, Heal and Edit of the program and of the document, held against each other; Heals. -/
namespace Go.Proofs.YtokmllopbfmadaaGreatDoor.BookN
open Go.RowKit Mem FieldWalks Tab ByTab Parts Ref Plans Top
open Gf (Bytes Fits chosen left_)
open Pk (MendNo MendYes MendOk newPieces)

theorem texts_sizes (d s : Nat) (ps : List (List Nat)) (L : Nat) (hl : ∀ j, (h : j < ps.length) → ps[j].length = L) (hlen : ps.length = d) (q : Nat) (h : q < (texts ps (sums (facs d s) ps L)).length) : ((texts ps (sums (facs d s) ps L))[q]).size = L := by
  have hq : q < d + s := by simpa [texts, sums, facs, hlen] using h
  have h' : q < (ps ++ sums (facs d s) ps L).length := by simpa [texts] using h
  have e0 : (texts ps (sums (facs d s) ps L))[q] = mkS (ps ++ sums (facs d s) ps L)[q] := List.getElem_map _
  rw [e0, mkS_size]
  by_cases e : q < ps.length
  · rw [List.getElem_append_left e]; exact hl q e
  · rw [List.getElem_append_right (by omega)]
    simp only [sums, List.getElem_map]
    exact Gf.sumTo_length _ ps L hl _ (Nat.le_refl _)
/-- The pieces of a pack that is mended are those of one text. -/
theorem fits_any (p : ByteArray) (x : Nat) (hp : p.size < 4611686018427387904) (h : headOk p) (hc : cutOk p) (hx : x ≤ 2) (hfew : (openBad p).length ≤ pS p) (w : World) :
    ∃ ps, Fits (pD p) (pL p) (chosen (left_ ((openBad p).map Int.ofNat)) (pD p) (pS p)) (fun q => nums ((openPieces p).getD q ByteArray.empty)) ps := by
  obtain ⟨_, w1, _, ⟨v1, v2, _, ho1, ho2, _⟩, _⟩ := rOpen_ok p hp h hc w []
  have hD := h.2.2.2.1
  have hN := h.2.2.2.2.1
  obtain ⟨fs, hpk⟩ := isPack_of h hc
  obtain ⟨_, _, _, ⟨_, ps, _, hf, _⟩, _⟩ := rGather_ok (pD p) (pS p) x (pN p) (pL p) (openPieces p) ((openBad p).map Int.ofNat) v1 v2 w1 (StrsAt.of_owns ho1) (KeepW.IsC.of_owns ho2) (by omega) (by omega) (by omega) hx hN rfl (fun q hq => by rw [hpk.pieces_size q hq]; have : pL p ≤ 409 := (by unfold pL; exact Nat.le_trans (Nat.div_le_self _ _) (by omega)); omega) hpk.shape (by simpa using hfew) []
  exact ⟨ps, hf⟩
/-- mend and healed come to the same. -/
theorem mended_both (hS : SumsOk) (p : ByteArray) (x : Int) (hp : p.size < 4611686018427387904) (h : MendYes p x) (w : World) : ∃ (D S N L : Nat) (str : ByteArray) (ss : List ByteArray), 1 ≤ D ∧ D ≤ 10 ∧ S ≤ 6 ∧ N ≤ 400 ∧ L = (N + D - 1) / D ∧ ss.length = D + S ∧ (∀ q, (h : q < ss.length) → ss[q].size = L) ∧ (openBad p).length ≤ S ∧
    MendOk p x D S N str ss (openBad p) ∧ HealedOk p x D S N str ss (openBad p) := by
  obtain ⟨h1, h2, h3, h4⟩ := h
  have h3' := of_decide_eq_true h3
  obtain ⟨x, rfl⟩ := Int.eq_ofNat_of_zero_le h3'.1
  have hx : x ≤ 2 := by omega
  have hD := h1.2.2.2.1
  have hN := h1.2.2.2.2.1
  obtain ⟨ps, hfit⟩ := fits_any p x hp h1 h2 hx h4 w
  exact ⟨pD p, pS p, pN p, pL p, mkS (ps.flatten.take (pN p)), texts ps (sums (facs (pD p) (pS p)) ps (pL p)), hD.1, hD.2.1, hD.2.2, hN, rfl, by simp [texts, sums, facs, hfit.len], texts_sizes _ _ ps _ hfit.size hfit.len, h4,
    fun W hW => Pk.mend_ok hS p x h1 h2 hp hx h4 ps hfit W hW, fun W => healed_ok p x h1 h2 hp hx h4 ps hfit W⟩
theorem read_both (hS : SumsOk) (p : ByteArray) (x : Int) (hp : p.size < 4611686018427387904) (w0 : World) : ∃ (out : ByteArray) (er : Int),
    (∀ w, Table w → Calls Tryz.prog 5 #[.string p, .int .i64 x] w fun e w' => e = .returned (.tuple #[.string out, .int .i64 er]) ∧ Below w.heap.size w w') ∧
    (∀ w, Calls Tryz.prog 6 #[.string p, .int .i64 x] w fun e w' => e = .returned (.tuple #[.string out, .int .i64 er]) ∧ Below w.heap.size w w') := by
  rcases Pk.mend_cases p x with h | ⟨k, _, _, h⟩
  · obtain ⟨D, S, N, L, str, ss, _, _, _, _, _, _, _, _, hm, hr⟩ := mended_both hS p x hp h w0
    exact ⟨str, 0, fun w ht => Pk.wRead_ok p x D S N str ss _ hm w ht, fun w => rRead_ok p x D S N str ss _ hr w⟩
  · exact ⟨_, k, fun w _ => Pk.wRead_no p x k hp h w, fun w => rRead_no p x k hp h w⟩
theorem heal_both (hS : SumsOk) (p : ByteArray) (x : Int) (hp : p.size < 4611686018427387904) (w0 : World) : ∃ (out : ByteArray) (bad : List Nat) (er : Int), bad.length ≤ 16 ∧
    (∀ w, Table w → Calls Tryz.prog 7 #[.string p, .int .i64 x] w fun e w' => ∃ vb, e = .returned (.tuple #[.string out, vb, .int .i64 er]) ∧ w'.ownsRow w.heap.size 3 1 vb bad.length (intsV bad) ∧ Below w.heap.size w w') ∧
    (∀ w, Calls Tryz.prog 8 #[.string p, .int .i64 x] w fun e w' => ∃ vb, e = .returned (.tuple #[.string out, vb, .int .i64 er]) ∧ w'.ownsRow w.heap.size 3 1 vb bad.length (intsV bad) ∧ Below w.heap.size w w') := by
  rcases Pk.mend_cases p x with h | ⟨k, hk, _, h⟩
  · obtain ⟨D, S, N, L, str, ss, h1, h2, h3, h4, h5, h6, h7, h8, hm, hr⟩ := mended_both hS p x hp h w0
    have hL : L ≤ 400 := by have := ceil_le N D h1; omega
    have hz : ∀ q, (h : q < ss.length) → ss[q].size ≤ 1000 := fun q hq => by rw [h7 q hq]; omega
    exact ⟨packS D S N ss, openBad p, 0, by omega, fun w ht => Pk.wHeal_ok p x D S N str ss _ h2 h3 h6 hz hm w ht, fun w => rHeal_ok p x D S N str ss _ h2 h3 h4 h6 hz hr w⟩
  · exact ⟨_, [], k, by simp, fun w _ => (Pk.wHeal_no p x k hk hp h w).mono fun e w' hh => ⟨_, hh.1, World.ownsRow_nil _ _ _ _, hh.2⟩, fun w => (rHeal_no p x k hk hp h w).mono fun e w' hh => ⟨_, hh.1, World.ownsRow_nil _ _ _ _, hh.2⟩⟩
theorem edit_both (hS : SumsOk) (p : ByteArray) (x a : Int) (t : ByteArray) (hp : p.size < 4611686018427387904) (ha1 : -(2 : Int) ^ 63 ≤ a) (ha2 : a < (2 : Int) ^ 63) (htl : t.size ≤ maxLen) (w0 : World) : ∃ (out : ByteArray) (er : Int),
    (∀ w, Table w → Calls Tryz.prog 11 #[.string p, .int .i64 x, .int .i64 a, .string t] w fun e w' => e = .returned (.tuple #[.string out, .int .i64 er]) ∧ Below w.heap.size w w') ∧
    (∀ w, Calls Tryz.prog 12 #[.string p, .int .i64 x, .int .i64 a, .string t] w fun e w' => e = .returned (.tuple #[.string out, .int .i64 er]) ∧ Below w.heap.size w w') := by
  rcases Pk.mend_cases p x with h | ⟨k, hk, _, h⟩
  · obtain ⟨D, S, N, L, str, ss, h1, h2, h3, h4, h5, h6, h7, h8, hm, hr⟩ := mended_both hS p x hp h w0
    by_cases hw : 0 ≤ a ∧ a + t.size ≤ N
    · obtain ⟨a, rfl⟩ := Int.eq_ofNat_of_zero_le hw.1
      exact ⟨_, _, fun w ht => Pk.wEdit_ok p x a t D S N L str ss _ h1 h2 h3 h4 h5 h6 h7 (by omega) hm w ht, fun w => rEdit_ok p x a t D S N L str ss _ h1 h2 h3 h4 h5 h6 h7 (by omega) hr w⟩
    · have hno : okWithin N a t.size = false := decide_eq_false hw
      exact ⟨_, _, fun w ht => Pk.wEdit_range p x a t D S N str ss _ h4 (by omega) htl hno hm w ht, fun w => rEdit_range p x a t D S N L str ss _ h1 h2 h3 h4 h5 h6 h7 ha1 ha2 hw hr w⟩
  · exact ⟨_, k, fun w _ => Pk.wEdit_no p x a t k hk hp h w, fun w => rEdit_no p x a t k hk hp h w⟩
end Go.Proofs.YtokmllopbfmadaaGreatDoor.BookN

/- Heals. -/
namespace Go.Proofs.YtokmllopbfmadaaGreatDoor.BookN
open Go.RowKit Mem FieldWalks Tab ByTab Parts Ref Plans Top

theorem ownsRow_kept2 {w w' : World} {base : Nat} {e : TypeId} {size : Nat} {v : Value} {n : Nat} {xs : List Value} (h : w.ownsRow base e size v n xs) (hk : ∀ (g : Nat) (cur : Array Value), base ≤ g → w.heap[g]? = some (.cells cur e (0, 0)) → w'.heap[g]? = w.heap[g]?) : w'.ownsRow base e size v n xs := by
  obtain ⟨h1, h2⟩ := h
  refine ⟨h1, ?_⟩
  rcases h2 with h2 | ⟨g, cap, cur, hv, hg, hh, r⟩
  · exact Or.inl h2
  · exact Or.inr ⟨g, cap, cur, hv, hg, (hk g cur hg hh).trans hh, r⟩
theorem own_lt {w : World} {base : Nat} {e : TypeId} {size : Nat} {v : Value} {n : Nat} {xs : List Value} (h : w.ownsRow base e size v n xs) (g : Nat) (hg : w.heap.size ≤ g) : v.ownBlock ≠ some g := by
  intro he
  rcases h.2 with ⟨rfl, _⟩ | ⟨g', cap, cur, rfl, _, hh, _⟩
  · simp [Value.ownBlock] at he
  · simp [Value.ownBlock] at he
    subst he
    have := lt_of_block hh
    omega
set_option maxRecDepth 100000 in
set_option maxHeartbeats 2000000 in
theorem heals_any (hS : SumsOk) (p : ByteArray) (x a : Int) (t : ByteArray) (hp : p.size < 4611686018427387904) (ha1 : -(2 : Int) ^ 63 ≤ a) (ha2 : a < (2 : Int) ^ 63) (htl : t.size ≤ maxLen) (w : World) (ht : Table w) (h0 : 0 < w.heap.size) :
    Calls Tryz.prog 3 #[.string p, .int .i64 x, .int .i64 a, .string t] w fun e w' => e = .returned (.bool true) ∧ Below w.heap.size w w' := by
  obtain ⟨so, se, r1, r2⟩ := read_both hS p x hp w
  obtain ⟨xo, bad, ge, hbl, h1, h2⟩ := heal_both hS p x hp w
  obtain ⟨uo, je, e1, e2⟩ := edit_both hS p x a t hp ha1 ha2 htl w
  have R1 : Hid _ := r1
  have R2 : Hid _ := r2
  have H1 : Hid _ := h1
  have H2 : Hid _ := h2
  have E1 : Hid _ := e1
  have E2 : Hid _ := e2
  have HT : Hid (Table w) := ht
  have q1 : (so.toList == so.toList) = true := by simp
  have q2 : (xo.toList == xo.toList) = true := by simp
  have q3 : (uo.toList == uo.toList) = true := by simp
  clear r1 r2 h1 h2 e1 e2 ht ha1 ha2 htl hp
  obtain ⟨wb, hwb⟩ : ∃ wb, wb = w.alloc (.cells #[.int .i64 0, .slice none 0 0] 25) := ⟨_, rfl⟩
  have hb0 : BookAt wb w.heap.size w.heap.size 0 wb.heap.size wb.heap.size := by rw [hwb]; exact BookAt.start w _ (Nat.le_refl _) _ _
  have hw0 : Below w.heap.size w wb := by rw [hwb]; exact (Below.refl _ _).alloc (Nat.le_refl _) _
  have HWB : Hid (w.alloc (.cells #[.int .i64 0, .slice none 0 0] 25) = wb) := hwb.symm
  have HPK : Hid _ := pack_any hS w.heap.size w.heap.size 0 wb (table_to HT.out hw0) hb0 (by omega)
  have HW0 : Hid (Below w.heap.size w wb) := hw0
  clear hwb hb0 hw0
  go_enter Tryz.func3, Tryz.ntmps3
  go_wp2_with fail
  rw [HWB.out]
  refine Calls.mono HPK.out ?_
  rintro e w1 ⟨rfl, hbk1, hb1⟩
  have HB1 : Hid (Below w.heap.size w w1) := HW0.out.trans hb1
  have HBK1 : Hid (BookAt w1 w.heap.size w.heap.size 2 w1.heap.size w1.heap.size) := hbk1
  clear hbk1 hb1 HPK HWB HW0
  go_wp2_with fail
  refine Calls.mono (R1.out _ (table_below HT.out HB1.out h0)) ?_
  rintro e w2 ⟨rfl, hb2⟩
  go_wp2_with fail
  refine Calls.mono (R2.out _) ?_
  rintro e w3 ⟨rfl, hb3⟩
  have b13 : Hid (Below w1.heap.size w1 w3) := hb2.trans (hb3.mono hb2.size)
  have HB3 : Hid (Below w.heap.size w w3) := HB1.out.trans (b13.out.mono HB1.out.size)
  clear hb2 hb3
  go_wp2_with fail
  refine Calls.mono (H1.out _ (table_below HT.out HB3.out h0)) ?_
  rintro e w4 ⟨bv, rfl, hbv, hb4⟩
  obtain ⟨bo, bc, rfl⟩ := owns_slice hbv
  have HV4 : Hid (w4.ownsRow w1.heap.size 3 1 (.slice bo bad.length bc) bad.length (intsV bad)) := owns_less hbv b13.out.size
  have b14 : Hid (Below w1.heap.size w1 w4) := b13.out.trans (hb4.mono b13.out.size)
  clear hbv hb4 b13 HB3
  go_wp2_with fail
  refine Calls.mono (H2.out _) ?_
  rintro e w5 ⟨wv, rfl, hwv, hb5⟩
  obtain ⟨wo, wc, rfl⟩ := owns_slice hwv
  have HV5 : Hid (w5.ownsRow w1.heap.size 3 1 (.slice bo bad.length bc) bad.length (intsV bad)) := ownsRow_to HV4.out hb5
  have HW5 : Hid (w5.ownsRow w4.heap.size 3 1 (.slice wo bad.length wc) bad.length (intsV bad)) := hwv
  have b15 : Hid (Below w1.heap.size w1 w5) := b14.out.trans (hb5.mono b14.out.size)
  have HNE : Hid (∀ g, w4.heap.size ≤ g → (Value.slice bo bad.length bc).ownBlock ≠ some g) := own_lt HV4.out
  have hle4 : w1.heap.size ≤ w4.heap.size := b14.out.size
  clear hwv hb5 HV4 b14
  go_wp2_with fail
  refine Calls.mono (sameI_yes bad _ _ _ (IntsAt.of_owns HV5.out) (IntsAt.of_owns HW5.out) (by omega)) ?_
  rintro e w6 ⟨rfl, n6, hw6⟩
  have b56 : Below w5.heap.size w5 w6 := by rw [hw6]; exact below_drewN (Below.refl _ _) n6
  have b16 : Below w1.heap.size w1 w6 := b15.out.trans (b56.mono b15.out.size)
  have HV6 : Hid (w6.ownsRow w1.heap.size 3 1 (.slice bo bad.length bc) bad.length (intsV bad)) := ownsRow_to HV5.out b56
  have HW6 : Hid (w6.ownsRow w4.heap.size 3 1 (.slice wo bad.length wc) bad.length (intsV bad)) := ownsRow_to HW5.out b56
  have HB6 : Hid (Below w.heap.size w w6) := HB1.out.trans (b16.mono HB1.out.size)
  have HNU : Hid _ := numbers_any w.heap.size w.heap.size 2 w1.heap.size w1.heap.size bad.length (.slice bo bad.length bc) (intsV bad) w6 (HBK1.out.to b16) (by omega) (by omega) HB1.out.size HB1.out.size HV6.out
  have hle16 : w1.heap.size ≤ w6.heap.size := b16.size
  clear hw6 b56 b16 b15 HV5 HW5 HBK1
  go_wp2_with fail
  refine Calls.mono HNU.out ?_
  rintro e w7 ⟨rfl, hbk7, hb7, hr7, _⟩
  have HW7 : Hid (w7.ownsRow w4.heap.size 3 1 (.slice wo bad.length wc) bad.length (intsV bad)) := ownsRow_kept2 HW6.out fun g cur hg hh => hr7 g cur.toList (by unfold Blk; rw [hh]) (HNE.out g hg)
  have HBK7 : Hid (BookAt w7 w.heap.size w.heap.size 3 w7.heap.size w7.heap.size) := hbk7.mono (Nat.le_trans hle16 hb7.size) (Nat.le_refl _)
  have HB7 : Hid (Below w.heap.size w w7) := HB6.out.trans hb7
  clear hbk7 hb7 hr7 HNU HW6 HV6 HNE HB6 hle16
  go_wp2_with fail
  refine Calls.mono (E1.out _ (table_below HT.out HB7.out h0)) ?_
  rintro e w8 ⟨rfl, hb8⟩
  go_wp2_with fail
  refine Calls.mono (E2.out _) ?_
  rintro e w9 ⟨rfl, hb9⟩
  have b79 : Hid (Below w7.heap.size w7 w9) := hb8.trans (hb9.mono hb8.size)
  have HB9 : Hid (Below w.heap.size w w9) := HB7.out.trans (b79.out.mono HB7.out.size)
  clear hb8 hb9
  go_wp2_with fail
  refine Calls.mono (H1.out _ (table_below HT.out HB9.out h0)) ?_
  rintro e wa ⟨av, rfl, hav, hba⟩
  obtain ⟨ao, ac, rfl⟩ := owns_slice hav
  have HAa : Hid (wa.ownsRow w7.heap.size 3 1 (.slice ao bad.length ac) bad.length (intsV bad)) := owns_less hav b79.out.size
  have b7a : Hid (Below w7.heap.size w7 wa) := b79.out.trans (hba.mono b79.out.size)
  have HWa : Hid (wa.ownsRow w4.heap.size 3 1 (.slice wo bad.length wc) bad.length (intsV bad)) := ownsRow_to HW7.out b7a.out
  clear hav hba b79 HB9 HW7
  go_wp2_with fail
  refine Calls.mono (sameI_yes bad _ _ _ (IntsAt.of_owns HAa.out) (IntsAt.of_owns HWa.out) (by omega)) ?_
  rintro e wc' ⟨rfl, nc, hwc⟩
  have bac : Below wa.heap.size wa wc' := by rw [hwc]; exact below_drewN (Below.refl _ _) nc
  have b7c : Below w7.heap.size w7 wc' := b7a.out.trans (bac.mono b7a.out.size)
  have HBc : Hid (Below w.heap.size w wc') := HB7.out.trans (b7c.mono HB7.out.size)
  have HNU : Hid _ := numbers_any w.heap.size w.heap.size 3 w7.heap.size w7.heap.size bad.length (.slice ao bad.length ac) (intsV bad) wc' (HBK7.out.to b7c) (by omega) (by omega) HB7.out.size HB7.out.size (ownsRow_to HAa.out bac)
  clear hwc bac b7c b7a HAa HWa HBK7
  go_wp2_with fail
  refine Calls.mono HNU.out ?_
  rintro e wd ⟨rfl, hbkd, hbd, _, _⟩
  have HBd : Hid (Below w.heap.size w wd) := HBc.out.trans hbd
  have HLK : Hid _ := looks_any _ _ _ _ _ wd hbkd (by omega)
  clear hbkd hbd HNU HBc
  go_wp2_with fail
  refine Calls.mono HLK.out ?_
  rintro e we ⟨rfl, hbe⟩
  have HBe : Hid (Below w.heap.size w we) := HBd.out.trans (hbe.mono HBd.out.size)
  clear hbe HLK HBd
  go_wp2_with fail
  refine (num_any _ _).mono ?_
  rintro e w' ⟨rfl, hw⟩
  obtain rfl : we = w' := hw.symm
  go_wp2_with fail
  refine (num_any _ _).mono ?_
  rintro e w' ⟨rfl, hw⟩
  obtain rfl : we = w' := hw.symm
  go_wp2_with fail
  refine (num_any _ _).mono ?_
  rintro e w' ⟨rfl, hw⟩
  obtain rfl : we = w' := hw.symm
  go_wp2
  go_ret
  exact ⟨rfl, HBe.out⟩
end Go.Proofs.YtokmllopbfmadaaGreatDoor.BookN
