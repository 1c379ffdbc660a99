import Derived.Test.YtokmllopbfmadaaDoorGKChanged2
import Derived.Test.YtokmllopbfmadaaDoorGNum
import Derived.Test.YtokmllopbfmadaaDoorGKRest2
namespace Go.Proofs.YtokmllopbfmadaaDoor.BookS
open Go.RowKit Mem FieldWalks Tab ByTab Parts Plans Top
open Book (below_alloc)

theorem run_copy (w : World) (base n : Nat) (v : Value) (ss : List Stp) (hl : ss.length = n) (hn : n ≤ 1000000) (h : w.ownsRow base 73 3 v n (stepCells ss)) (ty : TypeId) :
    ∃ ao' c' w', (Builtin.append_ #[64, 64] ty #[.slice none 0 0, v]).run Tryd.prog w = .ok (.slice ao' n c') w' ∧ w'.ownsRow w.heap.size 73 3 (.slice ao' n c') n (stepCells ss) ∧ Below w.heap.size w w' := by
  obtain ⟨i0, hi, hz0, hz1, hz2⟩ := info_parts infoStep
  rcases h.2 with ⟨rfl, rfl⟩ | ⟨g, cap, cur, rfl, hb, hg, h4, h5, h6, h7⟩
  · have : ss = [] := List.eq_nil_of_length_eq_zero hl
    subst this
    refine ⟨none, 0, w, ?_, World.ownsRow_nil _ _ _ _, Below.refl _ _⟩
    simp [Builtin.append_, run_underlying Tryd.underlying64, sizeOf, typeInfo, hi, Builtin.lenOf, Builtin.firstCells]
  · have hcells : ∀ (j : Nat) (u : Value), (stepCells ss)[j]? = some u → w.cell? ((⟨g, 0, none⟩ : Addr).add j) = some u := fun j u hu => by
      rw [addr_add', cell_of_row w g j cur _ _ hg]
      have hj : j < n * 3 := by have := (List.getElem?_eq_some_iff.1 hu).1; rw [h.1] at this; exact this
      rw [← h7, List.getElem?_take_of_lt hj] at hu
      simpa using hu
    have hone : ∀ u ∈ stepCells ss, u.oneCell' = true := by
      intro u hu
      simp only [stepCells, List.mem_flatMap] at hu
      obtain ⟨s, _, hu⟩ := hu
      simp only [Stp.cells, List.mem_cons, List.not_mem_nil, or_false] at hu
      rcases hu with rfl | rfl | rfl <;> rfl
    obtain ⟨v', w', hr, ho, hgr, _⟩ := run_append_own (P := Tryd.prog) w w.heap.size 64 ty 73 i0 _ 3 24 Tryd.underlying64 hi hz0 hz1 hz2 rfl (by decide) (.slice none 0 0) 0 [] (World.ownsRow_nil _ _ _ _) ⟨g, 0, none⟩ n cap (stepCells ss) h.1 hcells hone (by unfold maxLen; omega) (by omega) (Nat.le_refl _)
    rw [Nat.zero_add, List.nil_append] at ho
    obtain ⟨ao', c', rfl⟩ := owns_form ho
    exact ⟨ao', c', w', hr, ho, ⟨hgr.os, hgr.tape, hgr.output, hgr.size, fun k hk => hgr.block k hk (by simp [Value.ownBlock])⟩⟩
theorem wpList_copy (w : World) {ops : Array Oper} {rest : List Oper} {o : Oper} {a : Act} {Q : Exit → Act → World → Prop}
    (hgd : o.guard = none) (s x : Operand) (hop : o.op = Op.call { callee := Callee.builtin Builtin.append, args := #[s, x], argTypes := #[64, 64] })
    (base n : Nat) (v : Value) (ss : List Stp) (hl : ss.length = n) (hn : n ≤ 1000000) (hs : a.eval s = .slice none 0 0) (hx : a.eval x = v) (h : w.ownsRow base 73 3 v n (stepCells ss))
    (hK : ∀ ao' c' w', w'.ownsRow w.heap.size 73 3 (.slice ao' n c') n (stepCells ss) → Below w.heap.size w w' → wpList Tryd.prog ops Q rest (a.put o.dst (.slice ao' n c')) w') :
    wpList Tryd.prog ops Q (o :: rest) a w := by
  refine wpList_plain hgd fun K hK' => ?_
  obtain ⟨ao', c', w', hrun, h1, h2⟩ := run_copy w base n v ss hl hn h o.type
  have := hK ao' c' w' h1 h2
  unfold Oper.wp
  simp [execOp, hop, resolve, invoke, builtin, hs, hx, hrun, Result.andThen]
  exact hK' _ _ this
theorem own_stays {w w' : World} {base n : Nat} {v v2 : Value} {xs : List Value} (h : w.ownsRow base 73 3 v n xs) (hr : ∀ g us, Blk w g 73 us → v2.ownBlock ≠ some g → w'.heap[g]? = w.heap[g]?) (hne : ∀ g, v.ownBlock = some g → v2.ownBlock ≠ some g) : w'.ownsRow base 73 3 v n xs :=
  own_keep3 h (fun g us hv hg => hr g us hg (hne g hv))
theorem own_lt {w : World} {base n : Nat} {v : Value} {xs : List Value} (h : w.ownsRow base 73 3 v n xs) : ∀ g, v.ownBlock = some g → base ≤ g ∧ g < w.heap.size := by
  intro g hv
  rcases h.2 with ⟨rfl, _⟩ | ⟨g', cap, cur, rfl, hb, hg, _⟩
  · cases hv
  · obtain rfl := Option.some.inj hv; exact ⟨hb, lt_of_block hg⟩

set_option maxRecDepth 100000 in
set_option maxHeartbeats 4000000 in
theorem plans_yes (d s : Nat) (w : World) (ht : Table w) (h0 : 0 < w.heap.size) (hd : 1 ≤ d) (hd2 : d ≤ 10) (hs : s ≤ 6) :
    Calls Tryd.prog 10 #[.int .i64 d, .int .i64 s] w fun e w' => e = .returned (.bool true) ∧ Below w.heap.size w w' := by
  obtain ⟨b, hb⟩ : ∃ b, b = w.heap.size := ⟨_, rfl⟩
  have hb0 : BookAt (w.alloc (.cells #[.int .i64 0, .slice none 0 0] 37)) w.heap.size w.heap.size 0 (w.alloc (.cells #[.int .i64 0, .slice none 0 0] 37)).heap.size := BookAt.start w _ (Nat.le_refl _) _
  have hw0 : Below w.heap.size w (w.alloc (.cells #[.int .i64 0, .slice none 0 0] 37)) := below_alloc w _
  have ht1 := table_to ht hw0
  have hp1 := plan_any 1 1 (w.alloc (.cells #[.int .i64 0, .slice none 0 0] 37)) ht1 (by omega) (by omega) (by omega)
  have HT : Hid (Table w) := ht
  have HB0 : Hid (BookAt (w.alloc (.cells #[.int .i64 0, .slice none 0 0] 37)) w.heap.size w.heap.size 0 (w.alloc (.cells #[.int .i64 0, .slice none 0 0] 37)).heap.size) := hb0
  have HW0 : Hid (Below w.heap.size w (w.alloc (.cells #[.int .i64 0, .slice none 0 0] 37))) := hw0
  have hrc := rCounts_any (d : Int) (s : Int)
  have hok : okCounts (d : Int) (s : Int) = true := by unfold okCounts; simp; omega
  rw [hok] at hrc
  have HRC : Hid (∀ W, Calls Tryd.prog 39 #[.int .i64 d, .int .i64 s] W fun e w' => e = .returned (.bool true) ∧ w' = W) := hrc
  obtain ⟨w1, hw1⟩ : ∃ w1, w1 = w.alloc (.cells #[.int .i64 0, .slice none 0 0] 37) := ⟨_, rfl⟩
  have hsz1 : w1.heap.size = w.heap.size + 1 := by rw [hw1]; simp
  clear hb0 ht1 hw0 ht hrc hok hb
  go_enter Tryd.func10, Tryd.ntmps10
  go_wp2_with fail
  refine Calls.mono hp1 ?_
  rintro e w2 ⟨v1, rfl, ho1, he1, hb2⟩
  clear hp1
  rw [← hw1] at ho1 hb2 HB0 HW0
  clear hw1
  rw [KeepW.plan11 he1] at ho1
  have hkn := known_yes v1 w2 (StepsAt.of_owns ho1)
  have HO1 : Hid (w2.ownsRow w1.heap.size 73 3 v1 8 (stepCells KeepW.one8)) := ho1
  have HBK2 : Hid (BookAt w2 w.heap.size w.heap.size 0 w1.heap.size) := HB0.out.to hb2
  have HB2 : Hid (Below w.heap.size w w2) := HW0.out.trans (hb2.mono HW0.out.size)
  obtain ⟨va, vc, rfl⟩ := owns_form ho1
  clear ho1 he1 hb2
  go_wp2_with fail
  refine Calls.mono hkn ?_
  rintro e w3 ⟨rfl, hb3⟩
  clear hkn
  have hst1 := steps_any w.heap.size w.heap.size 0 w1.heap.size 8 _ _ w3 (HBK2.out.to hb3) (by omega) (by omega) (by omega) (ownsRow_to HO1.out hb3)
  have HB3 : Hid (Below w.heap.size w w3) := HB2.out.trans (hb3.mono HB2.out.size)
  clear hb3
  go_wp2_with (first | (go_at_call 16; refine (num_any _ _).mono ?_; rintro e w' ⟨rfl, hw⟩; obtain rfl : w3 = w' := hw.symm) | fail)
  refine Calls.mono hst1 ?_
  rintro e w4 ⟨rfl, hbk4, hb4, _⟩
  clear hst1
  have HBK4 : Hid (BookAt w4 w.heap.size w.heap.size 1 w4.heap.size) := hbk4
  have HB4 : Hid (Below w.heap.size w w4) := HB3.out.trans hb4
  have hp5 := plan_any d s w4 (table_below HT.out HB4.out h0) hd hd2 hs
  have hp5b : Hid (∀ W, Below w.heap.size w W → Calls Tryd.prog 36 #[.int .i64 d, .int .i64 s] W fun e w' => ∃ v, e = .returned (.tuple #[v, .int .i64 0]) ∧ w'.ownsRow W.heap.size 73 3 v (planTo (facs d s) d d).length (stepCells (planTo (facs d s) d d)) ∧ Plans.Ends (facs d s) d ∧ Below W.heap.size W w') := fun W hW => plan_any d s W (table_below HT.out hW h0) hd hd2 hs
  clear hbk4 hb4 HBK2 HO1 HB0 HW0
  go_wp2_with fail
  refine Calls.mono hp5 ?_
  rintro e w5 ⟨v5, rfl, ho5, he5, hb5⟩
  clear hp5
  have hpl := KeepW.plan_len d s hd hd2 hs he5
  obtain ⟨ss, hss⟩ : ∃ ss, ss = planTo (facs d s) d d := ⟨_, rfl⟩
  rw [← hss] at ho5 hpl hp5b
  obtain ⟨n, hn⟩ : ∃ n, n = ss.length := ⟨_, rfl⟩
  rw [← hn] at ho5 hpl hp5b
  have hnl := hpl.1
  have HNZ : Hid (n = 0 ↔ s = 0) := hpl.2
  have HNL : Hid (n = ss.length) := hn
  have HO5 : Hid (w5.ownsRow w4.heap.size 73 3 v5 n (stepCells ss)) := ho5
  have HBK5 : Hid (BookAt w5 w.heap.size w.heap.size 1 w4.heap.size) := HBK4.out.to hb5
  have HB5 : Hid (Below w.heap.size w w5) := HB4.out.trans (hb5.mono HB4.out.size)
  have hlb4 : w.heap.size ≤ w4.heap.size := HB4.out.size
  obtain ⟨xa, xc, rfl⟩ := owns_form ho5
  clear ho5 he5 hb5 hpl hss hn
  go_wp2_with (first | (go_at_call 39; refine Calls.mono (HRC.out _) ?_; rintro e w' ⟨rfl, hw⟩; obtain rfl : w5 = w' := hw.symm) | (at_builtin; refine wpList_copy _ rfl (.tmp 45) (.tmp 46) rfl w4.heap.size n (.slice xa n xc) ss HNL.out.symm (by omega) rfl rfl HO5.out ?_; intro ya yc w6 ho6 hb6; have HO6 : Hid (w6.ownsRow w5.heap.size 73 3 (.slice ya n yc) n (stepCells ss)) := ho6; have HO56 : Hid (w6.ownsRow w4.heap.size 73 3 (.slice xa n xc) n (stepCells ss)) := ownsRow_to HO5.out hb6; have HBK6 : Hid (BookAt w6 w.heap.size w.heap.size 1 w4.heap.size) := HBK5.out.to hb6; have HB6 : Hid (Below w.heap.size w w6) := HB5.out.trans (hb6.mono HB5.out.size); clear ho6 hb6) | fail)
  have hst2 := steps_any w.heap.size w.heap.size 1 w4.heap.size n _ _ w6 HBK6.out (by omega) (by omega) hlb4 HO56.out
  refine Calls.mono hst2 ?_
  rintro e w7 ⟨rfl, hbk7, hb7, hr7⟩
  clear hst2
  have HO7 : Hid (w7.ownsRow w5.heap.size 73 3 (.slice ya n yc) n (stepCells ss)) := own_stays HO6.out hr7 (fun g hg e => by
    have h1 := own_lt HO6.out g hg
    have h2 := own_lt HO5.out g e
    omega)
  have HBK7 : Hid (BookAt w7 w.heap.size w.heap.size 2 w7.heap.size) := hbk7
  have HB7 : Hid (Below w.heap.size w w7) := HB6.out.trans hb7
  have hp8 := hp5b.out w7 HB7.out
  clear hbk7 hb7 hr7 HBK6 HO56 HO6 HO5 HBK5 HBK4
  go_wp2_with fail
  refine Calls.mono hp8 ?_
  rintro e w8 ⟨v8, rfl, ho8, _, hb8⟩
  clear hp8
  have hsm := sameS_yes ss v8 (.slice ya n yc) w8 (by have := StepsAt.of_owns (ss := ss) (w := w8) (v := v8) (base := w7.heap.size) (by rw [← HNL.out]; exact ho8); exact this) (by have := StepsAt.of_owns (ss := ss) (w := w8) (v := .slice ya n yc) (base := w5.heap.size) (by rw [← HNL.out]; exact ownsRow_to HO7.out hb8); exact this) (by have := HNL.out; omega)
  have HO8 : Hid (w8.ownsRow w7.heap.size 73 3 v8 n (stepCells ss)) := ho8
  have HBK8 : Hid (BookAt w8 w.heap.size w.heap.size 2 w7.heap.size) := HBK7.out.to hb8
  have HB8 : Hid (Below w.heap.size w w8) := HB7.out.trans (hb8.mono HB7.out.size)
  obtain ⟨za, zc, rfl⟩ := owns_form ho8
  clear ho8 hb8
  go_wp2_with fail
  refine Calls.mono hsm ?_
  rintro e w9 ⟨rfl, nq, hw9⟩
  clear hsm
  have hb89 : Below w8.heap.size w8 w9 := by rw [hw9]; exact ⟨rfl, rfl, rfl, Nat.le_refl _, fun _ _ => rfl⟩
  have hst3 := steps_any w.heap.size w.heap.size 2 w7.heap.size n _ _ w9 (HBK8.out.to hb89) (by omega) (by omega) (by have := HB7.out.size; exact this) (ownsRow_to HO8.out hb89)
  have HB9 : Hid (Below w.heap.size w w9) := HB8.out.trans (hb89.mono HB8.out.size)
  clear hw9 hb89
  go_wp2_with fail
  refine Calls.mono hst3 ?_
  rintro e w10 ⟨rfl, hbk10, hb10, _⟩
  clear hst3
  have hlk := looks_any w.heap.size w.heap.size 3 w10.heap.size w10 hbk10 (by omega)
  have HB10 : Hid (Below w.heap.size w w10) := HB9.out.trans hb10
  clear hbk10 hb10
  go_wp2_with fail
  refine Calls.mono hlk ?_
  rintro e w11 ⟨rfl, hb11⟩
  clear hlk
  have HB11 : Hid (Below w.heap.size w w11) := HB10.out.trans (hb11.mono HB10.out.size)
  have hz : ((n : Int) == 0) = ((s : Int) == 0) := by
    have h := HNZ.out
    by_cases h1 : s = 0
    · have h2 := h.2 h1; subst h1 h2; rfl
    · have h2 : ¬ n = 0 := fun e => h1 (h.1 e)
      rw [show ((n : Int) == 0) = false by simp; exact h2, show ((s : Int) == 0) = false by simp; exact h1]
  obtain ⟨r, hr⟩ : ∃ r, ((s : Int) == 0) = r := ⟨_, rfl⟩
  rw [hr] at hz
  have hrr : (r == r) = true := by cases r <;> rfl
  clear hb11
  go_wp2_with (first | (go_at_call 16; refine (num_any _ _).mono ?_; rintro e w' ⟨rfl, hw⟩; obtain rfl : w11 = w' := hw.symm) | fail)
  go_ret
  exact ⟨rfl, HB11.out⟩
set_option maxRecDepth 100000 in
set_option maxHeartbeats 4000000 in
theorem plans_no (d s : Int) (w : World) (ht : Table w) (hno : okCounts d s = false) :
    Calls Tryd.prog 10 #[.int .i64 d, .int .i64 s] w fun e w' => e = .returned (.bool true) ∧ Below w.heap.size w w' := by
  obtain ⟨b, hb⟩ : ∃ b, b = w.heap.size := ⟨_, rfl⟩
  have hb0 : BookAt (w.alloc (.cells #[.int .i64 0, .slice none 0 0] 37)) w.heap.size w.heap.size 0 (w.alloc (.cells #[.int .i64 0, .slice none 0 0] 37)).heap.size := BookAt.start w _ (Nat.le_refl _) _
  have hw0 : Below w.heap.size w (w.alloc (.cells #[.int .i64 0, .slice none 0 0] 37)) := below_alloc w _
  have ht1 := table_to ht hw0
  have hp1 := plan_any 1 1 (w.alloc (.cells #[.int .i64 0, .slice none 0 0] 37)) ht1 (by omega) (by omega) (by omega)
  have HT : Hid (Table w) := ht
  have HB0 : Hid (BookAt (w.alloc (.cells #[.int .i64 0, .slice none 0 0] 37)) w.heap.size w.heap.size 0 (w.alloc (.cells #[.int .i64 0, .slice none 0 0] 37)).heap.size) := hb0
  have HW0 : Hid (Below w.heap.size w (w.alloc (.cells #[.int .i64 0, .slice none 0 0] 37))) := hw0
  have hrc := rCounts_any d s
  rw [hno] at hrc
  have HPN : Hid (∀ W, Calls Tryd.prog 36 #[.int .i64 d, .int .i64 s] W fun e w' => e = .returned (.tuple #[.slice none 0 0, .int .i64 3]) ∧ w' = W) := fun W => plan_no d s W hno
  have HRC : Hid (∀ W, Calls Tryd.prog 39 #[.int .i64 d, .int .i64 s] W fun e w' => e = .returned (.bool false) ∧ w' = W) := hrc
  obtain ⟨w1, hw1⟩ : ∃ w1, w1 = w.alloc (.cells #[.int .i64 0, .slice none 0 0] 37) := ⟨_, rfl⟩
  have hsz1 : w1.heap.size = w.heap.size + 1 := by rw [hw1]; simp
  clear hb0 ht1 hw0 ht hrc hno hb
  go_enter Tryd.func10, Tryd.ntmps10
  go_wp2_with fail
  refine Calls.mono hp1 ?_
  rintro e w2 ⟨v1, rfl, ho1, he1, hb2⟩
  clear hp1
  rw [← hw1] at ho1 hb2 HB0 HW0
  clear hw1
  rw [KeepW.plan11 he1] at ho1
  have hkn := known_yes v1 w2 (StepsAt.of_owns ho1)
  have HO1 : Hid (w2.ownsRow w1.heap.size 73 3 v1 8 (stepCells KeepW.one8)) := ho1
  have HBK2 : Hid (BookAt w2 w.heap.size w.heap.size 0 w1.heap.size) := HB0.out.to hb2
  have HB2 : Hid (Below w.heap.size w w2) := HW0.out.trans (hb2.mono HW0.out.size)
  obtain ⟨va, vc, rfl⟩ := owns_form ho1
  clear ho1 he1 hb2
  go_wp2_with fail
  refine Calls.mono hkn ?_
  rintro e w3 ⟨rfl, hb3⟩
  clear hkn
  have hst1 := steps_any w.heap.size w.heap.size 0 w1.heap.size 8 _ _ w3 (HBK2.out.to hb3) (by omega) (by omega) (by omega) (ownsRow_to HO1.out hb3)
  have HB3 : Hid (Below w.heap.size w w3) := HB2.out.trans (hb3.mono HB2.out.size)
  clear hb3
  go_wp2_with (first | (go_at_call 16; refine (num_any _ _).mono ?_; rintro e w' ⟨rfl, hw⟩; obtain rfl : w3 = w' := hw.symm) | fail)
  refine Calls.mono hst1 ?_
  rintro e w4 ⟨rfl, hbk4, hb4, _⟩
  clear hst1
  have HBK4 : Hid (BookAt w4 w.heap.size w.heap.size 1 w4.heap.size) := hbk4
  have HB4 : Hid (Below w.heap.size w w4) := HB3.out.trans hb4
  clear hbk4 hb4 HBK2 HO1 HB0 HW0
  have hlb4 : w.heap.size ≤ w4.heap.size := HB4.out.size
  have hnil : ∀ W : World, W.ownsRow W.heap.size 73 3 (.slice none 0 0) 0 [] := fun W => World.ownsRow_nil _ _ _ _
  have HNIL : Hid (∀ W : World, W.ownsRow W.heap.size 73 3 (.slice none 0 0) 0 []) := hnil
  clear hnil
  go_wp2_with (first | (go_at_call 36; refine Calls.mono (HPN.out _) ?_; rintro e w' ⟨rfl, hw⟩; obtain rfl : w4 = w' := hw.symm) | (go_at_call 39; refine Calls.mono (HRC.out _) ?_; rintro e w' ⟨rfl, hw⟩; obtain rfl : w4 = w' := hw.symm) | (at_builtin; refine wpList_copy _ rfl (.tmp 45) (.tmp 46) rfl w4.heap.size 0 (.slice none 0 0) [] rfl (by omega) rfl rfl (HNIL.out w4) ?_; intro ya yc w6 ho6 hb6; have HO6 : Hid (w6.ownsRow w4.heap.size 73 3 (.slice ya 0 yc) 0 []) := ho6; have HBK6 : Hid (BookAt w6 w.heap.size w.heap.size 1 w4.heap.size) := HBK4.out.to hb6; have HB6 : Hid (Below w.heap.size w w6) := HB4.out.trans (hb6.mono HB4.out.size); have hs46 := hb6.size; clear ho6 hb6) | fail)
  have hst2 := steps_any w.heap.size w.heap.size 1 w6.heap.size 0 _ _ w6 (HBK6.out.mono hs46) (by omega) (by omega) (by have := HB6.out.size; exact this) (HNIL.out w6)
  refine Calls.mono hst2 ?_
  rintro e w7 ⟨rfl, hbk7, hb7, hr7⟩
  clear hst2
  have HO7 : Hid (w7.ownsRow w4.heap.size 73 3 (.slice ya 0 yc) 0 []) := own_stays HO6.out hr7 (fun g _ e => by cases e)
  have HBK7 : Hid (BookAt w7 w.heap.size w.heap.size 2 w7.heap.size) := hbk7
  have HB7 : Hid (Below w.heap.size w w7) := HB6.out.trans hb7
  have hsm := sameS_yes [] (.slice none 0 0) (.slice ya 0 yc) w7 (StepsAt.of_owns (ss := []) (HNIL.out w7)) (StepsAt.of_owns (ss := []) HO7.out) (by simp)
  clear hbk7 hb7 hr7 HBK6 HO6 HBK4
  go_wp2_with (first | (go_at_call 36; refine Calls.mono (HPN.out _) ?_; rintro e w' ⟨rfl, hw⟩; obtain rfl : w7 = w' := hw.symm) | fail)
  refine Calls.mono hsm ?_
  rintro e w9 ⟨rfl, nq, hw9⟩
  clear hsm
  have hb89 : Below w7.heap.size w7 w9 := by rw [hw9]; exact ⟨rfl, rfl, rfl, Nat.le_refl _, fun _ _ => rfl⟩
  have hst3 := steps_any w.heap.size w.heap.size 2 w9.heap.size 0 _ _ w9 ((HBK7.out.to hb89).mono hb89.size) (by omega) (by omega) (by have := (HB7.out.trans (hb89.mono HB7.out.size)).size; exact this) (HNIL.out w9)
  have HB9 : Hid (Below w.heap.size w w9) := HB7.out.trans (hb89.mono HB7.out.size)
  clear hw9 hb89
  go_wp2_with fail
  refine Calls.mono hst3 ?_
  rintro e w10 ⟨rfl, hbk10, hb10, _⟩
  clear hst3
  have hlk := looks_any w.heap.size w.heap.size 3 w10.heap.size w10 hbk10 (by omega)
  have HB10 : Hid (Below w.heap.size w w10) := HB9.out.trans hb10
  clear hbk10 hb10
  go_wp2_with fail
  refine Calls.mono hlk ?_
  rintro e w11 ⟨rfl, hb11⟩
  clear hlk
  have HB11 : Hid (Below w.heap.size w w11) := HB10.out.trans (hb11.mono HB10.out.size)
  clear hb11
  go_wp2_with (first | (go_at_call 16; refine (num_any _ _).mono ?_; rintro e w' ⟨rfl, hw⟩; obtain rfl : w11 = w' := hw.symm) | fail)
  go_ret
  exact ⟨rfl, HB11.out⟩
theorem plans_any (d s : Int) (w : World) (ht : Table w) (h0 : 0 < w.heap.size) :
    Calls Tryd.prog 10 #[.int .i64 d, .int .i64 s] w fun e w' => e = .returned (.bool true) ∧ Below w.heap.size w w' := by
  cases hok : okCounts d s
  · exact plans_no d s w ht hok
  · have h1 : 1 ≤ d ∧ d ≤ 10 ∧ 0 ≤ s ∧ s ≤ 6 := by unfold okCounts at hok; simp at hok; omega
    obtain ⟨d', rfl⟩ : ∃ d' : Nat, d = d' := ⟨d.toNat, by omega⟩
    obtain ⟨s', rfl⟩ : ∃ s' : Nat, s = s' := ⟨s.toNat, by omega⟩
    exact plans_yes d' s' w ht h0 (by omega) (by omega) (by omega)
end Go.Proofs.YtokmllopbfmadaaDoor.BookS

namespace Go.Proofs.YtokmllopbfmadaaDoor.KeepW
open Go.RowKit Mem FieldWalks Tab ByTab Parts Ref Top
open Gf (chosen left_ Fits)
open Plans (infoInt intsV)

set_option maxRecDepth 100000 in
set_option maxHeartbeats 4000000 in
theorem kways_any (hS : SumsOk) (hY : GatherYes) (data spare : Int) (text : ByteArray) (lost : List Int) (lv : Value) (w : World) (ht : Table w) (hw0 : 0 < w.heap.size) (hl : IsC w lv lost) (hll : lost.length < 2 ^ 62) (hlb : ∀ x, x ∈ lost → -9223372036854775808 ≤ x ∧ x ≤ 9223372036854775807)
    (hd1 : -9223372036854775808 ≤ data) (hd2 : data ≤ 9223372036854775807) (hs1 : -9223372036854775808 ≤ spare) (hs2 : spare ≤ 9223372036854775807) :
    Calls Tryd.prog 12 #[.int .i64 data, .int .i64 spare, .string text, lv] w fun e w' => e = .returned (.bool true) ∧ Below w.heap.size w w' := by
  have HS0 : ∀ (x : Nat) (W : World), x ≤ 2 → Below w.heap.size w W → Calls Tryd.prog 31 #[.int .i64 data, .int .i64 spare, .int .i64 (x : Int), .string text] W fun e w' => ∃ b lb, e = .returned (.pointer (some ⟨b, 0, none⟩)) ∧ Spr w' W.heap.size b (1 + pickI data 10) (pickI spare 7) (shortS text) lb ∧ Below W.heap.size W w' :=
    fun x W hx hb => kspread_any hS data spare x text W (table_below ht hb hw0) (Nat.lt_of_lt_of_le hw0 hb.size) hd1 hd2 hs1 hs2 (by omega) (by omega)
  have HLV : Hid (IsC w lv lost) := hl
  obtain ⟨d, hd⟩ : ∃ d, d = 1 + pickI data 10 := ⟨_, rfl⟩
  obtain ⟨s, hs⟩ : ∃ s, s = pickI spare 7 := ⟨_, rfl⟩
  obtain ⟨T, hT⟩ : ∃ T, T = shortS text := ⟨_, rfl⟩
  have b1 := pickI_lt data 10 (by omega)
  have b2 := pickI_lt spare 7 (by omega)
  have hTs : T.size ≤ 400 := by rw [hT]; exact shortS_size _
  rw [← hd, ← hs, ← hT] at HS0
  have hd0 : 1 ≤ d := by omega
  have hd10 : d ≤ 10 := by omega
  have hs6 : s ≤ 6 := by omega
  have HSP : Hid (∀ (x : Nat) (W : World), x ≤ 2 → Below w.heap.size w W → Calls Tryd.prog 31 #[.int .i64 data, .int .i64 spare, .int .i64 (x : Int), .string text] W fun e w' => ∃ b lb, e = .returned (.pointer (some ⟨b, 0, none⟩)) ∧ Spr w' W.heap.size b d s T lb ∧ Below W.heap.size W w') := HS0
  have HLB : Hid (∀ x, x ∈ lost → -9223372036854775808 ≤ x ∧ x ≤ 9223372036854775807) := hlb
  obtain ⟨pcs, hpcs⟩ : ∃ pcs, pcs = pieces d s T := ⟨_, rfl⟩
  have hpl : pcs.length = d + s := by rw [hpcs]; exact pieces_length d s T
  have HPC : Hid (pcs = pieces d s T) := hpcs
  have HPL : Hid (pcs.length = d + s) := hpl
  have HT0 : Hid (Table w) := ht
  obtain ⟨lao, lex, rfl, _⟩ := hl
  clear hd hs hT b1 b2 HS0 hlb hpcs hpl ht
  go_enter Tryd.func12, Tryd.ntmps12
  go_wp2_with fail
  refine Calls.mono (HSP.out 0 _ (by omega) (Below.refl _ _)) ?_
  rintro e w1 ⟨b, lb, rfl, hspr1, hb1⟩
  have HS1 : Hid (Spr w1 w.heap.size b d s T lb) := hspr1
  have HB1 : Hid (Below w.heap.size w w1) := hb1
  clear hspr1 hb1
  go_wp2_with fail
  refine Calls.mono (HSP.out 1 _ (by omega) HB1.out) ?_
  rintro e w2 ⟨b2, lb2, rfl, hspr2, hb2⟩
  have HS2 : Hid (Spr w2 w1.heap.size b2 d s T lb2) := hspr2
  have HS12 : Hid (Spr w2 w.heap.size b d s T lb) := HS1.out.to hb2
  have HB2 : Hid (Below w.heap.size w w2) := HB1.out.trans (hb2.mono HB1.out.size)
  clear hspr2 hb2 HS1
  go_wp2_with fail
  refine Calls.mono (HSP.out 2 _ (by omega) HB2.out) ?_
  rintro e w3 ⟨b3, lb3, rfl, hspr3, hb3⟩
  have HS3 : Hid (Spr w3 w2.heap.size b3 d s T lb3) := hspr3
  have HS23 : Hid (Spr w3 w1.heap.size b2 d s T lb2) := HS2.out.to hb3
  have HS13 : Hid (Spr w3 w.heap.size b d s T lb) := HS12.out.to hb3
  have HB3 : Hid (Below w.heap.size w w3) := HB2.out.trans (hb3.mono HB2.out.size)
  have x3 := HS13.out.obj.cell_some (k := 3) rfl
  have y3 := HS23.out.obj.cell_some (k := 3) rfl
  have z3 := HS3.out.obj.cell_some (k := 3) rfl
  have SX : Hid (StrsAt w3 (.slice (some ⟨lb, 0, none⟩) (d + s) (d + s)) pcs) := by rw [HPC.out]; exact StrsAt.of_blk HS13.out.list _ _ (pieces_length d s T).symm
  have SY : Hid (StrsAt w3 (.slice (some ⟨lb2, 0, none⟩) (d + s) (d + s)) pcs) := by rw [HPC.out]; exact StrsAt.of_blk HS23.out.list _ _ (pieces_length d s T).symm
  have SZ : Hid (StrsAt w3 (.slice (some ⟨lb3, 0, none⟩) (d + s) (d + s)) pcs) := by rw [HPC.out]; exact StrsAt.of_blk HS3.out.list _ _ (pieces_length d s T).symm
  have HSA : Hid (∀ W, Drew w3 W → Calls Tryd.prog 33 #[.slice (some ⟨lb, 0, none⟩) (d + s) (d + s), .slice (some ⟨lb2, 0, none⟩) (d + s) (d + s)] W fun e w' => e = .returned (.bool true) ∧ Drew w3 w') := fun W hW => by
    refine (ksame_yes pcs _ _ W (SX.out.to hW.below) (SY.out.to hW.below) (by rw [HPL.out]; omega)).mono ?_
    rintro e w' ⟨he, n, rfl⟩
    exact ⟨he, hW.more n⟩
  have HSB : Hid (∀ W, Drew w3 W → Calls Tryd.prog 33 #[.slice (some ⟨lb2, 0, none⟩) (d + s) (d + s), .slice (some ⟨lb3, 0, none⟩) (d + s) (d + s)] W fun e w' => e = .returned (.bool true) ∧ Drew w3 w') := fun W hW => by
    refine (ksame_yes pcs _ _ W (SY.out.to hW.below) (SZ.out.to hW.below) (by rw [HPL.out]; omega)).mono ?_
    rintro e w' ⟨he, n, rfl⟩
    exact ⟨he, hW.more n⟩
  clear hspr3 hb3 HS2 HS12 HB1 HB2 SY SZ
  have HD0 : Hid (Drew w3 w3.drew) := ⟨1, rfl⟩
  go_wp2_with fail
  go_region_held3 (fun wx => wx.cell? ⟨b, 3, none⟩ = some (.slice (some ⟨lb, 0, none⟩) (d + s) (d + s)) ∧ wx.cell? ⟨b2, 3, none⟩ = some (.slice (some ⟨lb2, 0, none⟩) (d + s) (d + s))) (go_keep) (first | (go_at_call 33; refine Calls.mono (HSA.out _ (by exact HD0.out)) ?_; rintro e w4 ⟨rfl, hdr4⟩; have t0 := (hdr4.cell ⟨b, 3, none⟩).trans x3; have t1 := (hdr4.cell ⟨b2, 3, none⟩).trans y3))
  have HDR4 : Hid (Drew w3 w4) := hdr4
  have z4 := (hdr4.cell ⟨b3, 3, none⟩).trans z3
  have HDR4d : Hid (Drew w3 w4.drew) := hdr4.more 1
  clear hdr4 x3 y3 z3 HSA
  go_wp2_with fail
  go_region_held3 (fun wx => wx.cell? ⟨b2, 3, none⟩ = some (.slice (some ⟨lb2, 0, none⟩) (d + s) (d + s)) ∧ wx.cell? ⟨b3, 3, none⟩ = some (.slice (some ⟨lb3, 0, none⟩) (d + s) (d + s))) (go_keep) (first | (go_at_call 33; refine Calls.mono (HSB.out _ (by exact HDR4d.out)) ?_; rintro e w5 ⟨rfl, hdr5⟩; have v1 := (hdr5.cell ⟨b2, 3, none⟩).trans (HS23.out.obj.cell_some (k := 3) rfl); have v2 := (hdr5.cell ⟨b3, 3, none⟩).trans (HS3.out.obj.cell_some (k := 3) rfl)))
  have HS5 : Hid (Spr w5 w.heap.size b d s T lb) := HS13.out.to hdr5.below
  have HB5 : Hid (Below w.heap.size w w5) := HB3.out.trans (hdr5.below.mono HB3.out.size)
  have c0 := HS5.out.obj.cell_some (k := 0) rfl
  have c1 := HS5.out.obj.cell_some (k := 1) rfl
  have hbl := HS5.out.obj.lt
  obtain ⟨l, hl⟩ : ∃ l, l = goneTo lost (d + s) s lost.length := ⟨_, rfl⟩
  have HG : Hid (Calls Tryd.prog 32 #[.slice lao lost.length (lost.length + lex), .int .i64 ((d : Int) + (s : Int)), .int .i64 s] w5.drew fun e w' => ∃ v, e = .returned v ∧ w'.ownsRow w5.heap.size 3 1 v l.length (intsV l) ∧ Below w5.heap.size w5 w') := by
    have := kgone_any lost (d + s) s (.slice lao lost.length (lost.length + lex)) w5.drew (HLV.out.to HB5.out.drew) hll HLB.out (by omega) (by omega) (by omega)
    rw [← hl, show ((d + s : Nat) : Int) = (d : Int) + (s : Int) by omega] at this
    refine Calls.mono this ?_
    rintro e w' ⟨v, he, h1, h2⟩
    exact ⟨v, he, h1, (Below.refl _ _).drew.trans h2⟩
  have HLL : Hid (l.Nodup ∧ (∀ x, x ∈ l → x < d + s) ∧ l.length ≤ s) := by
    rw [hl]; exact ⟨goneTo_nodup _ _ _ _, goneTo_lt _ _ _ _ (by omega), goneTo_le _ _ _ _⟩
  have y5 : IntKind.i64.wrap ((d : Int) + (s : Int)) = (d : Int) + (s : Int) := by rw [IntKind.wrap_i64]; omega
  clear hdr5 t0 t1 z4 v1 v2 hl HSB HS13 HS23 HS3 HB3 HDR4 HDR4d HD0 SX
  go_wp2_with fail
  go_region_held3 (fun wx => wx.cell? ⟨b, 0, none⟩ = some (.int .i64 (d : Int)) ∧ wx.cell? ⟨b, 1, none⟩ = some (.int .i64 (s : Int))) (go_keep) (first | (go_at_call 32; refine Calls.mono HG.out ?_; rintro e w6 ⟨lv2, rfl, hlown, hb6⟩; have t0 := (hb6.cell (p := ⟨b, 0, none⟩) hbl).trans c0; have t1 := (hb6.cell (p := ⟨b, 1, none⟩) hbl).trans c1))
  have HS6 : Hid (Spr w6 w.heap.size b d s T lb) := HS5.out.to hb6
  have HB6 : Hid (Below w.heap.size w w6) := HB5.out.trans (hb6.mono HB5.out.size)
  obtain ⟨la, lc, rfl⟩ := Plans.owns_form hlown
  have HIL : Hid (IsC w6 (.slice la l.length lc) (l.map Int.ofNat)) := IsC.of_owns hlown
  have hbl6 : b < w6.heap.size := HS6.out.obj.lt
  clear hlown hb6 t0 t1 c0 c1 HG HS5 HB5 hbl
  obtain ⟨L, hL⟩ : ∃ L, L = (T.size + d - 1) / d := ⟨_, rfl⟩
  have hTL : T.size ≤ d * L := by rw [hL]; exact ceil_mul T.size d (by omega)
  have HGA : Hid (∀ (x : Nat) (W : World), x ≤ 2 → Below w6.heap.size w6 W → Calls Tryd.prog 27 #[.int .i64 d, .int .i64 s, .int .i64 (x : Int), .int .i64 (T.size : Nat), .slice (some ⟨lb, 0, none⟩) (d + s) (d + s), .slice la l.length lc] W fun e w' => ∃ v, e = .returned (.tuple #[.string T, v, .int .i64 0]) ∧ StrsAt w' v pcs ∧ Below W.heap.size W w') := by
    intro x W hx hW
    have hpz : ∀ p, (h : p < pcs.length) → pcs[p].size = L := fun p h => by
      have := pieces_sizes d s T p (by rw [← HPC.out]; exact h)
      simp only [HPC.out]; rw [this, hL]
    have hLs : L ≤ 400 := by have := ceil_le T.size d hd0; omega
    have hlen : (l.map Int.ofNat).length ≤ s := by simpa using HLL.out.2.2
    have hst : StrsAt W (.slice (some ⟨lb, 0, none⟩) (d + s) (d + s)) pcs := by rw [HPC.out]; exact (StrsAt.of_blk HS6.out.list _ _ (pieces_length d s T).symm).to hW
    refine Calls.mono (hY d s x T.size L pcs (l.map Int.ofNat) _ _ W (table_below HT0.out (HB6.out.trans (hW.mono HB6.out.size)) hw0) hst (HIL.out.to hW) hd0 hd10 hs6 hx hTs hL (fun p h => by rw [hpz p h]; omega) (shape_all HPL.out hpz HLL.out.1 HLL.out.2.1) hlen) ?_
    rintro e w' ⟨v, ps, rfl, hfit, hst', hb'⟩
    have hfit2 := pieces_fit d s T (l.map Int.ofNat) pcs (by omega) (fun p hp hno => by rw [HPC.out])
    rw [← hL] at hfit2
    have e1 : ps = cuts (nums T) d L := Gf.Fits.sole (by omega) (Gf.enough d s _ hlen) hfit hfit2
    refine ⟨v, ?_, ?_, hb'⟩
    · rw [e1, flatten_take (nums T) d L T.size (nums_length T) hTL, mkS_nums]
    · have : texts ps (sums (facs d s) ps L) = pcs := by rw [e1, HPC.out, hL]; rfl
      rw [this] at hst'; exact hst'
  clear hL hTL HIL
  go_wp2
  go_loopw [15] (fun iv wr => ∃ i : Nat, i ≤ 3 ∧ iv = .int .i64 i ∧ Below w6.heap.size w6 wr) (fun iv _ => 3 - (intOf iv).toNat)
  case atStart => exact ⟨0, by omega, rfl, Below.refl _ _⟩
  case round =>
    obtain ⟨i, hi, rfl, hbel⟩ := hrel
    by_cases hi3 : i < 3
    · have HGI : Hid (Calls Tryd.prog 27 #[.int .i64 d, .int .i64 s, .int .i64 (i : Int), .int .i64 (T.size : Nat), .slice (some ⟨lb, 0, none⟩) (d + s) (d + s), .slice la l.length lc] wr.drew fun e w' => ∃ v, e = .returned (.tuple #[.string T, v, .int .i64 0]) ∧ StrsAt w' v pcs ∧ Below wr.heap.size wr w') := by
        refine Calls.mono (HGA.out i wr.drew (by omega) hbel.drew) ?_
        rintro e w' ⟨v, he, h1, h2⟩
        exact ⟨v, he, h1, (Below.refl _ _).drew.trans h2⟩
      have hsp := HS6.out.to hbel
      have k0 := hsp.obj.cell_some (k := 0) rfl
      have k1 := hsp.obj.cell_some (k := 1) rfl
      have k2 := hsp.obj.cell_some (k := 2) rfl
      have k3 := hsp.obj.cell_some (k := 3) rfl
      have hblr := hsp.obj.lt
      have HSR : Hid (Spr wr w.heap.size b d s T lb) := hsp
      have HBR : Hid (Below w6.heap.size w6 wr) := hbel
      clear hsp hbel
      go_wp2_with fail
      go_region_held3 (fun wx => wx.cell? ⟨b, 0, none⟩ = some (.int .i64 (d : Int)) ∧ wx.cell? ⟨b, 1, none⟩ = some (.int .i64 (s : Int)) ∧ wx.cell? ⟨b, 2, none⟩ = some (.string T) ∧ wx.cell? ⟨b, 3, none⟩ = some (.slice (some ⟨lb, 0, none⟩) (d + s) (d + s))) (go_keep) (first | (go_at_call 27; refine Calls.mono HGI.out ?_; rintro e w7 ⟨v7, rfl, hst7, hb7⟩; have u0 := (hb7.cell (p := ⟨b, 0, none⟩) hblr).trans k0; have u1 := (hb7.cell (p := ⟨b, 1, none⟩) hblr).trans k1; have u2 := (hb7.cell (p := ⟨b, 2, none⟩) hblr).trans k2; have u3 := (hb7.cell (p := ⟨b, 3, none⟩) hblr).trans k3))
      have HSA7 : Hid (Calls Tryd.prog 33 #[v7, .slice (some ⟨lb, 0, none⟩) (d + s) (d + s)] w7 fun e w' => e = .returned (.bool true) ∧ Drew w7 w') := by
        have hl7 : StrsAt w7 (.slice (some ⟨lb, 0, none⟩) (d + s) (d + s)) pcs := by rw [HPC.out]; exact StrsAt.of_blk ((HSR.out.to hb7).list) _ _ (pieces_length d s T).symm
        refine (ksame_yes pcs _ _ w7 hst7 hl7 (by rw [HPL.out]; omega)).mono ?_
        rintro e w' ⟨he, n, rfl⟩
        exact ⟨he, n, rfl⟩
      have HB67 : Hid (Below w6.heap.size w6 w7) := HBR.out.trans (hb7.mono HBR.out.size)
      obtain ⟨va7, vc7, rfl⟩ : ∃ ao c, v7 = .slice ao pcs.length c := by obtain ⟨ao, c, h, _⟩ := hst7; exact ⟨ao, c, h⟩
      clear hst7 hb7 k0 k1 k2 k3 HGI HSR HBR u0 u1
      go_wp2_with fail
      refine Calls.mono HSA7.out ?_
      rintro e w8 ⟨rfl, hdr8⟩
      have p2 := (hdr8.cell ⟨b, 2, none⟩).trans u2
      have HB68 : Hid (Below w6.heap.size w6 w8) := HB67.out.trans (hdr8.below.mono HB67.out.size)
      clear hdr8 u2 u3 HSA7 HB67
      go_wp2
      go_roundw
      case rel => exact ⟨i + 1, by omega, by go_num, HB68.out⟩
      case measure => simp [intOf]; omega
    · obtain rfl : i = 3 := by omega
      have HB9 : Hid (Below w.heap.size w wr) := HB6.out.trans (hbel.mono HB6.out.size)
      clear hbel
      go_wp2
      go_ret
      exact ⟨rfl, HB9.out⟩
end Go.Proofs.YtokmllopbfmadaaDoor.KeepW
