import Derived.Test.YtmlnejlhgbonpaaDoorGKPlan
import Derived.Test.YtmlnejlhgbonpaaDoorGBookSb
import Derived.Test.YtmlnejlhgbonpaaDoorGNum
namespace Go.Proofs.YtmlnejlhgbonpaaDoor.KeepW
open Go.RowKit Mem FieldWalks Tab ByTab Parts Ref Top Plans

theorem facs11 : facs 1 1 = [[1]] := by decide
theorem needs11 : needs [[1]] 0 = [[0], [1], [2], [3], [4], [5], [6], [7]] := by decide
theorem cnt_ones {L : List (List Nat)} (h : ∀ l, l ∈ L → l.length ≤ 1) (x y : Nat) : cnt L x y = 0 := by
  unfold cnt
  split
  · rename_i hxy
    refine List.countP_eq_zero.2 fun l hl hb => ?_
    have hm := both_iff.1 hb
    have := h l hl
    match l, this, hm with
    | [], _, hm => cases hm.1
    | [a], _, hm =>
      have h1 : x = a := by simpa using hm.1
      have h2 : y = a := by simpa using hm.2
      omega
  · rfl
theorem end_ones {L : List (List Nat)} {h K : Nat} (hL : ∀ l, l ∈ L → l.length ≤ 1) (e : IsEnd L h K) : K = 0 := by
  by_cases h0 : 0 < K
  · have h1 := (pair_at e h0).1
    have h2 := (pair_at e h0).2
    obtain ⟨_, h3, _⟩ := h1.pair h2
    rcases h1.2 with ⟨h4, _⟩ | ⟨_, h5, _⟩
    · omega
    · have := cnt_ones hL (best (listsTo L h 0)).1.1 (best (listsTo L h 0)).1.2
      have h6 : cnt (listsTo L h 0) (best (listsTo L h 0)).1.1 (best (listsTo L h 0)).1.2 = 0 := this
      omega
  · omega
def one8 : List Stp := (List.range 8).map fun c => ⟨8 + c, c, true⟩
theorem plan11 (he : Plans.Ends (facs 1 1) 1) : planTo (facs 1 1) 1 1 = one8 := by
  rw [facs11] at he ⊢
  have h0 := he 0 (by omega)
  have hK := end_ones (L := needs [[1]] 0) (by rw [needs11]; decide) h0
  rw [planTo, planTo, List.nil_append, pieceSteps, hK, helpTo, List.nil_append, listsTo, needs11]
  rfl
theorem plan_none (d : Nat) (he : Plans.Ends (facs d 0) d) : planTo (facs d 0) d d = [] := by
  have h1 := plan_few he d (Nat.le_refl _)
  have h2 := needsTo_le (facs d 0) d
  have h3 : (facs d 0).length = 0 := rfl
  rw [h3, Nat.mul_zero, Nat.zero_mul] at h2
  exact List.eq_nil_of_length_eq_zero (by omega)
theorem plan_more {rows : List (List Nat)} {n : Nat} {t : Stp} : ∀ j, t ∈ planTo rows n 1 → 1 ≤ j → t ∈ planTo rows n j
  | 0, _, h => by omega
  | 1, h, _ => h
  | j + 2, h, _ => by rw [planTo]; exact List.mem_append_left _ (plan_more (j + 1) h (by omega))
theorem first_turns (d : Nat) (h1 : 1 ≤ d) (h2 : d ≤ 10) : ∃ c, c < 8 ∧ turnIn (Gf.inv (d ^^^ 0)) c 0 8 ≠ [] := by
  rcases (show d = 1 ∨ d = 2 ∨ d = 3 ∨ d = 4 ∨ d = 5 ∨ d = 6 ∨ d = 7 ∨ d = 8 ∨ d = 9 ∨ d = 10 by omega) with rfl | rfl | rfl | rfl | rfl | rfl | rfl | rfl | rfl | rfl <;> exact ⟨0, by decide, by decide +kernel⟩
theorem plan_some (d s : Nat) (h1 : 1 ≤ d) (h2 : d ≤ 10) (hs : 0 < s) : planTo (facs d s) d d ≠ [] := by
  obtain ⟨c, hc, ht⟩ := first_turns d h1 h2
  have hfl : (facs d s).length = s := by simp [facs]
  have hn : (needs (facs d s) 0).getD c [] = turnIn (Gf.inv (d ^^^ 0)) c 0 8 := by
    rw [needs_at _ _ _ (by rw [hfl]; omega), show c / 8 = 0 by omega, show c % 8 = c by omega, fac_at d s 0 0 hs (by omega)]
    rfl
  have hb : begunTo (facs d s) 1 c = true := by
    simp only [begunTo, Bool.false_or, hn]
    simpa using ht
  rcases begun_full (facs d s) d c (by rw [hfl]; omega) 1 hb with h | ⟨t, h3, _⟩
  · omega
  · intro e
    have := plan_more d h3 h1
    rw [e] at this; cases this
theorem plan_len (d s : Nat) (h1 : 1 ≤ d) (h2 : d ≤ 10) (hs : s ≤ 6) (he : Plans.Ends (facs d s) d) : (planTo (facs d s) d d).length ≤ 100000 ∧ ((planTo (facs d s) d d).length = 0 ↔ s = 0) := by
  have hfl : (facs d s).length = s := by simp [facs]
  have h3 := plan_few he d (Nat.le_refl _)
  have h4 := needsTo_le (facs d s) d
  rw [hfl] at h4
  have h5 : 64 * s * d ≤ 64 * 6 * 10 := Nat.mul_le_mul (Nat.mul_le_mul_left _ hs) h2
  refine ⟨by omega, fun h => ?_, fun h => ?_⟩
  · by_cases e : s = 0
    · exact e
    · exact absurd (List.eq_nil_of_length_eq_zero h) (plan_some d s h1 h2 (by omega))
  · subst h; rw [plan_none d he]; rfl
end Go.Proofs.YtmlnejlhgbonpaaDoor.KeepW

namespace Go.Proofs.YtmlnejlhgbonpaaDoor.BookS
open Go.RowKit Mem FieldWalks Tab ByTab Parts Plans
open KeepW (one8)

theorem one8_at (i : Nat) (h : i < one8.length) : one8[i] = ⟨8 + i, i, true⟩ := by simp [one8]
set_option maxRecDepth 100000 in
set_option maxHeartbeats 2000000 in
theorem known_yes (v : Value) (w : World) (hv : StepsAt w v one8) :
    Calls Tryd.prog 36 #[v] w fun e w' => e = .returned (.bool true) ∧ Below w.heap.size w w' := by
  obtain ⟨ao, cap, rfl, hx⟩ := hv
  have hl : one8.length = 8 := rfl
  rw [hl]
  obtain ⟨g, cur, rfl, hg, hc⟩ : ∃ g cur, ao = some ⟨g, 0, none⟩ ∧ w.heap[g]? = some (.cells cur 73 (0, 0)) ∧ ∀ k, (h : k < one8.length) → ∀ r, r < 3 → cur[k * 3 + r]? = (one8[k].cells)[r]? := by
    rcases hx with h | h
    · cases h
    · exact h
  have HC : Hid (∀ i, i < 8 → ∀ r, r < 3 → cur[i * 3 + r]? = ((⟨8 + i, i, true⟩ : Stp).cells)[r]?) := fun i hi r hr => by
    have := hc i (by rw [hl]; exact hi) r hr
    rw [one8_at] at this; exact this
  have HG : Hid (w.heap[g]? = some (.cells cur 73 (0, 0))) := hg
  clear hx hc hg hl
  go_enter Tryd.func36, Tryd.ntmps36
  go_wp2
  go_loopw [4] (fun iv wr => ∃ i : Nat, i ≤ 8 ∧ iv = .int .i64 i ∧ Blk wr w.heap.size 100 (flagsV 8 fun q => decide (q < i)) ∧ Below w.heap.size w wr) (fun iv _ => 8 - (intOf iv).toNat)
  case atStart => exact ⟨0, Nat.zero_le _, rfl, (Blk.new w _ _).eq (by simp [flagsV, List.range_succ]), (Below.refl _ _).alloc (Nat.le_refl _) _⟩
  case round =>
    obtain ⟨i, hi, rfl, hd, hbel⟩ := hrel
    by_cases hlt : i < 8
    · have hg1 := (hbel.block g (lt_of_block HG.out)).trans HG.out
      have d0 := (cell_of_row wr g (i * 3 + 0) cur _ _ hg1).trans (HC.out i hlt 0 (by decide))
      have d1 := (cell_of_row wr g (i * 3 + 1) cur _ _ hg1).trans (HC.out i hlt 1 (by decide))
      have d2 := (cell_of_row wr g (i * 3 + 2) cur _ _ hg1).trans (HC.out i hlt 2 (by decide))
      simp only [Stp.cells, List.getElem?_cons_zero, List.getElem?_cons_succ, Nat.add_zero] at d0 d1 d2
      have e0 := hd.cell_some (k := i) (flagsV_at _ hlt)
      rw [decide_eq_false (show ¬ i < i by omega)] at e0
      have f0 := hd.free i
      have hdlt := hd.lt
      have HD : Hid (Blk wr w.heap.size 100 (flagsV 8 fun q => decide (q < i))) := hd
      have hsz := hbel.size
      have q1 : ((8 + i : Nat) : Int) = (i : Int) + 8 := by omega
      rw [q1] at d0
      have q2 : decide ((i : Int) < 0) = false := decide_eq_false (by omega)
      have q3 : decide ((7 : Int) < (i : Int)) = false := decide_eq_false (by omega)
      have q4 : (((i : Int) + 8) != ((i : Int) + 8)) = false := by simp
      have q5 : IntKind.i64.wrap ((i : Int) + 8) = (i : Int) + 8 := by rw [IntKind.wrap_i64]; omega
      have q6 : (i : Int) < 8 := by omega
      clear hd hg1 q1
      go_wp2
      refine ⟨⟨i + 1, by omega, by go_num, ((HD.out.set i (.bool true)).alloc _).eq ?_, (hbel.setCell (Nat.le_refl _) _).alloc (by rw [size_setCell]; omega) _⟩, by simp [intOf]; omega⟩
      rw [flagsV_set]
      refine flagsV_congr fun q hq => ?_
      by_cases e : q = i
      · subst e; simp
      · rw [if_neg e]
        by_cases h : q < i
        · rw [decide_eq_true h, decide_eq_true (by omega)]
        · rw [decide_eq_false h, decide_eq_false (by omega)]
    · obtain rfl : i = 8 := by omega
      go_wp2
      go_ret
      exact ⟨rfl, hbel⟩
end Go.Proofs.YtmlnejlhgbonpaaDoor.BookS

namespace Go.Proofs.YtmlnejlhgbonpaaDoor.BookS
open Go.RowKit Mem FieldWalks Tab ByTab Parts Plans Top
open Book (below_alloc)

theorem run_copy (w : World) (base n : Nat) (v : Value) (ss : List Stp) (hl : ss.length = n) (hn : n ≤ 1000000) (h : w.ownsRow base 73 3 v n (stepCells ss)) (ty : TypeId) :
    ∃ ao' c' w', (Builtin.append_ #[64, 64] ty #[.slice none 0 0, v]).run Tryd.prog w = .ok (.slice ao' n c') w' ∧ w'.ownsRow w.heap.size 73 3 (.slice ao' n c') n (stepCells ss) ∧ Below w.heap.size w w' := by
  obtain ⟨i0, hi, hz0, hz1, hz2⟩ := info_parts infoStep
  rcases h.2 with ⟨rfl, rfl⟩ | ⟨g, cap, cur, rfl, hb, hg, h4, h5, h6, h7⟩
  · have : ss = [] := List.eq_nil_of_length_eq_zero hl
    subst this
    refine ⟨none, 0, w, ?_, World.ownsRow_nil _ _ _ _, Below.refl _ _⟩
    simp [Builtin.append_, run_underlying Tryd.underlying64, sizeOf, typeInfo, hi, Builtin.lenOf, Builtin.firstCells]
  · have hcells : ∀ (j : Nat) (u : Value), (stepCells ss)[j]? = some u → w.cell? ((⟨g, 0, none⟩ : Addr).add j) = some u := fun j u hu => by
      rw [addr_add', cell_of_row w g j cur _ _ hg]
      have hj : j < n * 3 := by have := (List.getElem?_eq_some_iff.1 hu).1; rw [h.1] at this; exact this
      rw [← h7, List.getElem?_take_of_lt hj] at hu
      simpa using hu
    have hone : ∀ u ∈ stepCells ss, u.oneCell' = true := by
      intro u hu
      simp only [stepCells, List.mem_flatMap] at hu
      obtain ⟨s, _, hu⟩ := hu
      simp only [Stp.cells, List.mem_cons, List.not_mem_nil, or_false] at hu
      rcases hu with rfl | rfl | rfl <;> rfl
    obtain ⟨v', w', hr, ho, hgr, _⟩ := run_append_own (P := Tryd.prog) w w.heap.size 64 ty 73 i0 _ 3 24 Tryd.underlying64 hi hz0 hz1 hz2 rfl (by decide) (.slice none 0 0) 0 [] (World.ownsRow_nil _ _ _ _) ⟨g, 0, none⟩ n cap (stepCells ss) h.1 hcells hone (by unfold maxLen; omega) (by omega) (Nat.le_refl _)
    rw [Nat.zero_add, List.nil_append] at ho
    obtain ⟨ao', c', rfl⟩ := owns_form ho
    exact ⟨ao', c', w', hr, ho, ⟨hgr.os, hgr.tape, hgr.output, hgr.size, fun k hk => hgr.block k hk (by simp [Value.ownBlock])⟩⟩
theorem wpList_copy (w : World) {ops : Array Oper} {rest : List Oper} {o : Oper} {a : Act} {Q : Exit → Act → World → Prop}
    (hgd : o.guard = none) (s x : Operand) (hop : o.op = Op.call { callee := Callee.builtin Builtin.append, args := #[s, x], argTypes := #[64, 64] })
    (base n : Nat) (v : Value) (ss : List Stp) (hl : ss.length = n) (hn : n ≤ 1000000) (hs : a.eval s = .slice none 0 0) (hx : a.eval x = v) (h : w.ownsRow base 73 3 v n (stepCells ss))
    (hK : ∀ ao' c' w', w'.ownsRow w.heap.size 73 3 (.slice ao' n c') n (stepCells ss) → Below w.heap.size w w' → wpList Tryd.prog ops Q rest (a.put o.dst (.slice ao' n c')) w') :
    wpList Tryd.prog ops Q (o :: rest) a w := by
  refine wpList_plain hgd fun K hK' => ?_
  obtain ⟨ao', c', w', hrun, h1, h2⟩ := run_copy w base n v ss hl hn h o.type
  have := hK ao' c' w' h1 h2
  unfold Oper.wp
  simp [execOp, hop, resolve, invoke, builtin, hs, hx, hrun, Result.andThen]
  exact hK' _ _ this
theorem own_stays {w w' : World} {base n : Nat} {v v2 : Value} {xs : List Value} (h : w.ownsRow base 73 3 v n xs) (hr : ∀ g us, Blk w g 73 us → v2.ownBlock ≠ some g → w'.heap[g]? = w.heap[g]?) (hne : ∀ g, v.ownBlock = some g → v2.ownBlock ≠ some g) : w'.ownsRow base 73 3 v n xs :=
  own_keep3 h (fun g us hv hg => hr g us hg (hne g hv))
theorem own_lt {w : World} {base n : Nat} {v : Value} {xs : List Value} (h : w.ownsRow base 73 3 v n xs) : ∀ g, v.ownBlock = some g → base ≤ g ∧ g < w.heap.size := by
  intro g hv
  rcases h.2 with ⟨rfl, _⟩ | ⟨g', cap, cur, rfl, hb, hg, _⟩
  · cases hv
  · obtain rfl := Option.some.inj hv; exact ⟨hb, lt_of_block hg⟩

set_option maxRecDepth 100000 in
set_option maxHeartbeats 4000000 in
theorem plans_yes (d s : Nat) (w : World) (ht : Table w) (h0 : 0 < w.heap.size) (hd : 1 ≤ d) (hd2 : d ≤ 10) (hs : s ≤ 6) :
    Calls Tryd.prog 10 #[.int .i64 d, .int .i64 s] w fun e w' => e = .returned (.bool true) ∧ Below w.heap.size w w' := by
  obtain ⟨b, hb⟩ : ∃ b, b = w.heap.size := ⟨_, rfl⟩
  have hb0 : BookAt (w.alloc (.cells #[.int .i64 0, .slice none 0 0] 37)) w.heap.size w.heap.size 0 (w.alloc (.cells #[.int .i64 0, .slice none 0 0] 37)).heap.size := BookAt.start w _ (Nat.le_refl _) _
  have hw0 : Below w.heap.size w (w.alloc (.cells #[.int .i64 0, .slice none 0 0] 37)) := below_alloc w _
  have ht1 := table_to ht hw0
  have hp1 := plan_any 1 1 (w.alloc (.cells #[.int .i64 0, .slice none 0 0] 37)) ht1 (by omega) (by omega) (by omega)
  have HT : Hid (Table w) := ht
  have HB0 : Hid (BookAt (w.alloc (.cells #[.int .i64 0, .slice none 0 0] 37)) w.heap.size w.heap.size 0 (w.alloc (.cells #[.int .i64 0, .slice none 0 0] 37)).heap.size) := hb0
  have HW0 : Hid (Below w.heap.size w (w.alloc (.cells #[.int .i64 0, .slice none 0 0] 37))) := hw0
  have hrc := rCounts_any (d : Int) (s : Int)
  have hok : okCounts (d : Int) (s : Int) = true := by unfold okCounts; simp; omega
  rw [hok] at hrc
  have HRC : Hid (∀ W, Calls Tryd.prog 38 #[.int .i64 d, .int .i64 s] W fun e w' => e = .returned (.bool true) ∧ w' = W) := hrc
  obtain ⟨w1, hw1⟩ : ∃ w1, w1 = w.alloc (.cells #[.int .i64 0, .slice none 0 0] 37) := ⟨_, rfl⟩
  have hsz1 : w1.heap.size = w.heap.size + 1 := by rw [hw1]; simp
  clear hb0 ht1 hw0 ht hrc hok hb
  go_enter Tryd.func10, Tryd.ntmps10
  go_wp2_with fail
  refine Calls.mono hp1 ?_
  rintro e w2 ⟨v1, rfl, ho1, he1, hb2⟩
  clear hp1
  rw [← hw1] at ho1 hb2 HB0 HW0
  clear hw1
  rw [KeepW.plan11 he1] at ho1
  have hkn := known_yes v1 w2 (StepsAt.of_owns ho1)
  have HO1 : Hid (w2.ownsRow w1.heap.size 73 3 v1 8 (stepCells KeepW.one8)) := ho1
  have HBK2 : Hid (BookAt w2 w.heap.size w.heap.size 0 w1.heap.size) := HB0.out.to hb2
  have HB2 : Hid (Below w.heap.size w w2) := HW0.out.trans (hb2.mono HW0.out.size)
  obtain ⟨va, vc, rfl⟩ := owns_form ho1
  clear ho1 he1 hb2
  go_wp2_with fail
  refine Calls.mono hkn ?_
  rintro e w3 ⟨rfl, hb3⟩
  clear hkn
  have hst1 := steps_any w.heap.size w.heap.size 0 w1.heap.size 8 _ _ w3 (HBK2.out.to hb3) (by omega) (by omega) (by omega) (ownsRow_to HO1.out hb3)
  have HB3 : Hid (Below w.heap.size w w3) := HB2.out.trans (hb3.mono HB2.out.size)
  clear hb3
  go_wp2_with (first | (go_at_call 15; refine (num_any _ _).mono ?_; rintro e w' ⟨rfl, hw⟩; obtain rfl : w3 = w' := hw.symm) | fail)
  refine Calls.mono hst1 ?_
  rintro e w4 ⟨rfl, hbk4, hb4, _⟩
  clear hst1
  have HBK4 : Hid (BookAt w4 w.heap.size w.heap.size 1 w4.heap.size) := hbk4
  have HB4 : Hid (Below w.heap.size w w4) := HB3.out.trans hb4
  have hp5 := plan_any d s w4 (table_below HT.out HB4.out h0) hd hd2 hs
  have hp5b : Hid (∀ W, Below w.heap.size w W → Calls Tryd.prog 35 #[.int .i64 d, .int .i64 s] W fun e w' => ∃ v, e = .returned (.tuple #[v, .int .i64 0]) ∧ w'.ownsRow W.heap.size 73 3 v (planTo (facs d s) d d).length (stepCells (planTo (facs d s) d d)) ∧ Plans.Ends (facs d s) d ∧ Below W.heap.size W w') := fun W hW => plan_any d s W (table_below HT.out hW h0) hd hd2 hs
  clear hbk4 hb4 HBK2 HO1 HB0 HW0
  go_wp2_with fail
  refine Calls.mono hp5 ?_
  rintro e w5 ⟨v5, rfl, ho5, he5, hb5⟩
  clear hp5
  have hpl := KeepW.plan_len d s hd hd2 hs he5
  obtain ⟨ss, hss⟩ : ∃ ss, ss = planTo (facs d s) d d := ⟨_, rfl⟩
  rw [← hss] at ho5 hpl hp5b
  obtain ⟨n, hn⟩ : ∃ n, n = ss.length := ⟨_, rfl⟩
  rw [← hn] at ho5 hpl hp5b
  have hnl := hpl.1
  have HNZ : Hid (n = 0 ↔ s = 0) := hpl.2
  have HNL : Hid (n = ss.length) := hn
  have HO5 : Hid (w5.ownsRow w4.heap.size 73 3 v5 n (stepCells ss)) := ho5
  have HBK5 : Hid (BookAt w5 w.heap.size w.heap.size 1 w4.heap.size) := HBK4.out.to hb5
  have HB5 : Hid (Below w.heap.size w w5) := HB4.out.trans (hb5.mono HB4.out.size)
  have hlb4 : w.heap.size ≤ w4.heap.size := HB4.out.size
  obtain ⟨xa, xc, rfl⟩ := owns_form ho5
  clear ho5 he5 hb5 hpl hss hn
  go_wp2_with (first | (go_at_call 38; refine Calls.mono (HRC.out _) ?_; rintro e w' ⟨rfl, hw⟩; obtain rfl : w5 = w' := hw.symm) | (at_builtin; refine wpList_copy _ rfl (.tmp 45) (.tmp 46) rfl w4.heap.size n (.slice xa n xc) ss HNL.out.symm (by omega) rfl rfl HO5.out ?_; intro ya yc w6 ho6 hb6; have HO6 : Hid (w6.ownsRow w5.heap.size 73 3 (.slice ya n yc) n (stepCells ss)) := ho6; have HO56 : Hid (w6.ownsRow w4.heap.size 73 3 (.slice xa n xc) n (stepCells ss)) := ownsRow_to HO5.out hb6; have HBK6 : Hid (BookAt w6 w.heap.size w.heap.size 1 w4.heap.size) := HBK5.out.to hb6; have HB6 : Hid (Below w.heap.size w w6) := HB5.out.trans (hb6.mono HB5.out.size); clear ho6 hb6) | fail)
  have hst2 := steps_any w.heap.size w.heap.size 1 w4.heap.size n _ _ w6 HBK6.out (by omega) (by omega) hlb4 HO56.out
  refine Calls.mono hst2 ?_
  rintro e w7 ⟨rfl, hbk7, hb7, hr7⟩
  clear hst2
  have HO7 : Hid (w7.ownsRow w5.heap.size 73 3 (.slice ya n yc) n (stepCells ss)) := own_stays HO6.out hr7 (fun g hg e => by
    have h1 := own_lt HO6.out g hg
    have h2 := own_lt HO5.out g e
    omega)
  have HBK7 : Hid (BookAt w7 w.heap.size w.heap.size 2 w7.heap.size) := hbk7
  have HB7 : Hid (Below w.heap.size w w7) := HB6.out.trans hb7
  have hp8 := hp5b.out w7 HB7.out
  clear hbk7 hb7 hr7 HBK6 HO56 HO6 HO5 HBK5 HBK4
  go_wp2_with fail
  refine Calls.mono hp8 ?_
  rintro e w8 ⟨v8, rfl, ho8, _, hb8⟩
  clear hp8
  have hsm := sameS_yes ss v8 (.slice ya n yc) w8 (by have := StepsAt.of_owns (ss := ss) (w := w8) (v := v8) (base := w7.heap.size) (by rw [← HNL.out]; exact ho8); exact this) (by have := StepsAt.of_owns (ss := ss) (w := w8) (v := .slice ya n yc) (base := w5.heap.size) (by rw [← HNL.out]; exact ownsRow_to HO7.out hb8); exact this) (by have := HNL.out; omega)
  have HO8 : Hid (w8.ownsRow w7.heap.size 73 3 v8 n (stepCells ss)) := ho8
  have HBK8 : Hid (BookAt w8 w.heap.size w.heap.size 2 w7.heap.size) := HBK7.out.to hb8
  have HB8 : Hid (Below w.heap.size w w8) := HB7.out.trans (hb8.mono HB7.out.size)
  obtain ⟨za, zc, rfl⟩ := owns_form ho8
  clear ho8 hb8
  go_wp2_with fail
  refine Calls.mono hsm ?_
  rintro e w9 ⟨rfl, nq, hw9⟩
  clear hsm
  have hb89 : Below w8.heap.size w8 w9 := by rw [hw9]; exact ⟨rfl, rfl, rfl, Nat.le_refl _, fun _ _ => rfl⟩
  have hst3 := steps_any w.heap.size w.heap.size 2 w7.heap.size n _ _ w9 (HBK8.out.to hb89) (by omega) (by omega) (by have := HB7.out.size; exact this) (ownsRow_to HO8.out hb89)
  have HB9 : Hid (Below w.heap.size w w9) := HB8.out.trans (hb89.mono HB8.out.size)
  clear hw9 hb89
  go_wp2_with fail
  refine Calls.mono hst3 ?_
  rintro e w10 ⟨rfl, hbk10, hb10, _⟩
  clear hst3
  have hlk := looks_any w.heap.size w.heap.size 3 w10.heap.size w10 hbk10 (by omega)
  have HB10 : Hid (Below w.heap.size w w10) := HB9.out.trans hb10
  clear hbk10 hb10
  go_wp2_with fail
  refine Calls.mono hlk ?_
  rintro e w11 ⟨rfl, hb11⟩
  clear hlk
  have HB11 : Hid (Below w.heap.size w w11) := HB10.out.trans (hb11.mono HB10.out.size)
  have hz : ((n : Int) == 0) = ((s : Int) == 0) := by
    have h := HNZ.out
    by_cases h1 : s = 0
    · have h2 := h.2 h1; subst h1 h2; rfl
    · have h2 : ¬ n = 0 := fun e => h1 (h.1 e)
      rw [show ((n : Int) == 0) = false by simp; exact h2, show ((s : Int) == 0) = false by simp; exact h1]
  obtain ⟨r, hr⟩ : ∃ r, ((s : Int) == 0) = r := ⟨_, rfl⟩
  rw [hr] at hz
  have hrr : (r == r) = true := by cases r <;> rfl
  clear hb11
  go_wp2_with (first | (go_at_call 15; refine (num_any _ _).mono ?_; rintro e w' ⟨rfl, hw⟩; obtain rfl : w11 = w' := hw.symm) | fail)
  go_ret
  exact ⟨rfl, HB11.out⟩
set_option maxRecDepth 100000 in
set_option maxHeartbeats 4000000 in
theorem plans_no (d s : Int) (w : World) (ht : Table w) (hno : okCounts d s = false) :
    Calls Tryd.prog 10 #[.int .i64 d, .int .i64 s] w fun e w' => e = .returned (.bool true) ∧ Below w.heap.size w w' := by
  obtain ⟨b, hb⟩ : ∃ b, b = w.heap.size := ⟨_, rfl⟩
  have hb0 : BookAt (w.alloc (.cells #[.int .i64 0, .slice none 0 0] 37)) w.heap.size w.heap.size 0 (w.alloc (.cells #[.int .i64 0, .slice none 0 0] 37)).heap.size := BookAt.start w _ (Nat.le_refl _) _
  have hw0 : Below w.heap.size w (w.alloc (.cells #[.int .i64 0, .slice none 0 0] 37)) := below_alloc w _
  have ht1 := table_to ht hw0
  have hp1 := plan_any 1 1 (w.alloc (.cells #[.int .i64 0, .slice none 0 0] 37)) ht1 (by omega) (by omega) (by omega)
  have HT : Hid (Table w) := ht
  have HB0 : Hid (BookAt (w.alloc (.cells #[.int .i64 0, .slice none 0 0] 37)) w.heap.size w.heap.size 0 (w.alloc (.cells #[.int .i64 0, .slice none 0 0] 37)).heap.size) := hb0
  have HW0 : Hid (Below w.heap.size w (w.alloc (.cells #[.int .i64 0, .slice none 0 0] 37))) := hw0
  have hrc := rCounts_any d s
  rw [hno] at hrc
  have HPN : Hid (∀ W, Calls Tryd.prog 35 #[.int .i64 d, .int .i64 s] W fun e w' => e = .returned (.tuple #[.slice none 0 0, .int .i64 3]) ∧ w' = W) := fun W => plan_no d s W hno
  have HRC : Hid (∀ W, Calls Tryd.prog 38 #[.int .i64 d, .int .i64 s] W fun e w' => e = .returned (.bool false) ∧ w' = W) := hrc
  obtain ⟨w1, hw1⟩ : ∃ w1, w1 = w.alloc (.cells #[.int .i64 0, .slice none 0 0] 37) := ⟨_, rfl⟩
  have hsz1 : w1.heap.size = w.heap.size + 1 := by rw [hw1]; simp
  clear hb0 ht1 hw0 ht hrc hno hb
  go_enter Tryd.func10, Tryd.ntmps10
  go_wp2_with fail
  refine Calls.mono hp1 ?_
  rintro e w2 ⟨v1, rfl, ho1, he1, hb2⟩
  clear hp1
  rw [← hw1] at ho1 hb2 HB0 HW0
  clear hw1
  rw [KeepW.plan11 he1] at ho1
  have hkn := known_yes v1 w2 (StepsAt.of_owns ho1)
  have HO1 : Hid (w2.ownsRow w1.heap.size 73 3 v1 8 (stepCells KeepW.one8)) := ho1
  have HBK2 : Hid (BookAt w2 w.heap.size w.heap.size 0 w1.heap.size) := HB0.out.to hb2
  have HB2 : Hid (Below w.heap.size w w2) := HW0.out.trans (hb2.mono HW0.out.size)
  obtain ⟨va, vc, rfl⟩ := owns_form ho1
  clear ho1 he1 hb2
  go_wp2_with fail
  refine Calls.mono hkn ?_
  rintro e w3 ⟨rfl, hb3⟩
  clear hkn
  have hst1 := steps_any w.heap.size w.heap.size 0 w1.heap.size 8 _ _ w3 (HBK2.out.to hb3) (by omega) (by omega) (by omega) (ownsRow_to HO1.out hb3)
  have HB3 : Hid (Below w.heap.size w w3) := HB2.out.trans (hb3.mono HB2.out.size)
  clear hb3
  go_wp2_with (first | (go_at_call 15; refine (num_any _ _).mono ?_; rintro e w' ⟨rfl, hw⟩; obtain rfl : w3 = w' := hw.symm) | fail)
  refine Calls.mono hst1 ?_
  rintro e w4 ⟨rfl, hbk4, hb4, _⟩
  clear hst1
  have HBK4 : Hid (BookAt w4 w.heap.size w.heap.size 1 w4.heap.size) := hbk4
  have HB4 : Hid (Below w.heap.size w w4) := HB3.out.trans hb4
  clear hbk4 hb4 HBK2 HO1 HB0 HW0
  have hlb4 : w.heap.size ≤ w4.heap.size := HB4.out.size
  have hnil : ∀ W : World, W.ownsRow W.heap.size 73 3 (.slice none 0 0) 0 [] := fun W => World.ownsRow_nil _ _ _ _
  have HNIL : Hid (∀ W : World, W.ownsRow W.heap.size 73 3 (.slice none 0 0) 0 []) := hnil
  clear hnil
  go_wp2_with (first | (go_at_call 35; refine Calls.mono (HPN.out _) ?_; rintro e w' ⟨rfl, hw⟩; obtain rfl : w4 = w' := hw.symm) | (go_at_call 38; refine Calls.mono (HRC.out _) ?_; rintro e w' ⟨rfl, hw⟩; obtain rfl : w4 = w' := hw.symm) | (at_builtin; refine wpList_copy _ rfl (.tmp 45) (.tmp 46) rfl w4.heap.size 0 (.slice none 0 0) [] rfl (by omega) rfl rfl (HNIL.out w4) ?_; intro ya yc w6 ho6 hb6; have HO6 : Hid (w6.ownsRow w4.heap.size 73 3 (.slice ya 0 yc) 0 []) := ho6; have HBK6 : Hid (BookAt w6 w.heap.size w.heap.size 1 w4.heap.size) := HBK4.out.to hb6; have HB6 : Hid (Below w.heap.size w w6) := HB4.out.trans (hb6.mono HB4.out.size); have hs46 := hb6.size; clear ho6 hb6) | fail)
  have hst2 := steps_any w.heap.size w.heap.size 1 w6.heap.size 0 _ _ w6 (HBK6.out.mono hs46) (by omega) (by omega) (by have := HB6.out.size; exact this) (HNIL.out w6)
  refine Calls.mono hst2 ?_
  rintro e w7 ⟨rfl, hbk7, hb7, hr7⟩
  clear hst2
  have HO7 : Hid (w7.ownsRow w4.heap.size 73 3 (.slice ya 0 yc) 0 []) := own_stays HO6.out hr7 (fun g _ e => by cases e)
  have HBK7 : Hid (BookAt w7 w.heap.size w.heap.size 2 w7.heap.size) := hbk7
  have HB7 : Hid (Below w.heap.size w w7) := HB6.out.trans hb7
  have hsm := sameS_yes [] (.slice none 0 0) (.slice ya 0 yc) w7 (StepsAt.of_owns (ss := []) (HNIL.out w7)) (StepsAt.of_owns (ss := []) HO7.out) (by simp)
  clear hbk7 hb7 hr7 HBK6 HO6 HBK4
  go_wp2_with (first | (go_at_call 35; refine Calls.mono (HPN.out _) ?_; rintro e w' ⟨rfl, hw⟩; obtain rfl : w7 = w' := hw.symm) | fail)
  refine Calls.mono hsm ?_
  rintro e w9 ⟨rfl, nq, hw9⟩
  clear hsm
  have hb89 : Below w7.heap.size w7 w9 := by rw [hw9]; exact ⟨rfl, rfl, rfl, Nat.le_refl _, fun _ _ => rfl⟩
  have hst3 := steps_any w.heap.size w.heap.size 2 w9.heap.size 0 _ _ w9 ((HBK7.out.to hb89).mono hb89.size) (by omega) (by omega) (by have := (HB7.out.trans (hb89.mono HB7.out.size)).size; exact this) (HNIL.out w9)
  have HB9 : Hid (Below w.heap.size w w9) := HB7.out.trans (hb89.mono HB7.out.size)
  clear hw9 hb89
  go_wp2_with fail
  refine Calls.mono hst3 ?_
  rintro e w10 ⟨rfl, hbk10, hb10, _⟩
  clear hst3
  have hlk := looks_any w.heap.size w.heap.size 3 w10.heap.size w10 hbk10 (by omega)
  have HB10 : Hid (Below w.heap.size w w10) := HB9.out.trans hb10
  clear hbk10 hb10
  go_wp2_with fail
  refine Calls.mono hlk ?_
  rintro e w11 ⟨rfl, hb11⟩
  clear hlk
  have HB11 : Hid (Below w.heap.size w w11) := HB10.out.trans (hb11.mono HB10.out.size)
  clear hb11
  go_wp2_with (first | (go_at_call 15; refine (num_any _ _).mono ?_; rintro e w' ⟨rfl, hw⟩; obtain rfl : w11 = w' := hw.symm) | fail)
  go_ret
  exact ⟨rfl, HB11.out⟩
theorem plans_any (d s : Int) (w : World) (ht : Table w) (h0 : 0 < w.heap.size) :
    Calls Tryd.prog 10 #[.int .i64 d, .int .i64 s] w fun e w' => e = .returned (.bool true) ∧ Below w.heap.size w w' := by
  cases hok : okCounts d s
  · exact plans_no d s w ht hok
  · have h1 : 1 ≤ d ∧ d ≤ 10 ∧ 0 ≤ s ∧ s ≤ 6 := by unfold okCounts at hok; simp at hok; omega
    obtain ⟨d', rfl⟩ : ∃ d' : Nat, d = d' := ⟨d.toNat, by omega⟩
    obtain ⟨s', rfl⟩ : ∃ s' : Nat, s = s' := ⟨s.toNat, by omega⟩
    exact plans_yes d' s' w ht h0 (by omega) (by omega) (by omega)
end Go.Proofs.YtmlnejlhgbonpaaDoor.BookS
