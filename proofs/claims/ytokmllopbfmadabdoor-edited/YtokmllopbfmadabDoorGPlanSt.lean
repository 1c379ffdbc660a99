import Derived.Test.YtokmllopbfmadabDoorGByPlanes
import Derived.Test.YtokmllopbfmadabDoorGMem
import Derived.Test.YtokmllopbfmadabDoorGSpoilMath
import Derived.Test.YtokmllopbfmadabDoorGPairMap
import Derived.Test.YtokmllopbfmadabDoorGByTables
import Derived.Test.YtokmllopbfmadabDoorGPlanRun
namespace Go.Proofs.YtokmllopbfmadabDoor.Plans
open Go.RowKit Mem FieldWalks Tab ByTab Planes
open Gf (sumTo addTo Bytes)

/-- The rows of the sums: blocks of their own, one behind the other. -/
def rowsV (B L m : Nat) : List Value := (List.range m).map fun i => .slice (some ⟨B + 1 + i, 0, none⟩) L L
theorem rowsV_length (B L m : Nat) : (rowsV B L m).length = m := by simp [rowsV]
theorem rowsV_at {B L m i : Nat} (h : i < m) : (rowsV B L m)[i]? = some (.slice (some ⟨B + 1 + i, 0, none⟩) L L) := by simp [rowsV, h]
structure SumsSt (wx : World) (B m L : Nat) (g : Nat → Nat → Nat) : Prop where
  row : Blk wx B 56 (rowsV B L m)
  each : ∀ i, i < m → Blk wx (B + 1 + i) 5 (bytesV (rowF L (g i)))
theorem SumsSt.to {w w' : World} {B m L : Nat} {g : Nat → Nat → Nat} (h : SumsSt w B m L g) (hb : Below w.heap.size w w') : SumsSt w' B m L g := ⟨h.row.to hb, fun i hi => (h.each i hi).to hb⟩
theorem SumsSt.but {w w' : World} {B m L S : Nat} {g : Nat → Nat → Nat} {us : List Value} (h : SumsSt w B m L g) (hb : But S w w') (hS : Blk w S 120 us) : SumsSt w' B m L g :=
  ⟨hb.blk h.row (h.row.type_ne hS (by decide)), fun i hi => hb.blk (h.each i hi) ((h.each i hi).type_ne hS (by decide))⟩
theorem SumsSt.congr {w : World} {B m L : Nat} {g g' : Nat → Nat → Nat} (h : SumsSt w B m L g) (e : ∀ i, i < m → ∀ q, q < L → g i q = g' i q) : SumsSt w B m L g' :=
  ⟨h.row, fun i hi => (h.each i hi).eq (by rw [rowF_congr (e i hi)])⟩
/-- One row is written anew. -/
theorem SumsSt.put {w w' : World} {B m L i : Nat} {g : Nat → Nat → Nat} {g1 : Nat → Nat} (h : SumsSt w B m L g) (hb : But (B + 1 + i) w w') (hi : Blk w' (B + 1 + i) 5 (bytesV (rowF L g1))) : SumsSt w' B m L (fun k => if k = i then g1 else g k) := by
  refine ⟨hb.blk h.row (by omega), fun k hk => ?_⟩
  by_cases e : k = i
  · subst e; simp only [if_true]; exact hi
  · rw [if_neg e]; exact hb.blk (h.each k hk) (by omega)
theorem SumsSt.rows {w : World} {B L : Nat} {g : Nat → Nat → Nat} {rows ps : List (List Nat)} (h : SumsSt w B rows.length L g) (hl : ∀ j, (h : j < ps.length) → ps[j].length = L) (hg : ∀ i, i < rows.length → ∀ q, q < L → g i q = (sumTo (rows.getD i []) ps L ps.length).getD q 0) :
    RowsC w (.slice (some ⟨B, 0, none⟩) rows.length rows.length) (sums rows ps L) := by
  have hsl : (sums rows ps L).length = rows.length := by simp [sums]
  refine ⟨_, 0, by rw [hsl, Nat.add_zero], .inr ⟨B, 0, rfl, h.row.lt, fun k hk => ?_⟩⟩
  rw [hsl] at hk
  refine ⟨_, by rw [Nat.zero_add]; exact h.row.cell_some (rowsV_at hk), ?_⟩
  have e : (sums rows ps L)[k]'(by omega) = rowF L (g k) := by
    have hs : (sumTo rows[k] ps L ps.length).length = L := Gf.sumTo_length _ ps L hl _ (Nat.le_refl _)
    have e0 : rows.getD k [] = rows[k] := by simp [hk]
    simp only [sums, List.getElem_map]
    apply List.ext_getElem
    · simp [hs]
    · intro q h1 h2
      rw [rowF_at, hg k hk q (by omega), e0]
      simp [h1]
  rw [e]
  exact OwnAt.bsC ⟨B + 1 + k, by simp, h.each k hk⟩
/-- The slots of the pieces' parts: the first j are filled. -/
def fillF (ps : List (List Nat)) (st len j : Nat) : Nat → Nat := fun i => if i < 8 * j then slotOf (((ps.getD (i / 8) []).drop st).take len) (i % 8) else 0
theorem fillF_zero (ps : List (List Nat)) (st len : Nat) : fillF ps st len 0 = fun _ => 0 := by funext i; simp [fillF]
theorem fillF_next (ps : List (List Nat)) (st len j : Nat) : filled (fillF ps st len j) (8 * j) (((ps.getD j []).drop st).take len) = fillF ps st len (j + 1) := by
  funext i
  unfold filled fillF
  by_cases h : 8 * j ≤ i ∧ i < 8 * j + 8
  · rw [if_pos h, if_pos (by omega), show i / 8 = j by omega, show i - 8 * j = i % 8 by omega]
  · rw [if_neg h]
    by_cases h2 : i < 8 * j
    · rw [if_pos h2, if_pos (by omega)]
    · rw [if_neg h2, if_neg (by omega)]
theorem fillF_lt (ps : List (List Nat)) (st len j : Nat) : ∀ i, fillF ps st len j i < 18446744073709551616 := by
  intro i; unfold fillF; split
  · exact slotOf_lt _ _
  · omega
theorem fillF_bit (ps : List (List Nat)) (st len : Nat) (hlen : len ≤ 64) (k : Nat) (hk : k < len) (j : Nat) (hj : j < ps.length) (b : Nat) (hb : b < 8) : (fillF ps st len ps.length (8 * j + b)).testBit k = ((ps.getD j []).getD (st + k) 0).testBit b := by
  unfold fillF
  rw [if_pos (by omega), show (8 * j + b) / 8 = j by omega, show (8 * j + b) % 8 = b by omega, slotOf, Gf.bitsOf_testBit]
  have e : (((ps.getD j []).drop st).take len).getD k 0 = (ps.getD j []).getD (st + k) 0 := by
    generalize ps.getD j [] = p
    rw [List.getD_eq_getElem?_getD, List.getElem?_take_of_lt hk, List.getElem?_drop, ← List.getD_eq_getElem?_getD]
  rw [e]; simp [show k < 64 by omega]
/-- What the sums hold behind st places. -/
def sumF (rows ps : List (List Nat)) (L st : Nat) : Nat → Nat → Nat := fun i q => if q < st then (sumTo (rows.getD i []) ps L ps.length).getD q 0 else 0
theorem BsC.cut {w : World} {v : Value} {l : List Nat} (h : BsC w v l) (st en : Nat) (h1 : st < en) (h2 : en ≤ l.length) : ∃ b off ex, v = .slice (some ⟨b, off, none⟩) l.length (l.length + ex) ∧ b < w.heap.size ∧ BsAt w (.slice (some ⟨b, off + st, none⟩) (en - st) (l.length + ex - st)) ((l.drop st).take (en - st)) := by
  obtain ⟨ao, ex, rfl, hx⟩ := h
  rcases hx with rfl | ⟨b, off, rfl, hlt, hc⟩
  · simp at h2; omega
  · refine ⟨b, off, ex, rfl, hlt, some ⟨b, off + st, none⟩, l.length + ex - st, ?_, .inr ⟨b, off + st, rfl, hlt, fun k hk => ?_⟩⟩
    · rw [List.length_take, List.length_drop, Nat.min_eq_left (by omega)]
    · rw [List.length_take, List.length_drop] at hk
      rw [Nat.add_assoc, hc (st + k) (by omega)]
      simp
/-- What the sums hold while the places from st to en are written: the first i have them. -/
def sumG (rows ps : List (List Nat)) (L st en i : Nat) : Nat → Nat → Nat := fun k => if k < i then sumF rows ps L en k else sumF rows ps L st k
theorem sumG_zero (rows ps : List (List Nat)) (L st en : Nat) : sumG rows ps L st en 0 = sumF rows ps L st := by funext k; simp [sumG]
/-- The words that the plan leaves. -/
noncomputable def ran (rows ps : List (List Nat)) (st len : Nat) : Nat → Nat := runOn (fillF ps st len ps.length) (planTo rows ps.length ps.length)
theorem ran_lt (rows ps : List (List Nat)) (st len : Nat) : ∀ i, ran rows ps st len i < 18446744073709551616 := runOn_lt _ _ (fillF_lt _ _ _ _)
theorem sumG_next (rows ps : List (List Nat)) (L st en len i : Nat) (he : Ends rows ps.length) (hfit : Fit rows ps L) (h1 : st < en) (h3 : en ≤ st + 64) (hlen : len = en - st) (hi : i < rows.length) :
    ∀ k, k < rows.length → ∀ q, q < L → (if k = i then readTo (sumF rows ps L st i) (ran rows ps st len) (8 * (ps.length + i)) st (en - st) else sumG rows ps L st en i k) q = sumG rows ps L st en (i + 1) k q := by
  intro k hk q hq
  by_cases e : k = i
  · subst e
    have eg : sumG rows ps L st en (k + 1) k q = sumF rows ps L en k q := by unfold sumG; rw [if_pos (by omega)]
    rw [if_pos rfl, eg]
    by_cases hq1 : q < st
    · have e1 : readTo (sumF rows ps L st k) (ran rows ps st len) (8 * (ps.length + k)) st (en - st) q = sumF rows ps L st k q := by unfold readTo; rw [if_neg (by omega)]
      rw [e1]; unfold sumF; rw [if_pos hq1, if_pos (by omega)]
    · by_cases hq2 : q < en
      · have e0 : rows.getD k [] = rows[k] := by simp [hk]
        have e1 : readTo (sumF rows ps L st k) (ran rows ps st len) (8 * (ps.length + k)) st (en - st) q = byteOf (ran rows ps st len) (8 * (ps.length + k)) (q - st) := by unfold readTo; rw [if_pos (by omega)]
        have e2 : sumF rows ps L en k q = (sumTo (rows.getD k []) ps L ps.length).getD q 0 := by unfold sumF; rw [if_pos hq2]
        have := byte_sum (fillF ps st len ps.length) rows ps L (q - st) (st + (q - st)) k he hk (by rw [e0]; exact hfit.rbytes k hk) hfit.len hfit.pbytes (fun j hj => by unfold fillF; rw [if_neg (by omega)]) (fun j hj b hb => fillF_bit ps st len (by omega) (q - st) (by omega) j hj b hb)
        rw [show st + (q - st) = q by omega] at this
        rw [e1, e2]; exact this
      · have e1 : readTo (sumF rows ps L st k) (ran rows ps st len) (8 * (ps.length + k)) st (en - st) q = sumF rows ps L st k q := by unfold readTo; rw [if_neg (by omega)]
        rw [e1]; unfold sumF; rw [if_neg hq1, if_neg hq2]
  · rw [if_neg e]
    unfold sumG
    by_cases h : k < i
    · rw [if_pos h, if_pos (by omega)]
    · rw [if_neg h, if_neg (by omega)]
theorem sumG_all (rows ps : List (List Nat)) (L st en : Nat) (h3 : en ≤ st + 64) (h4 : en = L ∨ en = st + 64) : ∀ k, k < rows.length → ∀ q, q < L → sumG rows ps L st en rows.length k q = sumF rows ps L (st + 64) k q := by
  intro k hk q hq
  unfold sumG
  rw [if_pos hk]
  unfold sumF
  rcases h4 with h4 | h4
  · by_cases h : q < st + 64
    · rw [if_pos (by omega), if_pos h]
    · omega
  · rw [h4]
end Go.Proofs.YtokmllopbfmadabDoor.Plans

namespace Go.Proofs.YtokmllopbfmadabDoor.Plans
open Go.RowKit Mem FieldWalks Tab Planes

theorem bit_is (c n : Nat) (hc : c < 256) : bits .and .u8 ((c : Int) / 2 ^ n) 1 = if c.testBit n then 1 else 0 := by
  have hl : c / 2 ^ n < 256 := Nat.lt_of_le_of_lt (Nat.div_le_self _ _) hc
  rw [Gf.cast_shr, show (1 : Int) = ((1 : Nat) : Int) from rfl, u8_and_nat _ _ hl (by omega), nat_mask1, Gf.testBit_div]
  have hlt : c / 2 ^ n % 2 < 2 := Nat.mod_lt _ (by omega)
  generalize c / 2 ^ n % 2 = t at hlt ⊢
  rcases (show t = 0 ∨ t = 1 by omega) with rfl | rfl <;> rfl
theorem idx8 (f b : Nat) (hb : b < 8) (w : World) : (Instr.index 146 (.agg (bytesV (colsOf f)).toArray) (.int .i64 (b : Nat))).run Tryd.prog w = .ok (.int .u8 (Gf.times f (2 ^ b) : Nat)) w := by
  rcases (show b = 0 ∨ b = 1 ∨ b = 2 ∨ b = 3 ∨ b = 4 ∨ b = 5 ∨ b = 6 ∨ b = 7 by omega) with rfl | rfl | rfl | rfl | rfl | rfl | rfl | rfl <;> kernel_rfl

set_option maxRecDepth 100000 in
set_option maxHeartbeats 1000000 in
theorem turners_any (f bit o : Nat) (w : World) (hf : f < 256) (hbit : bit < 8) (ho : o ≤ 1000) :
    Calls Tryd.prog 90 #[.agg (bytesV (colsOf f)).toArray, .int .i64 bit, .int .i64 o] w fun e w' => ∃ v, e = .returned v ∧ w'.ownsRow w.heap.size 3 1 v (turnIn f bit o 8).length (intsV (turnIn f bit o 8)) ∧ Below w.heap.size w w' := by
  have HI : Hid (∀ b, b < 8 → ∀ w, (Instr.index 146 (.agg (bytesV (colsOf f)).toArray) (.int .i64 (b : Nat))).run Tryd.prog w = .ok (.int .u8 (Gf.times f (2 ^ b) : Nat)) w) := fun b hb w => idx8 f b hb w
  have HS : Hid ((Tryd.prog.info? 146).map (·.size) = some (bytesV (colsOf f)).toArray.size) := by show _ = _; rw [infoCols]; simp [colsOf]
  have HFX : Hid (∀ b, Gf.times f (2 ^ b) < 256) := fun b => Gf.times_lt _ _ hf
  have HB0 : Hid (Blk (w.alloc (.cells (bytesV (colsOf f)).toArray 146)) w.heap.size 146 (bytesV (colsOf f)).toArray.toList) := Blk.new w _ _
  generalize (bytesV (colsOf f)).toArray = cs at HI HS HB0 ⊢
  go_enter Tryd.func90, Tryd.ntmps90
  go_wp2_with (refine wpList_load_row rfl 146 _ rfl w.heap.size rfl 146 _ _ _ HB0.out Tryd.underlying146 rfl HS.out ?_)
  go_loopw [7, 11] (fun t i wr => ∃ b : Nat, b ≤ 8 ∧ i = .int .i64 b ∧ wr.ownsRow w.heap.size 3 1 t (turnIn f bit o b).length (intsV (turnIn f bit o b)) ∧ Below w.heap.size w wr) (fun _ i _ => 8 - (intOf i).toNat)
  case atStart => exact ⟨0, Nat.zero_le _, rfl, World.ownsRow_nil _ _ _ _, (Below.refl _ _).alloc (Nat.le_refl _) _⟩
  case round =>
    obtain ⟨b, hb, rfl, hown, hbel⟩ := hrel
    by_cases hlt : b < 8
    · have hix := HI.out b hlt
      have hxb := HFX.out b
      have HY : Hid ((Gf.times f (2 ^ b)).testBit bit = true → turnIn f bit o (b + 1) = turnIn f bit o b ++ [o + b]) := turn_yes f bit o b
      have HN : Hid ((Gf.times f (2 ^ b)).testBit bit = false → turnIn f bit o (b + 1) = turnIn f bit o b) := turn_no f bit o b
      have hle := turnIn_le f bit o b
      generalize Gf.times f (2 ^ b) = x at hix hxb HY HN
      have hbi := bit_is x bit hxb
      have hsq := hbel.size
      generalize turnIn f bit o b = l at hown HY HN hle
      obtain ⟨ta, tc, rfl⟩ := owns_form hown
      cases hx : x.testBit bit
      · rw [hx] at hbi
        simp only [Bool.false_eq_true, if_false] at hbi
        have HNN : Hid (turnIn f bit o (b + 1) = l) := HN.out hx
        clear hx
        go_wp2
        go_roundw
        case rel => exact ⟨b + 1, by omega, by go_num, by rw [HNN.out]; exact hown, hbel⟩
        case measure => simp [intOf]; omega
      · rw [hx] at hbi
        simp only [if_true] at hbi
        have HYY : Hid (intsV l ++ [.int .i64 ((o : Int) + (b : Int))] = intsV (turnIn f bit o (b + 1)) ∧ l.length + 1 = (turnIn f bit o (b + 1)).length) := by
          have e : ((o + b : Nat) : Int) = (o : Int) + (b : Int) := by omega
          show _ ∧ _
          rw [HY.out hx, ← e]; simp [intsV]
        clear hx
        go_wp2_with (at_builtin; refine wpList_append_row _ rfl _ _ 32 rfl w.heap.size 3 (.int .i64 0) 1 8 Tryd.underlying32 infoInt rfl (by decide) (by decide) _ _ _ rfl (by exact hown.alloc _) ⟨wr.heap.size, 0, none⟩ 1 [.int .i64 ((o : Int) + (b : Int))] rfl rfl (made_cells wr 3 _) (by simp [Value.oneCell']) (by omega) (by simp; omega) ?_; rw [HYY.out.1, HYY.out.2]; intro v' w' hown' hg hbel')
        have hb2 := hbel' _ _ (hbel.alloc hsq _) (Nat.le_refl _)
        clear hg hbel'
        go_roundw
        case rel => exact ⟨b + 1, by omega, by go_num, hown', hb2⟩
        case measure => simp [intOf]; omega
    · obtain rfl : b = 8 := by omega
      go_wp2
      go_ret
      exact ⟨_, rfl, hown, hbel⟩
end Go.Proofs.YtokmllopbfmadabDoor.Plans

namespace Go.Proofs.YtokmllopbfmadabDoor.Plans
open Go.RowKit Mem FieldWalks Tab Planes

/-- The first k lists. -/
def needsK (rows : List (List Nat)) (j k : Nat) : List (List Nat) := (List.range (8 * rows.length)).map fun q => if q < k then turnIn ((rows.getD (q / 8) []).getD j 0) (q % 8) (8 * j) 8 else []
theorem needsK_length (rows : List (List Nat)) (j k : Nat) : (needsK rows j k).length = 8 * rows.length := by simp [needsK]
theorem needsK_zero (rows : List (List Nat)) (j : Nat) : needsK rows j 0 = List.replicate (8 * rows.length) [] := by simp [needsK, List.map_const']
theorem needsK_all (rows : List (List Nat)) (j : Nat) : needsK rows j (8 * rows.length) = needs rows j := List.map_congr_left fun q hq => by rw [if_pos (List.mem_range.1 hq)]
theorem needsK_at (rows : List (List Nat)) (j k : Nat) : (needsK rows j k).getD k [] = [] := by
  by_cases h : k < 8 * rows.length
  · simp [needsK, List.getD_eq_getElem?_getD, h]
  · rw [List.getD_eq_getElem?_getD, List.getElem?_eq_none (by rw [needsK_length]; omega)]; rfl
theorem needsK_next (rows : List (List Nat)) (j k : Nat) : (needsK rows j k).set k (turnIn ((rows.getD (k / 8) []).getD j 0) (k % 8) (8 * j) 8) = needsK rows j (k + 1) := by
  apply List.ext_getElem?
  intro q
  by_cases hq : q < 8 * rows.length
  · by_cases e : k = q
    · subst e
      rw [List.getElem?_set_self (by rw [needsK_length]; exact hq)]
      simp [needsK, hq]
    · rw [List.getElem?_set_ne e]
      simp only [needsK, List.getElem?_map, List.getElem?_range hq, Option.map_some]
      congr 1
      by_cases h : q < k
      · rw [if_pos h, if_pos (by omega)]
      · rw [if_neg h, if_neg (by omega)]
  · rw [List.getElem?_eq_none (by simp [needsK_length]; omega), List.getElem?_eq_none (by rw [needsK_length]; omega)]
theorem infoInts : (Tryd.prog.info? 32).map (fun i => (i.zero, i.size, i.bytes)) = some (some (.slice none 0 0), 1, 24) := by kernel_rfl
theorem make_lists (n : Nat) (hn : n ≤ 100000) (w : World) :
    (Instr.makeSlice 135 (.int .i64 (n : Int)) (.int .i64 (n : Int))).run Tryd.prog w = .ok (.slice (some ⟨w.heap.size, 0, none⟩) n n) (w.alloc (.cells (madeCells #[.slice none 0 0] n) 32)) :=
  run_make_row' 135 32 (.slice none 0 0) 24 Tryd.underlying135 infoInts rfl .i64 .i64 n (by omega) (by omega) w
/-- The needs of a piece, in memory. -/
structure NSt (w : World) (B M base N : Nat) (L : List (List Nat)) : Prop where
  lists : LS w B base L
  pairs : PM w M N (cntI L)
theorem NSt.to {w w' : World} {B M base N : Nat} {L : List (List Nat)} (h : NSt w B M base N L) (hb : Below w.heap.size w w') : NSt w' B M base N L := ⟨h.lists.to hb, h.pairs.to hb⟩
def needsV (B M m : Nat) : List Value := [.slice (some ⟨B, 0, none⟩) m m, .map (some M)]

set_option maxRecDepth 100000 in
set_option maxHeartbeats 2000000 in
theorem needsOf_any (rows : List (List Nat)) (n j : Nat) (rv : Value) (w : World) (ht : Table w) (hr : RowsAt w rv rows) (hlen : ∀ i, (h : i < rows.length) → rows[i].length = n) (hb : ∀ i, (h : i < rows.length) → Gf.Bytes rows[i]) (hn : n ≤ 100) (hm : rows.length ≤ 100) (hj : j < n) :
    Calls Tryd.prog 82 #[rv, .int .i64 j] w fun e w' => ∃ B M, e = .returned (.agg (needsV B M (8 * rows.length)).toArray) ∧ NSt w' B M w.heap.size (64 * (8 * rows.length)) (needs rows j) ∧ w.heap.size ≤ B ∧ w.heap.size ≤ M ∧ Below w.heap.size w w' := by
  obtain ⟨rao, rcap, rfl, hrc⟩ := hr
  obtain ⟨m8, hm8⟩ : ∃ m8, m8 = 8 * rows.length := ⟨_, rfl⟩
  have e8 : 8 * (rows.length : Int) = (m8 : Int) := by omega
  have hmk := fun w => make_lists m8 (by omega) w
  have HRC : Hid (rows = [] ∨ ∃ b off, rao = some ⟨b, off, none⟩ ∧ b < w.heap.size ∧ ∀ k, (h : k < rows.length) → ∃ u, w.cell? ⟨b, off + k, none⟩ = some u ∧ BsAt w u rows[k]) := hrc
  have HLEN : Hid (∀ i, (h : i < rows.length) → rows[i].length = n) := hlen
  have HBY : Hid (∀ i, (h : i < rows.length) → Gf.Bytes rows[i]) := hb
  have HM8 : Hid (m8 = 8 * rows.length) := hm8
  have hm8b : m8 ≤ 800 := by omega
  clear hrc hlen hb hm8
  go_enter Tryd.func82, Tryd.ntmps82
  have hmm := fun w => run_makeMap (P := Tryd.prog) 136 w
  go_wp2
  go_loopw [19] (fun iv wr => ∃ i : Nat, i ≤ rows.length ∧ iv = .int .i64 i ∧ NSt wr (w.heap.size + 1) (w.heap.size + 1 + 1) w.heap.size (64 * (8 * i)) (needsK rows j (8 * i)) ∧ Blk wr w.heap.size 138 [.slice none 0 0, .map none] ∧ Blk wr (w.heap.size + 1 + 1 + 1) 138 (needsV (w.heap.size + 1) (w.heap.size + 1 + 1) m8) ∧ Below w.heap.size w wr) (fun iv _ => rows.length - (intOf iv).toNat)
  case atStart =>
    have hL := Blk.new1 w (.cells #[.slice none 0 0, .map none] 138) (madeCells #[.slice none 0 0] m8) 32
    rw [toList_madeCells_one] at hL
    have hP := PM.made ((w.alloc (.cells #[.slice none 0 0, .map none] 138)).alloc (.cells (madeCells #[.slice none 0 0] m8) 32))
    refine ⟨0, Nat.zero_le _, rfl, ⟨?_, ?_⟩, (((Blk.new w _ _).alloc _).alloc _).alloc _, ?_, ?_⟩
    · rw [Nat.mul_zero, needsK_zero, ← HM8.out]
      exact LS.made _ _ _ _ ((hL.alloc _).alloc _)
    · rw [Nat.mul_zero, needsK_zero]
      have hz : ∀ x y, (0 : Int) = cntI (List.replicate (8 * rows.length) []) x y := by
        intro x y
        unfold cntI cnt
        split
        · rw [List.countP_replicate]; simp [both]
        · rfl
      have := (hP.alloc (.cells #[.slice (some ⟨w.heap.size + 1, 0, none⟩) m8 m8, .map (some (w.heap.size + 1 + 1))] 138)).eq hz
      simpa using this
    · have := Blk.new (((w.alloc (.cells #[.slice none 0 0, .map none] 138)).alloc (.cells (madeCells #[.slice none 0 0] m8) 32)).alloc (.map #[] 0)) #[.slice (some ⟨w.heap.size + 1, 0, none⟩) m8 m8, .map (some (w.heap.size + 1 + 1))] 138
      simpa [needsV] using this
    · exact ((((Below.refl _ _).alloc (Nat.le_refl _) _).alloc (by simp) _).alloc (by simp; omega) _).alloc (by simp; omega) _
  case round =>
    obtain ⟨i, hi, rfl, hst, hres, hbox, hbel⟩ := hrel
    clear hmk hmm
    by_cases hlt : i < rows.length
    · obtain ⟨b, off, rfl, hblt, hc⟩ : ∃ b off, rao = some ⟨b, off, none⟩ ∧ b < w.heap.size ∧ ∀ k, (h : k < rows.length) → ∃ u, w.cell? ⟨b, off + k, none⟩ = some u ∧ BsAt w u rows[k] := by
        rcases HRC.out with h | h
        · rw [h] at hlt; simp at hlt
        · exact h
      obtain ⟨u, hu, hbs⟩ := hc i hlt
      rw [← hbel.cell (p := ⟨b, off + i, none⟩) hblt] at hu
      have hby := HBY.out i hlt
      have hln := HLEN.out i hlt
      have HRG : Hid (rows.getD i [] = rows[i]) := by show _ = _; simp [hlt]
      generalize rows[i] = row at hbs hby hln HRG
      obtain ⟨ao, cap, rfl, hx⟩ := hbs
      rw [hln] at hu
      obtain ⟨rb, roff, rfl, hrlt, hrc⟩ : ∃ b off, ao = some ⟨b, off, none⟩ ∧ b < w.heap.size ∧ ∀ k, (h : k < row.length) → w.cell? ⟨b, off + k, none⟩ = some (.int .u8 (row[k] : Nat)) := by
        rcases hx with h | h
        · rw [h] at hln; simp at hln; omega
        · exact h
      have hrj := hrc j (by omega)
      rw [← hbel.cell (p := ⟨rb, roff + j, none⟩) hrlt] at hrj
      have hfb := hby.at j (by omega)
      have HFE : Hid (row.getD j 0 = row[j]) := by show _ = _; simp [show j < row.length by omega]
      generalize row[j] = f at hrj hfb HFE
      have HST : Hid (NSt wr (w.heap.size + 1) (w.heap.size + 1 + 1) w.heap.size (64 * (8 * i)) (needsK rows j (8 * i))) := hst
      have HRES : Hid (Blk wr w.heap.size 138 [.slice none 0 0, .map none]) := hres
      have HBOX : Hid (Blk wr (w.heap.size + 1 + 1 + 1) 138 (needsV (w.heap.size + 1) (w.heap.size + 1 + 1) m8)) := hbox
      have HBEL : Hid (Below w.heap.size w wr) := hbel
      have hT := table_to ht hbel
      clear hrc hx hc hst hres hbox hby
      go_wp2_with fail
      refine (columns_any f hfb _ hT).mono ?_
      rintro e w1 ⟨rfl, hw1⟩
      have HST1 : Hid (NSt w1 (w.heap.size + 1) (w.heap.size + 1 + 1) w.heap.size (64 * (8 * i)) (needsK rows j (8 * i))) := HST.out.to hw1
      have HRES1 : Hid (Blk w1 w.heap.size 138 [.slice none 0 0, .map none]) := HRES.out.to hw1
      have HBOX1 : Hid (Blk w1 (w.heap.size + 1 + 1 + 1) 138 (needsV (w.heap.size + 1) (w.heap.size + 1 + 1) m8)) := HBOX.out.to hw1
      have HBEL1 : Hid (Below w.heap.size w w1) := HBEL.out.trans (hw1.mono HBEL.out.size)
      have HS : Hid ((Tryd.prog.info? 146).map (·.size) = some (bytesV (colsOf f)).toArray.size) := by show _ = _; rw [infoCols]; simp [colsOf]
      clear hw1 HST HRES HBOX HBEL hT hu hrj hbel
      have HZ : Hid (Blk (w1.alloc (.cells #[.int .u8 0, .int .u8 0, .int .u8 0, .int .u8 0, .int .u8 0, .int .u8 0, .int .u8 0, .int .u8 0] 146)) w1.heap.size 146 [.int .u8 0, .int .u8 0, .int .u8 0, .int .u8 0, .int .u8 0, .int .u8 0, .int .u8 0, .int .u8 0]) := Blk.new w1 _ _
      have H1 : Hid ((bytesV (colsOf f)).toArray.all (·.oneCell') = true) := bytesV_one _
      have HLC : Hid ((bytesV (colsOf f)).toArray.toList = bytesV (colsOf f)) := by show _ = _; simp
      have HRW : Hid (Blk ((w1.alloc (.cells #[.int .u8 0, .int .u8 0, .int .u8 0, .int .u8 0, .int .u8 0, .int .u8 0, .int .u8 0, .int .u8 0] 146)).setRow w1.heap.size (bytesV (colsOf f)).toArray) w1.heap.size 146 (bytesV (colsOf f)).toArray.toList) := HZ.out.row _
      have HBW : Hid (Below w1.heap.size w1 ((w1.alloc (.cells #[.int .u8 0, .int .u8 0, .int .u8 0, .int .u8 0, .int .u8 0, .int .u8 0, .int .u8 0, .int .u8 0] 146)).setRow w1.heap.size (bytesV (colsOf f)).toArray)) := below_row ((Below.refl _ _).alloc (Nat.le_refl _) _) (Nat.le_refl _) _
      have HSZ8 : Hid ((bytesV (colsOf f)).toArray.size = 8) := by show _ = _; simp [colsOf]
      generalize (bytesV (colsOf f)).toArray = cs at HS H1 HLC HRW HBW HSZ8 ⊢
      go_wp2_with (refine wpList_store_row rfl 146 _ _ rfl w1.heap.size cs rfl rfl 146 _ HZ.out HS.out (by rw [HSZ8.out]; rfl) H1.out ?_)
      obtain ⟨w2, hw2⟩ : ∃ w2, w2 = (w1.alloc (.cells #[.int .u8 0, .int .u8 0, .int .u8 0, .int .u8 0, .int .u8 0, .int .u8 0, .int .u8 0, .int .u8 0] 146)).setRow w1.heap.size cs := ⟨_, rfl⟩
      rw [← hw2] at HRW HBW ⊢
      clear hw2 HZ H1
      obtain ⟨o, ho⟩ : ∃ o, o = 8 * i := ⟨_, rfl⟩
      have eo : 8 * (i : Int) = (o : Int) := by omega
      have ho8 : o + 8 ≤ m8 := by have := HM8.out; omega
      have HO : Hid (o = 8 * i) := ho
      have HST2 : Hid (NSt w2 (w.heap.size + 1) (w.heap.size + 1 + 1) w.heap.size (64 * (o + 0)) (needsK rows j (o + 0))) := by
        show NSt _ _ _ _ _ _
        rw [ho]; exact HST1.out.to HBW.out
      have HRES2 : Hid (Blk w2 w.heap.size 138 [.slice none 0 0, .map none]) := HRES1.out.to HBW.out
      have HBOX2 : Hid (Blk w2 (w.heap.size + 1 + 1 + 1) 138 (needsV (w.heap.size + 1) (w.heap.size + 1 + 1) m8)) := HBOX1.out.to HBW.out
      have HBEL2 : Hid (Below w.heap.size w w2) := HBEL1.out.trans (HBW.out.mono HBEL1.out.size)
      obtain ⟨C, hC⟩ : ∃ C, C = w1.heap.size := ⟨_, rfl⟩
      have HC0 : Hid (w.heap.size < C ∧ w.heap.size + 1 + 1 + 1 < C) := by
        have := HBOX1.out.lt
        show _ ∧ _
        omega
      rw [← hC] at HRW ⊢
      obtain ⟨q, hq⟩ : ∃ q, q = 8 * j := ⟨_, rfl⟩
      have eq8 : 8 * (j : Int) = (q : Int) := by omega
      have hq8 : q ≤ 1000 := by omega
      have HQ : Hid (q = 8 * j) := hq
      clear hq
      clear hC ho HST1 HRES1 HBOX1 HBEL1 HBW
      go_loopw [29] (fun bv wq => ∃ b : Nat, b ≤ 8 ∧ bv = .int .i64 b ∧ NSt wq (w.heap.size + 1) (w.heap.size + 1 + 1) w.heap.size (64 * (o + b)) (needsK rows j (o + b)) ∧ Blk wq w.heap.size 138 [.slice none 0 0, .map none] ∧ Blk wq (w.heap.size + 1 + 1 + 1) 138 (needsV (w.heap.size + 1) (w.heap.size + 1 + 1) m8) ∧ Blk wq C 146 cs.toList ∧ Below w.heap.size w wq) (fun bv _ => 8 - (intOf bv).toNat)
      case atStart => exact ⟨0, Nat.zero_le _, rfl, HST2.out, HRES2.out, HBOX2.out, HRW.out, HBEL2.out⟩
      case round =>
        clear HST2 HRES2 HBOX2 HRW HBEL2
        obtain ⟨c, hc8, rfl, hst, hres, hbox, hcol, hbq⟩ := hrel
        by_cases hclt : c < 8
        · have HST : Hid (NSt wr (w.heap.size + 1) (w.heap.size + 1 + 1) w.heap.size (64 * (o + c)) (needsK rows j (o + c))) := hst
          have HRES : Hid (Blk wr w.heap.size 138 [.slice none 0 0, .map none]) := hres
          have HBOX : Hid (Blk wr (w.heap.size + 1 + 1 + 1) 138 (needsV (w.heap.size + 1) (w.heap.size + 1 + 1) m8)) := hbox
          have HCOL : Hid (Blk wr C 146 cs.toList) := hcol
          have HBQ : Hid (Below w.heap.size w wr) := hbq
          clear hst hres hbox hcol hbq
          have HTU : Hid (∀ W, Calls Tryd.prog 90 #[.agg cs, .int .i64 c, .int .i64 q] W fun e w' => ∃ v, e = .returned v ∧ w'.ownsRow W.heap.size 3 1 v (turnIn f c q 8).length (intsV (turnIn f c q 8)) ∧ Below W.heap.size W w') := by
            intro W
            have e : cs = (bytesV (colsOf f)).toArray := by rw [← HLC.out, Array.toArray_toList]
            rw [e]; exact turners_any f c q W hfb hclt hq8
          go_wp2_with (first | (refine wpList_load_row rfl 146 _ rfl C rfl 146 _ _ _ HCOL.out Tryd.underlying146 rfl HS.out ?_) | fail)
          refine (HTU.out _).mono ?_
          rintro e w3 ⟨tv, rfl, hto, hw3⟩
          have HLT : Hid (turnIn f c q 8 = turnIn ((rows.getD ((o + c) / 8) []).getD j 0) ((o + c) % 8) (8 * j) 8) := by
            show _ = _
            rw [HO.out, show (8 * i + c) / 8 = i by omega, show (8 * i + c) % 8 = c by omega, HRG.out, HFE.out, HQ.out]
          have hlel := turnIn_le f c q 8
          have HRI : Hid ((turnIn f c q 8).Pairwise (· < ·)) := turnIn_rising _ _ _ _
          have HME : Hid (∀ x, x ∈ turnIn f c q 8 → x < 1000000) := fun x hx => by have := turnIn_mem _ _ _ _ _ hx; omega
          generalize turnIn f c q 8 = l at hto hlel HLT HRI HME
          obtain ⟨ta, tc, rfl⟩ := owns_form hto
          have hk8 : o + c < (needsK rows j (o + c)).length := by rw [needsK_length]; have := HM8.out; omega
          obtain ⟨ov, hov, _⟩ := HST.out.lists.at hk8
          have hBlt := HST.out.lists.lt
          have hMlt := HST.out.pairs.lt
          have HLS : Hid (LS (w3.setCell ⟨w.heap.size + 1, o + c, none⟩ (.slice ta l.length tc)) (w.heap.size + 1) w.heap.size ((needsK rows j (o + c)).set (o + c) l)) :=
            HST.out.lists.put hk8 hov (hw3.block _ hBlt) (fun g _ hg _ => hw3.block g hg.lt) (own_base hto HBQ.out.size) (fun g hg => .inr (own_block hto g hg))
          have HPM : Hid (PM (w3.setCell ⟨w.heap.size + 1, o + c, none⟩ (.slice ta l.length tc)) (w.heap.size + 1 + 1) (64 * (o + c)) (cntI (needsK rows j (o + c)))) :=
            (HST.out.pairs.to hw3).block (Below.heap_setCell w3 _ (.slice ta l.length tc) _ (by show _ ≠ w.heap.size + 1; omega))
          have HIA : Hid (IntsAt (w3.setCell ⟨w.heap.size + 1, o + c, none⟩ (.slice ta l.length tc)) (.slice ta l.length tc) l) := by
            refine IntsAt.of_owns (base := wr.heap.size) (own_keep hto (fun g us hg _ => Below.heap_setCell w3 _ (.slice ta l.length tc) g ?_))
            have := own_block hto g hg
            show _ ≠ w.heap.size + 1
            omega
          have HRES3 : Hid (Blk (w3.setCell ⟨w.heap.size + 1, o + c, none⟩ (.slice ta l.length tc)) w.heap.size 138 [.slice none 0 0, .map none]) := (HRES.out.to hw3).other (by show _ ≠ w.heap.size + 1; omega) _
          have hbox3 := HBOX.out.to hw3
          have HBOX3 : Hid (Blk (w3.setCell ⟨w.heap.size + 1, o + c, none⟩ (.slice ta l.length tc)) (w.heap.size + 1 + 1 + 1) 138 (needsV (w.heap.size + 1) (w.heap.size + 1 + 1) m8)) := hbox3.other (by show _ ≠ w.heap.size + 1; omega) _
          have HCOL3 : Hid (Blk (w3.setCell ⟨w.heap.size + 1, o + c, none⟩ (.slice ta l.length tc)) C 146 cs.toList) := (HCOL.out.to hw3).other (by have := HC0.out; show _ ≠ w.heap.size + 1; omega) _
          have HBQ3 : Hid (Below w.heap.size w (w3.setCell ⟨w.heap.size + 1, o + c, none⟩ (.slice ta l.length tc))) := (HBQ.out.trans (hw3.mono HBQ.out.size)).setCell (by show _ ≤ w.heap.size + 1; omega) _
          have b0 := hbox3.cell_some (k := 0) (v := .slice (some ⟨w.heap.size + 1, 0, none⟩) m8 m8) rfl
          have b1 := HBOX3.out.cell_some (k := 0) (v := .slice (some ⟨w.heap.size + 1, 0, none⟩) m8 m8) rfl
          have b2 := HBOX3.out.cell_some (k := 1) (v := .map (some (w.heap.size + 1 + 1))) rfl
          have hfr := (HST.out.lists.to hw3).free (o + c)
          rw [← hw3.cell (p := ⟨w.heap.size + 1, o + c, none⟩) hBlt] at hov
          have q1 : (o : Int) + (c : Int) < (m8 : Int) := by omega
          clear hto hw3 hbox3 HST HRES HBOX HCOL HBQ HTU
          go_wp2_with fail
          refine (count_any l 1 _ (w.heap.size + 1 + 1) _ _ (.slice ta l.length tc) _ HIA.out HPM.out (.inl rfl) (cntI_le _ (by rw [needsK_length]; have := HM8.out; omega)) (by omega) HME.out (by omega)).mono ?_
          rintro e w5 ⟨rfl, hp5, hb5⟩
          have HN5 : Hid (NSt w5 (w.heap.size + 1) (w.heap.size + 1 + 1) w.heap.size (64 * (o + (c + 1))) (needsK rows j (o + (c + 1)))) := by
            have e1 : (needsK rows j (o + c)).set (o + c) l = needsK rows j (o + (c + 1)) := by rw [HLT.out]; exact needsK_next rows j (o + c)
            have h1 := HLS.out.map HPM.out hb5
            rw [e1] at h1
            have hll : l.length * l.length ≤ 8 * 8 := Nat.mul_le_mul hlel hlel
            have h2 := (hp5.mono (m := 64 * (o + (c + 1))) (by omega)).eq (count_set (needsK rows j (o + c)) (o + c) l hk8 (needsK_at rows j (o + c)) HRI.out)
            rw [e1] at h2
            exact ⟨h1, h2⟩
          have HR5 : Hid (Blk w5 w.heap.size 138 [.slice none 0 0, .map none]) := hb5.blk HRES3.out (by omega)
          have HX5 : Hid (Blk w5 (w.heap.size + 1 + 1 + 1) 138 (needsV (w.heap.size + 1) (w.heap.size + 1 + 1) m8)) := hb5.blk HBOX3.out (by omega)
          have HC5 : Hid (Blk w5 C 146 cs.toList) := hb5.blk HCOL3.out (by have := HC0.out; omega)
          have HB5 : Hid (Below w.heap.size w w5) := hb5.below HBQ3.out (by omega) HBQ3.out.size
          clear hp5 hb5 hov b0 b1 b2 hfr HLS HPM HIA
          go_wp2
          go_roundw
          case rel => exact ⟨c + 1, by omega, by go_num, HN5.out, HR5.out, HX5.out, HC5.out, HB5.out⟩
          case measure => simp [intOf]; omega
        · obtain rfl : c = 8 := by omega
          have HN6 : Hid (NSt wr (w.heap.size + 1) (w.heap.size + 1 + 1) w.heap.size (64 * (8 * (i + 1))) (needsK rows j (8 * (i + 1)))) := by
            show NSt _ _ _ _ _ _
            rw [show 8 * (i + 1) = o + 8 by have := HO.out; omega]; exact hst
          clear hst
          go_wp2
          go_roundw
          case rel => exact ⟨i + 1, by omega, by go_num, HN6.out, hres, hbox, hbq⟩
          case measure => simp [intOf]; omega
    · obtain rfl : i = rows.length := by omega
      have HN7 : Hid (NSt wr (w.heap.size + 1) (w.heap.size + 1 + 1) w.heap.size (64 * (8 * rows.length)) (needs rows j)) := by
        show NSt _ _ _ _ _ _
        rw [← needsK_all]; exact hst
      have b0 := hbox.cell_some (k := 0) (v := .slice (some ⟨w.heap.size + 1, 0, none⟩) m8 m8) rfl
      have b1 := hbox.cell_some (k := 1) (v := .map (some (w.heap.size + 1 + 1))) rfl
      have r0 := hres.cell_some (k := 0) (v := .slice none 0 0) rfl
      have r1 := hres.cell_some (k := 1) (v := .map none) rfl
      have f0 := hres.free 0
      have f1 := hres.free 1
      clear hst
      have HRS : Hid (Blk ((wr.setCell ⟨w.heap.size, 0, none⟩ (.slice (some ⟨w.heap.size + 1, 0, none⟩) m8 m8)).setCell ⟨w.heap.size, 1, none⟩ (.map (some (w.heap.size + 1 + 1)))) w.heap.size 138 (needsV (w.heap.size + 1) (w.heap.size + 1 + 1) (8 * rows.length))) :=
        ((hres.set 0 _).set 1 _).eq (by rw [← HM8.out]; rfl)
      have HNE : Hid (NSt ((wr.setCell ⟨w.heap.size, 0, none⟩ (.slice (some ⟨w.heap.size + 1, 0, none⟩) m8 m8)).setCell ⟨w.heap.size, 1, none⟩ (.map (some (w.heap.size + 1 + 1)))) (w.heap.size + 1) (w.heap.size + 1 + 1) w.heap.size (64 * (8 * rows.length)) (needs rows j)) := by
        have hkp : ∀ g, g ≠ w.heap.size → ((wr.setCell ⟨w.heap.size, 0, none⟩ (.slice (some ⟨w.heap.size + 1, 0, none⟩) m8 m8)).setCell ⟨w.heap.size, 1, none⟩ (.map (some (w.heap.size + 1 + 1)))).heap[g]? = wr.heap[g]? := fun g hg => by
          rw [Below.heap_setCell _ _ _ _ (by exact hg), Below.heap_setCell _ _ _ _ (by exact hg)]
        exact ⟨HN7.out.lists.keep (hkp _ (by omega)) (fun g us hg => hkp g (hg.type_ne hres (by decide))), HN7.out.pairs.block (hkp _ (by omega))⟩
      have HBE : Hid (Below w.heap.size w ((wr.setCell ⟨w.heap.size, 0, none⟩ (.slice (some ⟨w.heap.size + 1, 0, none⟩) m8 m8)).setCell ⟨w.heap.size, 1, none⟩ (.map (some (w.heap.size + 1 + 1))))) := (hbel.setCell (Nat.le_refl _) _).setCell (Nat.le_refl _) _
      have HSN : Hid ((Tryd.prog.info? 138).map (·.size) = some (needsV (w.heap.size + 1) (w.heap.size + 1 + 1) (8 * rows.length)).toArray.size) := by show _ = _; kernel_rfl
      go_wp2
      refine bodyPost_ret (v := .agg (needsV (w.heap.size + 1) (w.heap.size + 1 + 1) (8 * rows.length)).toArray) (results_cell_row (p := 4) (ty := 138) (by kernel_rfl) _ _ w.heap.size 138 _ (0, 0) _ rfl HRS.out Tryd.underlying138 rfl HSN.out) rfl ⟨_, _, rfl, HNE.out, by omega, by omega, HBE.out⟩
end Go.Proofs.YtokmllopbfmadabDoor.Plans
