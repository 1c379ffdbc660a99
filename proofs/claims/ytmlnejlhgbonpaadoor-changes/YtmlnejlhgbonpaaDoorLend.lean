import Derived.Test.YtmlnejlhgbonpaaDoorRefInts
import Derived.Test.YtmlnejlhgbonpaaDoorPlanMem
import Derived.Test.YtmlnejlhgbonpaaDoorAppend
import Derived.Laws.CopyOwn
import Derived.WalkSpells
namespace Go.Proofs.YtmlnejlhgbonpaaDoor.Book
open Go.RowKit Mem FieldWalks Tab ByTab Parts Ref
open Plans (But infoInt)

def beyond : ByteArray := ⟨#[98, 101, 121, 111, 110, 100]⟩
def mine : ByteArray := ⟨#[109, 105, 110, 101]⟩
theorem infoStrSize : (Tryd.prog.info? 9).map (·.size) = some 1 := by kernel_rfl
theorem infoIntSize : (Tryd.prog.info? 3).map (·.size) = some 1 := by kernel_rfl
theorem make_lent (n : Nat) (hn : n ≤ 8796093022204) (w : World) :
    (Instr.makeSlice 38 (.int .i64 ((n : Int) + 4)) (.int .i64 ((n : Int) + 4))).run Tryd.prog w = .ok (.slice (some ⟨w.heap.size, 0, none⟩) (n + 4) (n + 4)) (w.alloc (.cells (madeCells #[.string ByteArray.empty] (n + 4)) 9)) := by
  obtain ⟨i, hi, hz0, hz1, hz2⟩ := info_parts infoStr
  have := run_make (P := Tryd.prog) w 38 9 i (.string ByteArray.empty) Tryd.underlying38 hi hz0 .i64 .i64 ((n : Int) + 4) ((n : Int) + 4) (by omega) (by omega) (by rw [hz2]; omega) (by omega)
  rw [hz1, show ((n : Int) + 4).toNat = n + 4 by omega, Nat.mul_one] at this
  exact this
theorem make_lentI (n : Nat) (hn : n ≤ 17592186044412) (w : World) :
    (Instr.makeSlice 45 (.int .i64 ((n : Int) + 4)) (.int .i64 ((n : Int) + 4))).run Tryd.prog w = .ok (.slice (some ⟨w.heap.size, 0, none⟩) (n + 4) (n + 4)) (w.alloc (.cells (madeCells #[.int .i64 0] (n + 4)) 3)) := by
  obtain ⟨i, hi, hz0, hz1, hz2⟩ := info_parts infoInt
  have := run_make (P := Tryd.prog) w 45 3 i (.int .i64 0) Tryd.underlying45 hi hz0 .i64 .i64 ((n : Int) + 4) ((n : Int) + 4) (by omega) (by omega) (by rw [hz2]; omega) (by omega)
  rw [hz1, show ((n : Int) + 4).toNat = n + 4 by omega, Nat.mul_one] at this
  exact this
theorem eql_nilT (a : Option Addr) (n c : Nat) (w : World) : (binOp .eql 38 (.slice a n c) (.slice none 0 0)).run Tryd.prog w = .ok (.bool a.isNone) w := Lib.run_eql_slice_nil w 38 9 a n c 0 0 Tryd.underlying38
theorem eql_nilI (a : Option Addr) (n c : Nat) (w : World) : (binOp .eql 45 (.slice a n c) (.slice none 0 0)).run Tryd.prog w = .ok (.bool a.isNone) w := Lib.run_eql_slice_nil w 45 3 a n c 0 0 Tryd.underlying45
/-- The list, k of the caller's things behind it, then nothing yet. -/
def lentTo (vs : List Value) (x z : Value) (k : Nat) : List Value := vs ++ (List.replicate k x ++ List.replicate (4 - k) z)
theorem lentTo_next (vs : List Value) (x z : Value) (n k : Nat) (hn : vs.length = n) (hk : k < 4) : (lentTo vs x z k).set (n + k) x = lentTo vs x z (k + 1) := by
  unfold lentTo
  rw [List.set_append_right _ _ (by omega), hn, show n + k - n = k by omega, List.set_append_right _ _ (by simp), List.length_replicate, Nat.sub_self]
  obtain ⟨m, hm⟩ : ∃ m, 4 - k = m + 1 := ⟨4 - k - 1, by omega⟩
  rw [hm, List.replicate_succ, List.set_cons_zero, show 4 - (k + 1) = m by omega, List.replicate_succ']
  simp
theorem lentTo_at (vs : List Value) (x z : Value) (n k : Nat) (hn : vs.length = n) (hk : k < 4) : (lentTo vs x z k)[n + k]? = some z := by
  unfold lentTo
  rw [List.getElem?_append_right (by omega), hn, show n + k - n = k by omega, List.getElem?_append_right (by simp), List.length_replicate, Nat.sub_self]
  obtain ⟨m, hm⟩ : ∃ m, 4 - k = m + 1 := ⟨4 - k - 1, by omega⟩
  rw [hm, List.replicate_succ]; rfl
theorem splice_made (vs : List Value) (z : Value) (n : Nat) (hn : vs.length = n) : splice (madeCells #[z] (n + 4)).toList 0 vs = lentTo vs z z 0 := by
  unfold splice lentTo
  rw [toList_madeCells_one]
  simp [hn]

set_option maxRecDepth 100000 in
theorem lendT_nil (w : World) : Calls Tryd.prog 56 #[.slice none 0 0] w fun e w' => e = .returned (.slice none 0 0) ∧ w' = w := by
  have hnil := fun w => eql_nilT none 0 0 w
  go_enter Tryd.func56, Tryd.ntmps56
  go_wp2
  go_ret
  exact ⟨rfl, rfl⟩
set_option maxRecDepth 100000 in
theorem lendI_nil (w : World) : Calls Tryd.prog 57 #[.slice none 0 0] w fun e w' => e = .returned (.slice none 0 0) ∧ w' = w := by
  have hnil := fun w => eql_nilI none 0 0 w
  go_enter Tryd.func57, Tryd.ntmps57
  go_wp2
  go_ret
  exact ⟨rfl, rfl⟩
set_option maxRecDepth 100000 in
set_option maxHeartbeats 400000 in
theorem lendT_any (ss : List ByteArray) (ad : Addr) (c : Nat) (w : World) (h : StrsAt w (.slice (some ad) ss.length c) ss) (hn : ss.length ≤ 8796093022204) :
    Calls Tryd.prog 56 #[.slice (some ad) ss.length c] w fun e w' => ∃ b, w.heap.size ≤ b ∧ e = .returned (.slice (some ⟨b, 0, none⟩) ss.length (ss.length + 4)) ∧ Blk w' b 9 (lentTo (strV ss) (.string beyond) (.string ByteArray.empty) 4) ∧ Below w.heap.size w w' := by
  have hmk := fun w => make_lent ss.length hn w
  have hnil := fun w => eql_nilT (some ad) ss.length c w
  have HC : Hid (∀ j v, (strV ss)[j]? = some v → w.cell? (ad.add j) = some v ∧ (ad.add j).block < w.heap.size) := by
    intro j v hv
    have hj : j < ss.length := by have := (List.getElem?_eq_some_iff.1 hv).1; simpa [strV] using this
    obtain ⟨ao, cap, he, hx⟩ := h
    injection he with he _ _
    rcases hx with hx | ⟨b, off, hao, hlt, hc⟩
    · rw [hx] at hj; simp at hj
    · rw [← he] at hao
      injection hao with hao
      subst hao
      refine ⟨?_, by rw [Addr.add_lit]; exact hlt⟩
      rw [Addr.add_lit, hc j hj]
      simp [strV, hj] at hv
      rw [hv]
  clear h
  go_enter Tryd.func56, Tryd.ntmps56
  go_wp2_with ((refine wpList_copy_splice rfl _ _ 38 38 rfl 9 Tryd.underlying38 infoStrSize _ _ _ _ _ _ rfl rfl w.heap.size 0 (madeCells #[.string ByteArray.empty] (ss.length + 4)).toList 9 (by rw [Array.toArray_toList]; exact heap_alloc_new _ _) (strV ss) (by simp [strV]) (fun _ => ⟨rfl, ad, rfl, fun j v hv => by have := HC.out j v hv; exact (((Below.refl w.heap.size w).alloc (Nat.le_refl _) _).cell (p := ad.add j) this.2).trans this.1⟩) (by simp [strV, size_madeCells]) (by intro v hv; simp [strV] at hv; obtain ⟨s, _, rfl⟩ := hv; rfl) w.heap.size w ((Below.refl _ _).alloc (Nat.le_refl _) _) (Nat.le_refl _) ?_); intro w1 hr1 hb1)
  have HB : Hid (Blk w1 w.heap.size 9 (lentTo (strV ss) (.string beyond) (.string ByteArray.empty) 0)) := by
    have := hr1.out
    rw [splice_made _ _ ss.length (by simp [strV])] at this
    exact this
  clear hr1 hmk
  go_loopw [5] (fun iv wr => ∃ k : Nat, k ≤ 4 ∧ iv = .int .i64 ((ss.length + k : Nat) : Int) ∧ Blk wr w.heap.size 9 (lentTo (strV ss) (.string beyond) (.string ByteArray.empty) k) ∧ Below w.heap.size w wr) (fun iv _ => ss.length + 4 - (intOf iv).toNat)
  case atStart => exact ⟨0, Nat.zero_le _, rfl, HB.out, hb1⟩
  case round =>
    clear HB hb1
    obtain ⟨k, hk, rfl, hblk, hbel⟩ := hrel
    by_cases hlt : k < 4
    · have c1 := hblk.cell_some (lentTo_at (strV ss) (.string beyond) (.string ByteArray.empty) ss.length k (by simp [strV]) hlt)
      have f1 := hblk.free (ss.length + k)
      have HBL : Hid (Blk (wr.setCell ⟨w.heap.size, ss.length + k, none⟩ (.string beyond)) w.heap.size 9 (lentTo (strV ss) (.string beyond) (.string ByteArray.empty) (k + 1))) := (hblk.set _ _).eq (lentTo_next _ _ _ ss.length k (by simp [strV]) hlt)
      have hlt2 : (ss.length : Int) + (k : Int) < (ss.length : Int) + 4 := by omega
      clear hblk
      go_wp2
      go_roundw
      case rel => exact ⟨k + 1, by omega, by go_num, HBL.out, hbel.setCell (Nat.le_refl _) _⟩
      case measure => simp [intOf]; omega
    · obtain rfl : k = 4 := by omega
      go_wp2
      go_ret
      exact ⟨_, Nat.le_refl _, rfl, hblk, hbel⟩
def intV (l : List Int) : List Value := l.map (Value.int .i64)
set_option maxRecDepth 100000 in
set_option maxHeartbeats 400000 in
theorem lendI_any (ss : List Int) (ad : Addr) (c : Nat) (w : World) (h : IsC w (.slice (some ad) ss.length c) ss) (hn : ss.length ≤ 17592186044412) :
    Calls Tryd.prog 57 #[.slice (some ad) ss.length c] w fun e w' => ∃ b, w.heap.size ≤ b ∧ e = .returned (.slice (some ⟨b, 0, none⟩) ss.length (ss.length + 4)) ∧ Blk w' b 3 (lentTo (intV ss) (.int .i64 (-77)) (.int .i64 0) 4) ∧ Below w.heap.size w w' := by
  have hmk := fun w => make_lentI ss.length hn w
  have hnil := fun w => eql_nilI (some ad) ss.length c w
  have HC : Hid (∀ j v, (intV ss)[j]? = some v → w.cell? (ad.add j) = some v ∧ (ad.add j).block < w.heap.size) := by
    intro j v hv
    have hj : j < ss.length := by have := (List.getElem?_eq_some_iff.1 hv).1; simpa [intV] using this
    obtain ⟨ao, cap, he, hx⟩ := h
    injection he with he _ _
    rcases hx with hx | ⟨b, off, hao, hlt, hc⟩
    · rw [hx] at hj; simp at hj
    · rw [← he] at hao
      injection hao with hao
      subst hao
      refine ⟨?_, by rw [Addr.add_lit]; exact hlt⟩
      rw [Addr.add_lit, hc j hj]
      simp [intV, hj] at hv
      rw [hv]
  clear h
  go_enter Tryd.func57, Tryd.ntmps57
  go_wp2_with ((refine wpList_copy_splice rfl _ _ 45 45 rfl 3 Tryd.underlying45 infoIntSize _ _ _ _ _ _ rfl rfl w.heap.size 0 (madeCells #[.int .i64 0] (ss.length + 4)).toList 3 (by rw [Array.toArray_toList]; exact heap_alloc_new _ _) (intV ss) (by simp [intV]) (fun _ => ⟨rfl, ad, rfl, fun j v hv => by have := HC.out j v hv; exact (((Below.refl w.heap.size w).alloc (Nat.le_refl _) _).cell (p := ad.add j) this.2).trans this.1⟩) (by simp [intV, size_madeCells]) (by intro v hv; simp [intV] at hv; obtain ⟨s, _, rfl⟩ := hv; rfl) w.heap.size w ((Below.refl _ _).alloc (Nat.le_refl _) _) (Nat.le_refl _) ?_); intro w1 hr1 hb1)
  have HB : Hid (Blk w1 w.heap.size 3 (lentTo (intV ss) (.int .i64 (-77)) (.int .i64 0) 0)) := by
    have := hr1.out
    rw [splice_made _ _ ss.length (by simp [intV])] at this
    exact this
  clear hr1 hmk
  go_loopw [5] (fun iv wr => ∃ k : Nat, k ≤ 4 ∧ iv = .int .i64 ((ss.length + k : Nat) : Int) ∧ Blk wr w.heap.size 3 (lentTo (intV ss) (.int .i64 (-77)) (.int .i64 0) k) ∧ Below w.heap.size w wr) (fun iv _ => ss.length + 4 - (intOf iv).toNat)
  case atStart => exact ⟨0, Nat.zero_le _, rfl, HB.out, hb1⟩
  case round =>
    clear HB hb1
    obtain ⟨k, hk, rfl, hblk, hbel⟩ := hrel
    by_cases hlt : k < 4
    · have c1 := hblk.cell_some (lentTo_at (intV ss) (.int .i64 (-77)) (.int .i64 0) ss.length k (by simp [intV]) hlt)
      have f1 := hblk.free (ss.length + k)
      have HBL : Hid (Blk (wr.setCell ⟨w.heap.size, ss.length + k, none⟩ (.int .i64 (-77))) w.heap.size 3 (lentTo (intV ss) (.int .i64 (-77)) (.int .i64 0) (k + 1))) := (hblk.set _ _).eq (lentTo_next _ _ _ ss.length k (by simp [intV]) hlt)
      have hlt2 : (ss.length : Int) + (k : Int) < (ss.length : Int) + 4 := by omega
      clear hblk
      go_wp2
      go_roundw
      case rel => exact ⟨k + 1, by omega, by go_num, HBL.out, hbel.setCell (Nat.le_refl _) _⟩
      case measure => simp [intOf]; omega
    · obtain rfl : k = 4 := by omega
      go_wp2
      go_ret
      exact ⟨_, Nat.le_refl _, rfl, hblk, hbel⟩
theorem lent_get (vs : List Value) (x z : Value) (n i : Nat) (hn : vs.length = n) : (lentTo vs x z 4)[i]? = if i < n then vs[i]? else if i < n + 4 then some x else none := by
  unfold lentTo
  by_cases h : i < n
  · rw [List.getElem?_append_left (by omega), if_pos h]
  · rw [List.getElem?_append_right (by omega), if_neg h, hn]
    by_cases h2 : i < n + 4
    · rw [if_pos h2, List.getElem?_append_left (by rw [List.length_replicate]; omega), List.getElem?_replicate, if_pos (by omega)]
    · rw [if_neg h2, List.getElem?_eq_none (by simp; omega)]
theorem lent_length (vs : List Value) (x z : Value) (n : Nat) (hn : vs.length = n) : (lentTo vs x z 4).length = n + 4 := by simp [lentTo, hn]
set_option maxRecDepth 100000 in
theorem wholeT_nil (o : Value) (w : World) : Calls Tryd.prog 59 #[o, .slice none 0 0] w fun e w' => e = .returned (.bool true) ∧ w' = w := by
  have hnil := fun w => eql_nilT none 0 0 w
  go_enter Tryd.func59, Tryd.ntmps59
  go_wp2
  go_ret
  exact ⟨rfl, rfl⟩
set_option maxRecDepth 100000 in
theorem wholeI_nil (o : Value) (w : World) : Calls Tryd.prog 60 #[o, .slice none 0 0] w fun e w' => e = .returned (.bool true) ∧ w' = w := by
  have hnil := fun w => eql_nilI none 0 0 w
  go_enter Tryd.func60, Tryd.ntmps60
  go_wp2
  go_ret
  exact ⟨rfl, rfl⟩
set_option maxRecDepth 100000 in
set_option maxHeartbeats 400000 in
theorem wholeT_any (ss : List ByteArray) (ad : Addr) (c b : Nat) (w : World) (h : StrsAt w (.slice (some ad) ss.length c) ss) (hb : Blk w b 9 (lentTo (strV ss) (.string beyond) (.string ByteArray.empty) 4)) (hne : ad.block ≠ b) (hn : ss.length ≤ 8796093022204) :
    Calls Tryd.prog 59 #[.slice (some ⟨b, 0, none⟩) ss.length (ss.length + 4), .slice (some ad) ss.length c] w fun e w' => e = .returned (.bool true) ∧ But b w w' := by
  have hnil := fun w => eql_nilT (some ad) ss.length c w
  have HC : Hid (∀ j, (hj : j < ss.length) → ∃ q, ad = ⟨ad.block, q, none⟩ ∧ w.cell? ⟨ad.block, q + j, none⟩ = some (.string ss[j]) ∧ ad.block < w.heap.size) := by
    intro j hj
    obtain ⟨ao, cap, he, hx⟩ := h
    injection he with he _ _
    rcases hx with hx | ⟨b', off, hao, hlt, hc⟩
    · rw [hx] at hj; simp at hj
    · rw [← he] at hao
      injection hao with hao
      subst hao
      exact ⟨off, rfl, hc j hj, hlt⟩
  have hlen := lent_length (strV ss) (.string beyond) (.string ByteArray.empty) ss.length (by simp [strV])
  obtain ⟨vs, hvs⟩ : ∃ vs, vs = lentTo (strV ss) (.string beyond) (.string ByteArray.empty) 4 := ⟨_, rfl⟩
  rw [← hvs] at hb hlen
  have HG : Hid (∀ i, vs[i]? = if i < ss.length then (strV ss)[i]? else if i < ss.length + 4 then some (.string beyond) else none) := fun i => by rw [hvs]; exact lent_get _ _ _ _ _ (by simp [strV])
  have HLN : Hid (vs.length = ss.length + 4) := hlen
  have HB : Hid (Blk w b 9 vs) := hb
  have z1 : (0 : Int) ≤ (ss.length : Int) + 4 := by omega
  have z2 : ((ss.length : Int) + 4).toNat = ss.length + 4 := by omega
  have z3 : ¬ ss.length + 4 = 0 := by omega
  clear h hb hvs hlen
  go_enter Tryd.func59, Tryd.ntmps59
  go_wp2
  go_loopw [7, 8] (fun o iv wr => ∃ i : Nat, i ≤ ss.length + 4 ∧ o = .bool true ∧ iv = .int .i64 (i : Nat) ∧ Blk wr b 9 (mix (List.replicate (ss.length + 4) (.string mine)) vs i) ∧ But b w wr) (fun _ iv _ => ss.length + 4 - (intOf iv).toNat)
  case atStart => exact ⟨0, Nat.zero_le _, rfl, rfl, by rw [mix_zero]; exact HB.out, But.refl _ _⟩
  case round =>
    obtain ⟨i, hi, rfl, rfl, hblk, hbut⟩ := hrel
    by_cases hlt : i < ss.length + 4
    · have hml : (List.replicate (ss.length + 4) (Value.string mine)).length = vs.length := by rw [HLN.out]; simp
      have hil : i < vs.length := by rw [HLN.out]; exact hlt
      have c1 := hblk.cell_some (mix_at hml hil)
      have f1 := hblk.free i
      have HNW : Hid (Blk (wr.setCell ⟨b, i, none⟩ (.string mine)) b 9 (mix (List.replicate (ss.length + 4) (.string mine)) vs (i + 1))) := by
        refine (hblk.set i _).eq ?_
        rw [← mix_set hml hil]
        simp
      have HBT : Hid (But b w wr) := hbut
      have hg := HG.out i
      rw [List.getElem?_eq_getElem hil] at hg
      have l4 : (i : Int) < (ss.length : Int) + 4 := by omega
      by_cases hin : i < ss.length
      · rw [if_pos hin, show (strV ss)[i]? = some (.string ss[i]) by simp [strV, hin]] at hg
        injection hg with hg
        rw [hg] at c1
        obtain ⟨q, hq, hcq, hql⟩ := HC.out i hin
        have c2 : wr.cell? ⟨ad.block, q + i, none⟩ = some (.string ss[i]) := (hbut.cell (p := ⟨ad.block, q + i, none⟩) hne hql).trans hcq
        obtain ⟨ab, hab⟩ : ∃ ab, ab = ad.block := ⟨_, rfl⟩
        rw [← hab] at hq c2
        subst hq
        obtain ⟨x, hx⟩ : ∃ x, x = ss[i] := ⟨_, rfl⟩
        rw [← hx] at c1 c2
        have l1 : decide ((i : Int) < (ss.length : Int)) = true := decide_eq_true (by omega)
        clear hx hg hblk hcq hbut
        go_wp2
        go_roundw
        case rel => exact ⟨i + 1, by omega, by simp, by go_num, HNW.out, HBT.out.setCell _ _⟩
        case measure => simp [intOf]; omega
      · rw [if_neg hin, if_pos hlt] at hg
        injection hg with hg
        rw [hg] at c1
        have l1 : decide ((i : Int) < (ss.length : Int)) = false := decide_eq_false (by omega)
        clear hg hblk hbut
        go_wp2
        go_roundw
        case rel => exact ⟨i + 1, by omega, by simp [beyond], by go_num, HNW.out, HBT.out.setCell _ _⟩
        case measure => simp [intOf]; omega
    · obtain rfl : i = ss.length + 4 := by omega
      go_wp2
      go_ret
      exact ⟨rfl, hbut⟩
set_option maxRecDepth 100000 in
set_option maxHeartbeats 400000 in
theorem wholeI_any (ss : List Int) (ad : Addr) (c b : Nat) (w : World) (h : IsC w (.slice (some ad) ss.length c) ss) (hb : Blk w b 3 (lentTo (intV ss) (.int .i64 (-77)) (.int .i64 0) 4)) (hne : ad.block ≠ b) (hn : ss.length ≤ 17592186044412) :
    Calls Tryd.prog 60 #[.slice (some ⟨b, 0, none⟩) ss.length (ss.length + 4), .slice (some ad) ss.length c] w fun e w' => e = .returned (.bool true) ∧ But b w w' := by
  have hnil := fun w => eql_nilI (some ad) ss.length c w
  have HC : Hid (∀ j, (hj : j < ss.length) → ∃ q, ad = ⟨ad.block, q, none⟩ ∧ w.cell? ⟨ad.block, q + j, none⟩ = some (.int .i64 ss[j]) ∧ ad.block < w.heap.size) := by
    intro j hj
    obtain ⟨ao, cap, he, hx⟩ := h
    injection he with he _ _
    rcases hx with hx | ⟨b', off, hao, hlt, hc⟩
    · rw [hx] at hj; simp at hj
    · rw [← he] at hao
      injection hao with hao
      subst hao
      exact ⟨off, rfl, hc j hj, hlt⟩
  have hlen := lent_length (intV ss) (.int .i64 (-77)) (.int .i64 0) ss.length (by simp [intV])
  obtain ⟨vs, hvs⟩ : ∃ vs, vs = lentTo (intV ss) (.int .i64 (-77)) (.int .i64 0) 4 := ⟨_, rfl⟩
  rw [← hvs] at hb hlen
  have HG : Hid (∀ i, vs[i]? = if i < ss.length then (intV ss)[i]? else if i < ss.length + 4 then some (.int .i64 (-77)) else none) := fun i => by rw [hvs]; exact lent_get _ _ _ _ _ (by simp [intV])
  have HLN : Hid (vs.length = ss.length + 4) := hlen
  have HB : Hid (Blk w b 3 vs) := hb
  have z1 : (0 : Int) ≤ (ss.length : Int) + 4 := by omega
  have z2 : ((ss.length : Int) + 4).toNat = ss.length + 4 := by omega
  have z3 : ¬ ss.length + 4 = 0 := by omega
  clear h hb hvs hlen
  go_enter Tryd.func60, Tryd.ntmps60
  go_wp2
  go_loopw [7, 8] (fun o iv wr => ∃ i : Nat, i ≤ ss.length + 4 ∧ o = .bool true ∧ iv = .int .i64 (i : Nat) ∧ Blk wr b 3 (mix (List.replicate (ss.length + 4) (.int .i64 (-99))) vs i) ∧ But b w wr) (fun _ iv _ => ss.length + 4 - (intOf iv).toNat)
  case atStart => exact ⟨0, Nat.zero_le _, rfl, rfl, by rw [mix_zero]; exact HB.out, But.refl _ _⟩
  case round =>
    obtain ⟨i, hi, rfl, rfl, hblk, hbut⟩ := hrel
    by_cases hlt : i < ss.length + 4
    · have hml : (List.replicate (ss.length + 4) (Value.int .i64 (-99))).length = vs.length := by rw [HLN.out]; simp
      have hil : i < vs.length := by rw [HLN.out]; exact hlt
      have c1 := hblk.cell_some (mix_at hml hil)
      have f1 := hblk.free i
      have HNW : Hid (Blk (wr.setCell ⟨b, i, none⟩ (.int .i64 (-99))) b 3 (mix (List.replicate (ss.length + 4) (.int .i64 (-99))) vs (i + 1))) := by
        refine (hblk.set i _).eq ?_
        rw [← mix_set hml hil]
        simp
      have HBT : Hid (But b w wr) := hbut
      have hg := HG.out i
      rw [List.getElem?_eq_getElem hil] at hg
      have l4 : (i : Int) < (ss.length : Int) + 4 := by omega
      by_cases hin : i < ss.length
      · rw [if_pos hin, show (intV ss)[i]? = some (.int .i64 ss[i]) by simp [intV, hin]] at hg
        injection hg with hg
        rw [hg] at c1
        obtain ⟨q, hq, hcq, hql⟩ := HC.out i hin
        have c2 : wr.cell? ⟨ad.block, q + i, none⟩ = some (.int .i64 ss[i]) := (hbut.cell (p := ⟨ad.block, q + i, none⟩) hne hql).trans hcq
        obtain ⟨ab, hab⟩ : ∃ ab, ab = ad.block := ⟨_, rfl⟩
        rw [← hab] at hq c2
        subst hq
        obtain ⟨x, hx⟩ : ∃ x, x = ss[i] := ⟨_, rfl⟩
        rw [← hx] at c1 c2
        have l1 : decide ((i : Int) < (ss.length : Int)) = true := decide_eq_true (by omega)
        clear hx hg hblk hcq hbut
        go_wp2
        go_roundw
        case rel => exact ⟨i + 1, by omega, by simp, by go_num, HNW.out, HBT.out.setCell _ _⟩
        case measure => simp [intOf]; omega
      · rw [if_neg hin, if_pos hlt] at hg
        injection hg with hg
        rw [hg] at c1
        have l1 : decide ((i : Int) < (ss.length : Int)) = false := decide_eq_false (by omega)
        clear hg hblk hbut
        go_wp2
        go_roundw
        case rel => exact ⟨i + 1, by omega, by simp, by go_num, HNW.out, HBT.out.setCell _ _⟩
        case measure => simp [intOf]; omega
    · obtain rfl : i = ss.length + 4 := by omega
      go_wp2
      go_ret
      exact ⟨rfl, hbut⟩
end Go.Proofs.YtmlnejlhgbonpaaDoor.Book
