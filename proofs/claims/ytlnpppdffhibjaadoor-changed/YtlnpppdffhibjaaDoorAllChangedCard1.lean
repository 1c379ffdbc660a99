import Derived.Test.YtlnpppdffhibjaaDoorRefSpread
import Derived.Test.YtlnpppdffhibjaaDoorRefRestored
import Derived.Test.YtlnpppdffhibjaaDoorTexts
import Derived.Lib.AppendZeros
import Derived.Test.YtlnpppdffhibjaaDoorChangeMath
import Derived.Test.YtlnpppdffhibjaaDoorRefGather
import Derived.Test.YtlnpppdffhibjaaDoorOld
import Derived.ArgAppend
import Derived.Deep.RegionHeld3
import Derived.WalkSpells
import Derived.BigQuiet
import Derived.Test.YtlnpppdffhibjaaDoorFactors
import Derived.Test.YtlnpppdffhibjaaDoorShaped
import Derived.Test.YtlnpppdffhibjaaDoorRefChange
import Derived.Test.YtlnpppdffhibjaaDoorStepsOf
namespace Go.Proofs.YtlnpppdffhibjaaDoor.Book
open Go.RowKit Mem FieldWalks Tab ByTab Parts

set_option maxRecDepth 100000 in
set_option maxHeartbeats 400000 in
theorem sameT_yes (ss : List ByteArray) (a b : Value) (w : World) (ha : StrsAt w a ss) (hb : StrsAt w b ss) (hn : ss.length ≤ 1000) :
    Calls Tryd.prog 20 #[a, b] w fun e w' => e = .returned (.bool true) ∧ ∃ n, w' = w.drewN n := by
  obtain ⟨aao, acap, rfl, hac⟩ := ha
  obtain ⟨bao, bcap, rfl, hbc⟩ := hb
  have hne : ((ss.length : Int) != (ss.length : Int)) = false := by simp
  have HAC : Hid (ss = [] ∨ ∃ b off, aao = some ⟨b, off, none⟩ ∧ b < w.heap.size ∧ ∀ k, (h : k < ss.length) → w.cell? ⟨b, off + k, none⟩ = some (.string ss[k])) := hac
  have HBC : Hid (ss = [] ∨ ∃ b off, bao = some ⟨b, off, none⟩ ∧ b < w.heap.size ∧ ∀ k, (h : k < ss.length) → w.cell? ⟨b, off + k, none⟩ = some (.string ss[k])) := hbc
  clear hac hbc
  go_enter Tryd.func20, Tryd.ntmps20
  go_wp2
  go_loopw [5] (fun i wr => ∃ k n : Nat, k ≤ ss.length ∧ i = .int .i64 k ∧ wr = w.drewN n) (fun i _ => ss.length - (intOf i).toNat)
  case atStart => exact ⟨0, 0, Nat.zero_le _, rfl, rfl⟩
  case round =>
    obtain ⟨k, n, hk, rfl, rfl⟩ := hrel
    by_cases hlt : k < ss.length
    · obtain ⟨x, xo, rfl, hx, hxc⟩ : ∃ b off, aao = some ⟨b, off, none⟩ ∧ b < w.heap.size ∧ ∀ k, (h : k < ss.length) → w.cell? ⟨b, off + k, none⟩ = some (.string ss[k]) := by
        rcases HAC.out with h | h
        · rw [h] at hlt; simp at hlt
        · exact h
      obtain ⟨y, yo, rfl, hy, hyc⟩ : ∃ b off, bao = some ⟨b, off, none⟩ ∧ b < w.heap.size ∧ ∀ k, (h : k < ss.length) → w.cell? ⟨b, off + k, none⟩ = some (.string ss[k]) := by
        rcases HBC.out with h | h
        · rw [h] at hlt; simp at hlt
        · exact h
      have c1 := hxc k hlt
      have c2 := hyc k hlt
      clear hxc hyc
      have hki : (k : Int) < (ss.length : Int) := by omega
      go_wp2
      go_quiet (fail)
      go_wp2
      go_roundw
      case rel => exact ⟨k + 1, n + nq, by omega, by go_num, rfl⟩
      case measure => simp [intOf]; omega
    · obtain rfl : k = ss.length := by omega
      go_wp2
      go_ret
      exact ⟨rfl, n, rfl⟩

/-- The mark of a number below ten. -/
def markS (n : Nat) : ByteArray := ⟨#[109, 97, 114, 107, UInt8.ofNat (48 + n)]⟩
set_option maxRecDepth 100000 in
set_option maxHeartbeats 400000 in
theorem mark_any (n : Nat) (h1 : 1 ≤ n) (h2 : n ≤ 9) (w : World) :
    Calls Tryd.prog 42 #[.int .i64 n] w fun e w' => e = .returned (.string (markS n)) ∧ Below w.heap.size w w' := by
  go_enter Tryd.func42, Tryd.ntmps42
  go_wp2
  go_loopw [0, 3] (fun m s wr => ((m = .int .i64 n ∧ s = .string ⟨#[109, 97, 114, 107]⟩) ∨ (m = .int .i64 0 ∧ s = .string (markS n))) ∧ Below w.heap.size w wr) (fun m _ _ => (intOf m).toNat)
  case atStart => exact ⟨.inl ⟨rfl, rfl⟩, Below.refl _ _⟩
  case round =>
    obtain ⟨h | h, hbel⟩ := hrel
    · obtain ⟨rfl, rfl⟩ := h
      have hsz := hbel.size
      have e1 : (n : Int) % 10 = n := by omega
      have e2 : (n : Int) / 10 = 0 := by omega
      go_wp2_with (refine wpList_convert _ rfl 93 9 _ rfl (.slice (some ⟨wr.heap.size, 0, none⟩) 1 1) (.string (mkS [48 + n])) rfl (conv_str _ _ _ (BsAt.of_blk (t := 5) (by exact Blk.eq (Blk.new wr _ _) (by simp [bytesV])) _ _ rfl)) ?_)
      go_roundw
      case rel => exact ⟨.inr ⟨rfl, congrArg Value.string (ByteArray.ext (by simp [markS, mkS, ByteArray.data_append]))⟩, hbel.alloc hsz _⟩
      case measure => simp [intOf]; omega
    · obtain ⟨rfl, rfl⟩ := h
      go_wp2
      go_ret
      exact ⟨rfl, hbel⟩
end Go.Proofs.YtlnpppdffhibjaaDoor.Book

namespace Go.Proofs.YtlnpppdffhibjaaDoor.KeepW
open Go.RowKit Mem FieldWalks Tab ByTab Parts Ref
open Plans (wpList_append_row made_cells owns_form infoInt grown_keeps intsV)

/-- Which of n things the raw number c speaks of. -/
def pickI (c : Int) (n : Nat) : Nat := if c < 0 then ((-(c + 1)) % (n : Int)).toNat else (c % (n : Int)).toNat
theorem pickI_lt (c : Int) (n : Nat) (h : 0 < n) : pickI c n < n := by
  have := Int.emod_lt_of_pos (-(c + 1)) (show (0 : Int) < n by omega)
  have := Int.emod_lt_of_pos c (show (0 : Int) < n by omega)
  have := Int.emod_nonneg (-(c + 1)) (show (n : Int) ≠ 0 by omega)
  have := Int.emod_nonneg c (show (n : Int) ≠ 0 by omega)
  unfold pickI; split <;> omega
theorem pickI_nat (k n : Nat) (h : k < n) : pickI k n = k := by
  unfold pickI
  rw [if_neg (by omega), Int.emod_eq_of_lt (by omega) (by omega)]; omega

/-- The numbers that are out, behind i raw ones. -/
def goneTo (raw : List Int) (n m : Nat) : Nat → List Nat
  | 0 => []
  | i + 1 => if (goneTo raw n m i).length < m ∧ pickI (raw.getD i 0) n ∉ goneTo raw n m i then goneTo raw n m i ++ [pickI (raw.getD i 0) n] else goneTo raw n m i
theorem goneTo_le (raw : List Int) (n m i : Nat) : (goneTo raw n m i).length ≤ m := by
  induction i with
  | zero => simp [goneTo]
  | succ i ih =>
    unfold goneTo
    split
    · rename_i h; rw [List.length_append, List.length_singleton]; omega
    · exact ih
theorem goneTo_len (raw : List Int) (n m i : Nat) : (goneTo raw n m i).length ≤ i := by
  induction i with
  | zero => simp [goneTo]
  | succ i ih =>
    unfold goneTo
    split
    · rw [List.length_append, List.length_singleton]; omega
    · omega
theorem goneTo_nodup (raw : List Int) (n m i : Nat) : (goneTo raw n m i).Nodup := by
  induction i with
  | zero => simp [goneTo]
  | succ i ih =>
    unfold goneTo
    split
    · rename_i h
      rw [List.nodup_append]
      refine ⟨ih, by simp, fun a ha b hb e => ?_⟩
      rw [List.mem_singleton] at hb
      exact h.2 (by rw [← hb, ← e]; exact ha)
    · exact ih
theorem goneTo_lt (raw : List Int) (n m i : Nat) (hn : 0 < n) : ∀ x, x ∈ goneTo raw n m i → x < n := by
  induction i with
  | zero => intro x hx; simp [goneTo] at hx
  | succ i ih =>
    unfold goneTo
    intro x hx
    split at hx
    · rcases List.mem_append.1 hx with h | h
      · exact ih x h
      · simp at h; rw [h]; exact pickI_lt _ _ hn
    · exact ih x hx
theorem goneTo_full (raw : List Int) (n m i : Nat) (h : m ≤ (goneTo raw n m i).length) : ∀ j, goneTo raw n m (i + j) = goneTo raw n m i := by
  intro j
  induction j with
  | zero => rfl
  | succ j ih =>
    rw [← Nat.add_assoc, goneTo, ih, if_neg (by omega)]
/-- Numbers that are as they must be come out as they are, with one more. -/
theorem goneTo_again (l : List Nat) (k n m : Nat) (hnd : l.Nodup) (hlt : ∀ x, x ∈ l → x < n) (hk : k < n) (hm : l.length < m) :
    goneTo (l.map Int.ofNat ++ [(k : Int)]) n m (l.length + 1) = if k ∈ l then l else l ++ [k] := by
  have key : ∀ i, i ≤ l.length → goneTo (l.map Int.ofNat ++ [(k : Int)]) n m i = l.take i := by
    intro i
    induction i with
    | zero => intro _; simp [goneTo]
    | succ i ih =>
      intro hi
      have ih := ih (by omega)
      have e : (l.map Int.ofNat ++ [(k : Int)]).getD i 0 = ((l[i]'(by omega) : Nat) : Int) := by
        rw [List.getD_eq_getElem?_getD, List.getElem?_append_left (by simpa using (show i < l.length by omega))]
        simp [show i < l.length by omega]
      rw [goneTo, ih, e, pickI_nat _ _ (hlt _ (List.getElem_mem _)), List.take_add_one, List.getElem?_eq_getElem (by omega), Option.toList_some]
      rw [if_pos]
      refine ⟨by rw [List.length_take]; omega, fun hm => ?_⟩
      obtain ⟨q, hq, e2⟩ := List.mem_iff_getElem.1 hm
      have hq' : q < i := by simp at hq; omega
      rw [List.getElem_take] at e2
      rw [List.Nodup, List.pairwise_iff_getElem] at hnd
      exact hnd q i (by omega) (by omega) hq' e2
  have e : (l.map Int.ofNat ++ [(k : Int)]).getD l.length 0 = (k : Int) := by
    rw [List.getD_eq_getElem?_getD, List.getElem?_append_right (by simp)]; simp
  rw [goneTo, key l.length (Nat.le_refl _), List.take_length, e, pickI_nat k n hk]
  by_cases h : k ∈ l
  · rw [if_neg (fun h2 => h2.2 h), if_pos h]
  · rw [if_pos ⟨hm, h⟩, if_neg h]
theorem IsC.of_owns {w : World} {base : Nat} {v : Value} {l : List Nat} (h : w.ownsRow base 3 1 v l.length (intsV l)) : IsC w v (l.map Int.ofNat) := by
  obtain ⟨hl, h2⟩ := h
  rcases h2 with ⟨rfl, h0⟩ | ⟨g, cap, cur, rfl, hg, hh, hle, _, _, ht⟩
  · have : l = [] := List.eq_nil_of_length_eq_zero h0
    subst this
    exact ⟨none, 0, rfl, .inl rfl⟩
  · refine ⟨_, cap - l.length, by simp; omega, .inr ⟨g, 0, rfl, lt_of_block hh, fun k hk => ?_⟩⟩
    have hk' : k < l.length := by simpa using hk
    rw [Nat.zero_add, cell_of_row w g k cur 3 (0, 0) hh]
    rw [Nat.mul_one] at ht
    have : (cur.toList.take l.length)[k]? = some (.int .i64 (l[k] : Nat)) := by rw [ht]; simp [intsV, hk']
    rw [List.getElem?_take_of_lt hk'] at this
    simpa using this

set_option maxRecDepth 100000 in
theorem kpick_any (c : Int) (n : Nat) (w : World) (hn : 0 < n) (hn2 : n ≤ 1000) (h1 : -9223372036854775808 ≤ c) (h2 : c ≤ 9223372036854775807) :
    Calls Tryd.prog 16 #[.int .i64 c, .int .i64 n] w fun e w' => e = .returned (.int .i64 (pickI c n : Nat)) ∧ w' = w := by
  by_cases h : c < 0
  · have e0 : Hid (pickI c n = ((-(c + 1)) % (n : Int)).toNat) := if_pos h
    have hm := Int.emod_lt_of_pos (-(c + 1)) (show (0 : Int) < n by omega)
    have hm2 := Int.emod_nonneg (-(c + 1)) (show (n : Int) ≠ 0 by omega)
    have E : Hid (Int.tmod (-(c + 1)) (n : Int) = ((((-(c + 1)) % (n : Int)).toNat : Nat) : Int)) := by
      show _ = _
      rw [Int.tmod_eq_emod_of_nonneg (by omega)]; omega
    clear hm hm2
    go_enter Tryd.func16, Tryd.ntmps16
    go_wp2
    go_ret
    refine ⟨?_, rfl⟩
    rw [e0.out, ← E.out]
    first
      | rfl
      | (rw [Int.neg_tmod]; rfl)
  · have e0 : Hid (pickI c n = (c % (n : Int)).toNat) := if_neg h
    have hm := Int.emod_lt_of_pos c (show (0 : Int) < n by omega)
    have hm2 := Int.emod_nonneg c (show (n : Int) ≠ 0 by omega)
    have E : Hid (c % (n : Int) = (((c % (n : Int)).toNat : Nat) : Int)) := by show _ = _; omega
    clear hm hm2
    go_enter Tryd.func16, Tryd.ntmps16
    go_wp2
    go_ret
    refine ⟨?_, rfl⟩
    rw [e0.out, ← E.out]
    first
      | rfl
      | (rw [← Int.tmod_eq_emod_of_nonneg (by omega)]; rfl)

set_option maxRecDepth 100000 in
set_option maxHeartbeats 400000 in
theorem ksame_yes (ss : List ByteArray) (a b : Value) (w : World) (ha : StrsAt w a ss) (hb : StrsAt w b ss) (hn : ss.length ≤ 1000) :
    Calls Tryd.prog 30 #[a, b] w fun e w' => e = .returned (.bool true) ∧ ∃ n, w' = w.drewN n := by
  obtain ⟨aao, acap, rfl, hac⟩ := ha
  obtain ⟨bao, bcap, rfl, hbc⟩ := hb
  have hne : ((ss.length : Int) != (ss.length : Int)) = false := by simp
  have HAC : Hid (ss = [] ∨ ∃ b off, aao = some ⟨b, off, none⟩ ∧ b < w.heap.size ∧ ∀ k, (h : k < ss.length) → w.cell? ⟨b, off + k, none⟩ = some (.string ss[k])) := hac
  have HBC : Hid (ss = [] ∨ ∃ b off, bao = some ⟨b, off, none⟩ ∧ b < w.heap.size ∧ ∀ k, (h : k < ss.length) → w.cell? ⟨b, off + k, none⟩ = some (.string ss[k])) := hbc
  clear hac hbc
  go_enter Tryd.func30, Tryd.ntmps30
  go_wp2
  go_loopw [5] (fun i wr => ∃ k n : Nat, k ≤ ss.length ∧ i = .int .i64 k ∧ wr = w.drewN n) (fun i _ => ss.length - (intOf i).toNat)
  case atStart => exact ⟨0, 0, Nat.zero_le _, rfl, rfl⟩
  case round =>
    obtain ⟨k, n, hk, rfl, rfl⟩ := hrel
    by_cases hlt : k < ss.length
    · obtain ⟨x, xo, rfl, hx, hxc⟩ : ∃ b off, aao = some ⟨b, off, none⟩ ∧ b < w.heap.size ∧ ∀ k, (h : k < ss.length) → w.cell? ⟨b, off + k, none⟩ = some (.string ss[k]) := by
        rcases HAC.out with h | h
        · rw [h] at hlt; simp at hlt
        · exact h
      obtain ⟨y, yo, rfl, hy, hyc⟩ : ∃ b off, bao = some ⟨b, off, none⟩ ∧ b < w.heap.size ∧ ∀ k, (h : k < ss.length) → w.cell? ⟨b, off + k, none⟩ = some (.string ss[k]) := by
        rcases HBC.out with h | h
        · rw [h] at hlt; simp at hlt
        · exact h
      have c1 := hxc k hlt
      have c2 := hyc k hlt
      clear hxc hyc
      have hki : (k : Int) < (ss.length : Int) := by omega
      go_wp2
      go_quiet (fail)
      go_wp2
      go_roundw
      case rel => exact ⟨k + 1, n + nq, by omega, by go_num, rfl⟩
      case measure => simp [intOf]; omega
    · obtain rfl : k = ss.length := by omega
      go_wp2
      go_ret
      exact ⟨rfl, n, rfl⟩

set_option maxRecDepth 100000 in
set_option maxHeartbeats 1000000 in
theorem kgone_any (raw : List Int) (n m : Nat) (rv : Value) (w : World) (hr : IsC w rv raw) (hrl : raw.length < 2 ^ 62) (hb : ∀ x, x ∈ raw → -9223372036854775808 ≤ x ∧ x ≤ 9223372036854775807) (hn : 0 < n) (hn2 : n ≤ 1000) (hm : m ≤ 1000) :
    Calls Tryd.prog 29 #[rv, .int .i64 n, .int .i64 m] w fun e w' => ∃ v, e = .returned v ∧ w'.ownsRow w.heap.size 3 1 v (goneTo raw n m raw.length).length (intsV (goneTo raw n m raw.length)) ∧ Below w.heap.size w w' := by
  obtain ⟨ao, ex, rfl, hc⟩ := hr
  have HC : Hid (raw = [] ∨ ∃ b off, ao = some ⟨b, off, none⟩ ∧ b < w.heap.size ∧ ∀ k, (h : k < raw.length) → w.cell? ⟨b, off + k, none⟩ = some (.int .i64 raw[k])) := hc
  have HB : Hid (∀ x, x ∈ raw → -9223372036854775808 ≤ x ∧ x ≤ 9223372036854775807) := hb
  clear hc hb
  go_enter Tryd.func29, Tryd.ntmps29
  go_wp2
  go_loopw [7, 8] (fun t iv wr => ∃ i : Nat, i ≤ raw.length ∧ iv = .int .i64 i ∧ wr.ownsRow w.heap.size 3 1 t (goneTo raw n m i).length (intsV (goneTo raw n m i)) ∧ Below w.heap.size w wr) (fun _ iv _ => raw.length - (intOf iv).toNat)
  case atStart => exact ⟨0, Nat.zero_le _, rfl, World.ownsRow_nil _ _ _ _, Below.refl _ _⟩
  case round =>
    obtain ⟨i, hi, rfl, hown, hbel⟩ := hrel
    have hsz := hbel.size
    obtain ⟨l, hl⟩ : ∃ l, l = goneTo raw n m i := ⟨_, rfl⟩
    have hlm : l.length ≤ m := by rw [hl]; exact goneTo_le _ _ _ _
    have HL : Hid (l = goneTo raw n m i) := hl
    rw [← hl] at hown
    obtain ⟨ta, tc, rfl⟩ := owns_form hown
    have HOW : Hid (wr.ownsRow w.heap.size 3 1 (.slice ta l.length tc) l.length (intsV l)) := hown
    clear hl hown
    by_cases hlt : i < raw.length
    · have e1 : decide ((i : Int) < (raw.length : Int)) = true := decide_eq_true (by omega)
      by_cases hlen : l.length < m
      · have e2 : decide ((l.length : Int) < (m : Int)) = true := decide_eq_true (by omega)
        obtain ⟨b, off, rfl, hblt, hc⟩ : ∃ b off, ao = some ⟨b, off, none⟩ ∧ b < w.heap.size ∧ ∀ k, (h : k < raw.length) → w.cell? ⟨b, off + k, none⟩ = some (.int .i64 raw[k]) := by
          rcases HC.out with h | h
          · rw [h] at hlt; simp at hlt
          · exact h
        have c1 := hc i hlt
        rw [← hbel.cell (p := ⟨b, off + i, none⟩) hblt] at c1
        obtain ⟨c, hcc⟩ : ∃ c, c = raw[i] := ⟨_, rfl⟩
        rw [← hcc] at c1
        have hcb : -9223372036854775808 ≤ c ∧ c ≤ 9223372036854775807 := by rw [hcc]; exact HB.out _ (List.getElem_mem _)
        obtain ⟨p, hp⟩ : ∃ p, p = pickI c n := ⟨_, rfl⟩
        have HNX : Hid (goneTo raw n m (i + 1) = if p ∈ l then l else l ++ [p]) := by
          show _ = _
          have e : raw.getD i 0 = c := by rw [hcc]; simp [hlt]
          rw [goneTo, e, ← hp, ← HL.out]
          by_cases h : p ∈ l
          · rw [if_neg (fun h2 => h2.2 h), if_pos h]
          · rw [if_pos ⟨hlen, h⟩, if_neg h]
        have HPN : Hid (∀ W, Calls Tryd.prog 16 #[.int .i64 c, .int .i64 n] W fun e w' => e = .returned (.int .i64 (p : Nat)) ∧ w' = W) := by
          intro W
          rw [hp]; exact kpick_any c n W hn hn2 hcb.1 hcb.2
        have hpb : p < 1000 := by rw [hp]; exact Nat.lt_of_lt_of_le (pickI_lt _ _ hn) hn2
        clear hc hcc hp hcb
        go_wp2_with fail
        refine (HPN.out _).mono ?_
        rintro e w2 ⟨rfl, rfl⟩
        go_wp2
        go_loop [10, 11] (fun o kv => ∃ k : Nat, k ≤ l.length ∧ kv = .int .i64 k ∧ o = .bool (decide (p ∈ l.take k))) (fun _ kv => l.length - (intOf kv).toNat)
        case atStart => exact ⟨0, Nat.zero_le _, rfl, by simp⟩
        case round =>
          obtain ⟨k, hk, rfl, rfl⟩ := hrel
          by_cases hkl : k < l.length
          · obtain ⟨g, hta, hcell⟩ : ∃ g, ta = some ⟨g, 0, none⟩ ∧ w2.cell? ⟨g, k, none⟩ = some (.int .i64 (l[k] : Nat)) := by
              rcases HOW.out.2 with ⟨h0, h1⟩ | ⟨g, cap, cur, h0, _, hh, _, _, _, ht⟩
              · omega
              · injection h0 with h0 _ _
                refine ⟨g, h0, ?_⟩
                rw [cell_of_row w2 g k cur 3 (0, 0) hh]
                rw [Nat.mul_one] at ht
                have : (cur.toList.take l.length)[k]? = some (.int .i64 (l[k] : Nat)) := by rw [ht]; simp [intsV, hkl]
                rw [List.getElem?_take_of_lt hkl] at this
                simpa using this
            subst hta
            obtain ⟨y, hy⟩ : ∃ y, y = l[k] := ⟨_, rfl⟩
            rw [← hy] at hcell
            have HY : Hid (l.take (k + 1) = l.take k ++ [y]) := by show _ = _; rw [hy, List.take_add_one, List.getElem?_eq_getElem hkl]; rfl
            obtain ⟨o, ho⟩ : ∃ o, o = decide (p ∈ l.take k) := ⟨_, rfl⟩
            have HO : Hid (o = decide (p ∈ l.take k)) := ho
            rw [← ho]
            clear hy ho
            cases o
            · have HO2 : Hid (decide (p ∈ l.take (k + 1)) = ((y : Int) == (p : Int))) := by
                show _ = _
                have h0 : p ∉ l.take k := by have := HO.out; simpa using this
                rw [HY.out]
                by_cases e : y = p
                · simp [e]
                · have e' : ¬ p = y := fun h => e h.symm
                  have e2 : ((y : Int) == (p : Int)) = false := by simp; omega
                  rw [e2]; simp [h0, e']
              go_wp2
              go_round
              case rel => exact ⟨k + 1, by omega, by go_num, by rw [HO2.out]⟩
              case measure => simp [intOf]; omega
            · have HO2 : Hid (decide (p ∈ l.take (k + 1)) = true) := by
                show _ = _
                have h0 : p ∈ l.take k := by have := HO.out; simpa using this.symm
                rw [HY.out]; simp [h0]
              go_wp2
              go_round
              case rel => exact ⟨k + 1, by omega, by go_num, by rw [HO2.out]⟩
              case measure => simp [intOf]; omega
          · obtain rfl : k = l.length := by omega
            rw [List.take_length]
            by_cases hmem : p ∈ l
            · have ed : decide (p ∈ l) = true := decide_eq_true hmem
              have HN2 : Hid (goneTo raw n m (i + 1) = l) := by show _ = _; rw [HNX.out, if_pos hmem]
              rw [ed]
              clear hmem ed
              go_wp2
              go_roundw
              case rel => exact ⟨i + 1, by omega, by go_num, by rw [HN2.out]; exact HOW.out, hbel⟩
              case measure => simp [intOf]; omega
            · have ed : decide (p ∈ l) = false := decide_eq_false hmem
              have HN2 : Hid (goneTo raw n m (i + 1) = l ++ [p]) := by show _ = _; rw [HNX.out, if_neg hmem]
              have HNC : Hid (intsV l ++ [.int .i64 (p : Int)] = intsV (l ++ [p])) := by show _ = _; simp [intsV]
              have hown := HOW.out
              rw [ed]
              clear hmem ed
              go_wp2_with (at_builtin; refine wpList_append_row _ rfl _ _ 45 rfl w.heap.size 3 (.int .i64 0) 1 8 Tryd.underlying45 infoInt rfl (by decide) (by decide) _ _ _ rfl (by exact hown.alloc _) ⟨w2.heap.size, 0, none⟩ 1 [.int .i64 (p : Int)] rfl rfl (made_cells w2 3 _) (by simp [Value.oneCell']) (by omega) (by simp; omega) ?_; rw [HNC.out]; intro v' w3 hown' hg hbel')
              have HB3 : Hid (Below w.heap.size w w3) := hbel' _ _ (hbel.alloc hsz _) (Nat.le_refl _)
              have HO3 : Hid (w3.ownsRow w.heap.size 3 1 v' (goneTo raw n m (i + 1)).length (intsV (goneTo raw n m (i + 1)))) := by
                show w3.ownsRow _ _ _ _ _ _
                rw [HN2.out]; simpa using hown'
              clear hg hbel' hown'
              go_roundw
              case rel => exact ⟨i + 1, by omega, by go_num, HO3.out, HB3.out⟩
              case measure => simp [intOf]; omega
      · have e2 : decide ((l.length : Int) < (m : Int)) = false := decide_eq_false (by omega)
        have HF : Hid (goneTo raw n m raw.length = l) := by
          show _ = _
          have := goneTo_full raw n m i (by rw [← HL.out]; omega) (raw.length - i)
          rw [show i + (raw.length - i) = raw.length by omega] at this
          rw [this, ← HL.out]
        go_wp2
        go_ret
        exact ⟨_, rfl, by rw [HF.out]; exact HOW.out, hbel⟩
    · obtain rfl : i = raw.length := by omega
      have e1 : decide ((raw.length : Int) < (raw.length : Int)) = false := decide_eq_false (by omega)
      have HF : Hid (goneTo raw n m raw.length = l) := HL.out.symm
      go_wp2
      go_ret
      exact ⟨_, rfl, by rw [HF.out]; exact HOW.out, hbel⟩
end Go.Proofs.YtlnpppdffhibjaaDoor.KeepW

namespace Go.Proofs.YtlnpppdffhibjaaDoor.Parts
open Go.RowKit Mem FieldWalks Tab ByTab

theorem make_strN (n : Nat) (hp : n ≤ 1000) (w : World) :
    (Instr.makeSlice 38 (.int .i64 (n : Int)) (.int .i64 (n : Int))).run Tryd.prog w = .ok (.slice (some ⟨w.heap.size, 0, none⟩) n n) (w.alloc (.cells (madeCells #[.string ByteArray.empty] n) 9)) := by
  obtain ⟨i, hi, hz0, hz1, hz2⟩ := info_parts infoStr
  have := run_make (P := Tryd.prog) w 38 9 i (.string ByteArray.empty) Tryd.underlying38 hi hz0 .i64 .i64 (n : Int) (n : Int) (by omega) (by omega) (by rw [hz2]; omega) (by omega)
  rw [hz1, show ((n : Int)).toNat = n by omega, Nat.mul_one] at this
  exact this

set_option maxRecDepth 100000 in
set_option maxHeartbeats 1000000 in
theorem asTexts_any (ps : List (List Nat)) (pv : Value) (w : World) (hp : RowsAt w pv ps) (hlp : ps.length ≤ 100) :
    Calls Tryd.prog 73 #[pv] w fun e w' => ∃ b, w.heap.size ≤ b ∧ e = .returned (.slice (some ⟨b, 0, none⟩) ps.length ps.length) ∧ Blk w' b 9 (strV (ps.map mkS)) ∧ Below w.heap.size w w' := by
  obtain ⟨pao, pcap, rfl, hpc⟩ := hp
  have hmk := fun w => make_strN ps.length (by omega) w
  have HPC : Hid (ps = [] ∨ ∃ b off, pao = some ⟨b, off, none⟩ ∧ b < w.heap.size ∧ ∀ k, (h : k < ps.length) → ∃ u, w.cell? ⟨b, off + k, none⟩ = some u ∧ BsAt w u ps[k]) := hpc
  have HTL : Hid ((ps.map mkS).length = ps.length) := List.length_map mkS
  clear hpc
  go_enter Tryd.func73, Tryd.ntmps73
  go_wp2
  go_loopw [11] (fun i wr => ∃ k : Nat, k ≤ ps.length ∧ i = .int .i64 k ∧ Blk wr w.heap.size 9 (strV (mix (ps.map mkS) (List.replicate ps.length ByteArray.empty) k)) ∧ Below w.heap.size w wr) (fun i _ => ps.length - (intOf i).toNat)
  case atStart =>
    refine ⟨0, Nat.zero_le _, rfl, (Blk.new w _ _).eq ?_, (Below.refl _ _).alloc (Nat.le_refl _) _⟩
    rw [toList_madeCells_one, mix_zero]; simp [strV]
  case round =>
    obtain ⟨k, hk, rfl, hblk, hbel⟩ := hrel
    by_cases hlt : k < ps.length
    · obtain ⟨b, off, rfl, hb, hc⟩ : ∃ b off, pao = some ⟨b, off, none⟩ ∧ b < w.heap.size ∧ ∀ k, (h : k < ps.length) → ∃ u, w.cell? ⟨b, off + k, none⟩ = some u ∧ BsAt w u ps[k] := by
        rcases HPC.out with h | h
        · rw [h] at hlt; simp at hlt
        · exact h
      obtain ⟨u, hu, hbs⟩ := hc k hlt
      rw [← hbel.cell (p := ⟨b, off + k, none⟩) hb] at hu
      have HBS : Hid (BsAt wr u ps[k]) := hbs.to hbel
      have hl1 : k < (strV (mix (ps.map mkS) (List.replicate ps.length ByteArray.empty) k)).length := by simp [strV, mix_length, HTL.out]; omega
      have hc1 := hblk.cell_some (List.getElem?_eq_getElem hl1)
      have hf1 := hblk.free k
      generalize (strV (mix (ps.map mkS) (List.replicate ps.length ByteArray.empty) k))[k] = old at hc1
      have HB : Hid (Blk wr w.heap.size 9 (strV (mix (ps.map mkS) (List.replicate ps.length ByteArray.empty) k))) := hblk
      have hBlt := hblk.lt
      clear hc hbs hblk hl1
      go_wp2_with (refine wpList_convert _ rfl 93 9 _ rfl u (.string (mkS ps[k])) rfl (conv_str _ _ _ HBS.out) ?_)
      go_roundw
      case rel =>
        refine ⟨k + 1, by omega, by go_num, ?_, ?_⟩
        · refine ((HB.out.set k _)).eq ?_
          have e := strs_step (ps.map mkS) ps.length k HTL.out (by omega)
          rw [← e]
          simp
        · exact hbel.setCell (Nat.le_refl _) _
      case measure => simp [intOf]; omega
    · obtain rfl : k = ps.length := by omega
      go_wp2
      go_ret
      refine ⟨w.heap.size, Nat.le_refl _, rfl, hblk.eq ?_, hbel⟩
      have e := mix_all (new := ps.map mkS) (old := List.replicate ps.length ByteArray.empty) (by simp)
      simp only [List.length_replicate] at e
      rw [e]
end Go.Proofs.YtlnpppdffhibjaaDoor.Parts

namespace Go.Proofs.YtlnpppdffhibjaaDoor.Parts
open Go.RowKit Mem FieldWalks Tab ByTab

theorem infoRow8 : (Tryd.prog.info? 93).map (fun i => (i.zero, i.size, i.bytes)) = some (some (.slice none 0 0), 1, 24) := by kernel_rfl

set_option maxRecDepth 100000 in
theorem grow_any (n : Nat) (hn : n ≤ 200) (w : World) :
    Calls Tryd.prog 88 #[.slice none 0 0, .int .i64 n] w fun e w' => ∃ v, e = .returned v ∧ w'.ownsRow w.heap.size 93 1 v 0 [] ∧ Below w.heap.size w w' := by
  by_cases h0 : n = 0
  · subst h0
    go_enter Tryd.func88, Tryd.ntmps88
    go_wp2
    go_ret
    exact ⟨_, rfl, World.ownsRow_nil _ _ _ _, Below.refl _ _⟩
  · obtain ⟨i0, hi, hz0, hz1, hz2⟩ := info_parts infoRow8
    have hr := Lib.run_append_nil_zeros (P := Tryd.prog) w 91 3 91 93 i0 (.slice none 0 0) .i64 .i64 Tryd.underlying91 Tryd.underlying3 hi hz0 n (by omega) (by omega) (by omega) (by rw [hz2]; omega)
    have hge := grownCap_ge w n 0 93
    have hle := grownCap_le_maxLen w n 0 93 (by unfold maxLen; omega)
    generalize grownCap w n 0 93 = cap at hr hge hle
    have HLE : Hid (cap ≤ maxLen) := hle
    clear hle hi hz0 hz1 hz2
    go_enter Tryd.func88, Tryd.ntmps88
    go_wp2_with (at_builtin; refine Lib.wpList_append_run _ rfl _ _ _ _ rfl _ _ rfl rfl _ _ hr ?_)
    go_ret
    refine ⟨_, rfl, ⟨rfl, .inr ⟨w.heap.size, cap, _, rfl, Nat.le_refl _, heap_alloc_new w.drew _, Nat.zero_le _, HLE.out, ?_, ?_⟩⟩, (Below.refl _ _).drew.alloc (Nat.le_refl _) _⟩
    · simp only [Array.size_append, size_zeroCells]
      simp; omega
    · simp

/-- The slice v reads as these lists of rows. -/
def RowssAt (w : World) (v : Value) (R : List (List (List Nat))) : Prop :=
  ∃ b cap, v = .slice (some ⟨b, 0, none⟩) R.length cap ∧ b < w.heap.size ∧ ∀ k, (h : k < R.length) → ∃ u, w.cell? ⟨b, k, none⟩ = some u ∧ RowsAt w u R[k]

theorem run_loadCells_none' {P : Program} (w : World) (a : Addr) : (loadCells a 0).run P w = .ok #[] w := run_loadCells_list (P := P) w a [] (fun j u hu => by simp at hu)
theorem run_append_empty {P : Program} (w : World) (base : Nat) (t ty e : TypeId) (i : TypeInfo) (size : Nat) (ht : P.underlying t = some (.slice e)) (hi : P.info? e = some i)
    (v : Value) (n : Nat) (xs : List Value) (hown : w.ownsRow base e size v n xs) (ao : Option Addr) (c : Nat) :
    (Builtin.append_ #[t, t] ty #[v, .slice ao 0 c]).run P w = .ok v w := by
  rcases hown.2 with ⟨rfl, rfl⟩ | ⟨g, cap, cur, rfl, _, _, hnc, _⟩ <;> cases ao
  · simp [Builtin.append_, run_underlying ht, sizeOf, typeInfo, hi, Builtin.lenOf, Builtin.firstCells]
  · simp [Builtin.append_, run_underlying ht, sizeOf, typeInfo, hi, Builtin.lenOf, Builtin.firstCells, run_loadCells_none']
  · simp [Builtin.append_, run_underlying ht, sizeOf, typeInfo, hi, Builtin.lenOf, Builtin.firstCells, hnc, storeCells]
  · simp [Builtin.append_, run_underlying ht, sizeOf, typeInfo, hi, Builtin.lenOf, Builtin.firstCells, hnc, storeCells, run_loadCells_none']

theorem flat_next {α : Type} (R : List (List α)) (k : Nat) (h : k < R.length) : (R.take (k + 1)).flatten = (R.take k).flatten ++ R[k] := by
  rw [List.take_add_one, List.getElem?_eq_getElem h, List.flatten_append]; simp
theorem flat_le {α : Type} (R : List (List α)) (k : Nat) : (R.take k).flatten.length ≤ R.flatten.length := by
  have e : R.flatten = (R.take k).flatten ++ (R.drop k).flatten := by rw [← List.flatten_append, List.take_append_drop]
  rw [e, List.length_append]; omega

/-- The cells of rows. -/
theorem rows_cells {w : World} {b off : Nat} {rows : List (List Nat)} (h : ∀ k, (h : k < rows.length) → ∃ u, w.cell? ⟨b, off + k, none⟩ = some u ∧ BsAt w u rows[k]) :
    ∃ us : List Value, us.length = rows.length ∧ (∀ k u, us[k]? = some u → w.cell? ⟨b, off + k, none⟩ = some u) ∧ ∀ k, (h : k < rows.length) → ∃ u, us[k]? = some u ∧ BsAt w u rows[k] := by
  induction rows generalizing off with
  | nil => exact ⟨[], rfl, fun k u hu => by simp at hu, fun k hk => by simp at hk⟩
  | cons r rows ih =>
    obtain ⟨u0, hu0, hb0⟩ := h 0 (by simp)
    obtain ⟨us, hl, hc, hr⟩ := ih (off := off + 1) (fun k hk => by
      obtain ⟨u, hu, hb⟩ := h (k + 1) (by simpa using hk)
      exact ⟨u, by rw [show off + 1 + k = off + (k + 1) by omega]; exact hu, by simpa using hb⟩)
    refine ⟨u0 :: us, by simp [hl], fun k u hu => ?_, fun k hk => ?_⟩
    · cases k with
      | zero => simp at hu; subst hu; exact hu0
      | succ k => rw [show off + (k + 1) = off + 1 + k by omega]; exact hc k u (by simpa using hu)
    · cases k with
      | zero => exact ⟨u0, rfl, by simpa using hb0⟩
      | succ k => simpa using hr k (by simpa using hk)
theorem one_of_bs {w : World} {u : Value} {l : List Nat} (h : BsAt w u l) : u.oneCell' = true := by
  obtain ⟨ao, cap, rfl, _⟩ := h; rfl

/-- Values that read as rows. -/
def ReadAs (w : World) (us : List Value) (rows : List (List Nat)) : Prop := us.length = rows.length ∧ ∀ k, (h : k < rows.length) → ∃ u, us[k]? = some u ∧ BsAt w u rows[k]
theorem ReadAs.append {w : World} {us vs : List Value} {a b : List (List Nat)} (h : ReadAs w us a) (k : ReadAs w vs b) : ReadAs w (us ++ vs) (a ++ b) := by
  refine ⟨by simp [h.1, k.1], fun i hi => ?_⟩
  by_cases hl : i < a.length
  · obtain ⟨u, hu, hb⟩ := h.2 i hl
    refine ⟨u, by rw [List.getElem?_append_left (by rw [h.1]; exact hl)]; exact hu, by rw [List.getElem_append_left hl]; exact hb⟩
  · obtain ⟨u, hu, hb⟩ := k.2 (i - a.length) (by simp at hi; omega)
    refine ⟨u, by rw [List.getElem?_append_right (by rw [h.1]; omega), h.1]; exact hu, by rw [List.getElem_append_right (by omega)]; exact hb⟩
theorem ReadAs.rows {w w' : World} {base : Nat} {v : Value} {us : List Value} {rows : List (List Nat)} (h : ReadAs w us rows) (ho : w'.ownsRow base 93 1 v rows.length us) (hb : Below w.heap.size w w') : RowsAt w' v rows := by
  obtain ⟨hl, h2⟩ := ho
  rcases h2 with ⟨rfl, h0⟩ | ⟨g, cap, cur, rfl, hg, hh, _, _, _, ht⟩
  · exact ⟨none, 0, by rw [h0], .inl (List.eq_nil_of_length_eq_zero h0)⟩
  · refine ⟨_, cap, rfl, .inr ⟨g, 0, rfl, lt_of_block hh, fun k hk => ?_⟩⟩
    obtain ⟨u, hu, hbs⟩ := h.2 k hk
    refine ⟨u, ?_, hbs.to hb⟩
    rw [Nat.zero_add, cell_of_row w' g k cur 93 (0, 0) hh]
    rw [Nat.mul_one] at ht
    rw [← ht, List.getElem?_take_of_lt hk] at hu
    simpa using hu

set_option maxRecDepth 100000 in
set_option maxHeartbeats 1000000 in
theorem concat_any (R : List (List (List Nat))) (v : Value) (w : World) (hv : RowssAt w v R) (hR : R.length ≤ 100) (hF : R.flatten.length ≤ 200) :
    Calls Tryd.prog 76 #[v] w fun e w' => ∃ v', e = .returned v' ∧ RowsAt w' v' R.flatten ∧ Below w.heap.size w w' := by
  obtain ⟨b, cap, rfl, hb, hc⟩ := hv
  have HC : Hid (∀ k, (h : k < R.length) → ∃ u, w.cell? ⟨b, k, none⟩ = some u ∧ RowsAt w u R[k]) := hc
  have HF : Hid (R.flatten.length ≤ 200) := hF
  obtain ⟨i0, hi, hz0, hz1, hz2⟩ := info_parts infoRow8
  have HI : Hid (Tryd.prog.info? 93 = some i0 ∧ i0.zero = some (.slice none 0 0) ∧ i0.size = 1 ∧ i0.bytes = 24) := ⟨hi, hz0, hz1, hz2⟩
  clear hc hF hi hz0 hz1 hz2
  go_enter Tryd.func76, Tryd.ntmps76
  go_wp2
  go_loop [3, 11] (fun t i => ∃ k n : Nat, k ≤ R.length ∧ i = .int .i64 k ∧ t = .int .i64 n ∧ n = (R.take k).flatten.length) (fun _ i => R.length - (intOf i).toNat)
  case atStart => exact ⟨0, 0, Nat.zero_le _, rfl, rfl, by simp⟩
  case round =>
    obtain ⟨k, n, hk, rfl, rfl, hn⟩ := hrel
    have hn2 : n ≤ 200 := by rw [hn]; exact Nat.le_trans (flat_le R k) HF.out
    have HN : Hid (n = (R.take k).flatten.length) := hn
    clear hn
    by_cases hlt : k < R.length
    · obtain ⟨u, hu, ao, c, rfl, hr⟩ := HC.out k hlt
      have hm : n + R[k].length ≤ 200 := by
        have := flat_le R (k + 1)
        rw [flat_next R k hlt, List.length_append, ← HN.out] at this
        exact Nat.le_trans this HF.out
      have HM : Hid (n + R[k].length = (R.take (k + 1)).flatten.length) := by
        show _ = _
        rw [flat_next R k hlt, List.length_append, ← HN.out]
      clear hr
      generalize R[k].length = m at hu hm HM
      go_wp2
      go_round
      case rel => exact ⟨k + 1, n + m, by omega, by go_num, by go_num, HM.out⟩
      case measure => simp [intOf]; omega
    · obtain rfl : k = R.length := by omega
      go_wp2_with fail
      refine (grow_any n hn2 w).mono ?_
      rintro e w1 ⟨v1, rfl, hown1, hb1⟩
      go_wp2
      go_loopw [6, 27] (fun t i wr => ∃ k us, k ≤ R.length ∧ i = .int .i64 (k : Nat) ∧ wr.ownsRow w.heap.size 93 1 t us.length us ∧ ReadAs w us (R.take k).flatten ∧ Below w.heap.size w wr) (fun _ i _ => R.length - (intOf i).toNat)
      case atStart => exact ⟨0, [], Nat.zero_le _, rfl, hown1, ⟨by simp, fun k hk => by simp at hk⟩, hb1⟩
      case round =>
        clear hown1 hb1
        obtain ⟨k, us, hk, rfl, hown, hread, hbel⟩ := hrel
        by_cases hlt : k < R.length
        · obtain ⟨u, hu, ao, c, rfl, hr⟩ := HC.out k hlt
          rw [← hbel.cell (p := ⟨b, k, none⟩) hb] at hu
          have HOWN : Hid (wr.ownsRow w.heap.size 93 1 u6 us.length us) := hown
          have hul : us.length + R[k].length ≤ 200 := by
            have := flat_le R (k + 1)
            rw [flat_next R k hlt, List.length_append, ← hread.1] at this
            exact Nat.le_trans this HF.out
          have HREAD : Hid (ReadAs w us (R.take k).flatten) := hread
          have HFN : Hid ((R.take (k + 1)).flatten = (R.take k).flatten ++ R[k]) := flat_next R k hlt
          clear hown hread
          by_cases h0 : R[k] = []
          · have hrun := run_append_empty (P := Tryd.prog) wr w.heap.size 91 91 93 i0 1 Tryd.underlying91 HI.out.1 u6 us.length us HOWN.out ao c
            rw [h0, List.length_nil] at hu
            have HFN2 : Hid ((R.take (k + 1)).flatten = (R.take k).flatten) := by rw [HFN.out, h0]; exact List.append_nil _
            clear hr HFN h0 hul
            go_wp2_with (at_builtin; refine Lib.wpList_append_run _ rfl _ _ _ _ rfl _ _ rfl rfl _ _ hrun ?_)
            go_roundw
            case rel => exact ⟨k + 1, us, by omega, by go_num, HOWN.out, by rw [HFN2.out]; exact HREAD.out, hbel⟩
            case measure => simp [intOf]; omega
          · obtain ⟨rb, off, rfl, hrb, hrc⟩ : ∃ b off, ao = some ⟨b, off, none⟩ ∧ b < w.heap.size ∧ ∀ j, (h : j < R[k].length) → ∃ u, w.cell? ⟨b, off + j, none⟩ = some u ∧ BsAt w u R[k][j] := by
              rcases hr with h | h
              · exact absurd h h0
              · exact h
            obtain ⟨vs, hvl, hvc, hvr⟩ := rows_cells hrc
            have HNEW : Hid (∀ j u, vs[j]? = some u → wr.cell? ((⟨rb, off, none⟩ : Addr).add j) = some u) := fun j u hu => by
              rw [Addr.add_lit, hbel.cell (p := ⟨rb, off + j, none⟩) hrb]; exact hvc j u hu
            have HONE : Hid (∀ u ∈ vs, u.oneCell' = true) := fun u hu => by
              obtain ⟨j, hj, e⟩ := List.mem_iff_getElem.1 hu
              obtain ⟨u', hu', hb'⟩ := hvr j (by omega)
              rw [List.getElem?_eq_getElem hj, Option.some.injEq] at hu'
              rw [← e, hu']; exact one_of_bs hb'
            have HVR : Hid (ReadAs w vs R[k]) := ⟨hvl, hvr⟩
            have HVL : Hid (vs.length = R[k].length * 1) := by rw [Nat.mul_one]; exact hvl
            clear hr hrc hvl hvc hvr h0
            generalize R[k] = rk at hu hul HFN HVR HVL
            have hsz := hbel.size
            go_wp2_with ((at_builtin; refine wpList_append_own _ rfl _ _ 91 rfl w.heap.size 93 i0 (.slice none 0 0) 1 24 Tryd.underlying91 HI.out.1 HI.out.2.1 HI.out.2.2.1 HI.out.2.2.2 rfl (by decide) u6 us.length us rfl HOWN.out ⟨rb, off, none⟩ rk.length c vs rfl HVL.out HNEW.out HONE.out (by unfold maxLen; omega) (by omega) hsz ?_); intro v' w2 hown2 hg2 _)
            have hb2 := below_grown hbel HOWN.out hg2 hsz (Nat.le_refl _)
            have HO2 : Hid (w2.ownsRow w.heap.size 93 1 v' (us ++ vs).length (us ++ vs)) := by
              rw [List.length_append, HVR.out.1]; exact hown2
            clear hown2 hg2
            go_wp2
            go_roundw
            case rel => exact ⟨k + 1, us ++ vs, by omega, by go_num, HO2.out, by rw [HFN.out]; exact HREAD.out.append HVR.out, hb2⟩
            case measure => simp [intOf]; omega
        · obtain rfl : k = R.length := by omega
          rw [List.take_length] at hread
          have HOWN : Hid (wr.ownsRow w.heap.size 93 1 u6 us.length us) := hown
          have HREAD : Hid (ReadAs w us R.flatten) := hread
          clear hown hread
          go_wp2
          go_ret
          refine ⟨_, rfl, ?_, hbel⟩
          have h1 := HOWN.out
          have h2 := HREAD.out
          rw [h2.1] at h1
          exact h2.rows h1 hbel
end Go.Proofs.YtlnpppdffhibjaaDoor.Parts

namespace Go.Proofs.YtlnpppdffhibjaaDoor.Top
open Go.RowKit Mem FieldWalks Tab ByTab Parts
open Gf (Bytes)

/-- What Sums is asked: in each of the three ways the sums. -/
def SumsOk : Prop := ∀ (x : Nat) (rows ps : List (List Nat)) (L : Nat) (rv pv : Value) (w : World), x ≤ 2 → Table w → RowsAt w rv rows → RowsC w pv ps → Fit rows ps L →
  Calls Tryd.prog 75 #[.int .i64 x, rv, pv] w fun e w' => ∃ v, e = .returned v ∧ RowsC w' v (sums rows ps L) ∧ Below w.heap.size w w'

/-- All pieces of a text, as strings. -/
def pieces (d s : Nat) (str : ByteArray) : List ByteArray :=
  texts (cuts (nums str) d ((str.size + d - 1) / d)) (sums (facs d s) (cuts (nums str) d ((str.size + d - 1) / d)) ((str.size + d - 1) / d))
theorem pieces_length (d s : Nat) (str : ByteArray) : (pieces d s str).length = d + s := by simp [pieces, texts, cuts, sums, facs]
theorem fit (d s : Nat) (str : ByteArray) (hd : 1 ≤ d) (hd2 : d ≤ 10) (hs : s ≤ 6) (hn : str.size ≤ 400) : Fit (facs d s) (cuts (nums str) d ((str.size + d - 1) / d)) ((str.size + d - 1) / d) := by
  have hL := ceil_le str.size d hd
  refine ⟨by simp [cuts]; omega, by simp [cuts]; omega, by simp [facs]; omega, fun j hj => by simp [cuts, cutAt], fun i hi => by simp [cuts, facs, facRow], fun i hi => ?_, fun j hj => Ref.cuts_bytes _ _ _ _ (nums_bytes _) _, by omega⟩
  simp only [facs, List.length_map, List.length_range] at hi
  simp only [facs, List.getElem_map, List.getElem_range]
  exact Ref.facRow_bytes _ _ (by omega)

theorem infoRows8 : (Tryd.prog.info? 91).map (fun i => (i.zero, i.size, i.bytes)) = some (some (.slice none 0 0), 1, 24) := by kernel_rfl
set_option maxRecDepth 100000 in
set_option maxHeartbeats 1000000 in
theorem whole_any (hS : SumsOk) (d s x : Nat) (ps : List (List Nat)) (L : Nat) (cv : Value) (hl : ps.length = d) (hd2 : d ≤ 10) (hs : s ≤ 6) (hx : x ≤ 2) (hfit : Fit (facs d s) ps L) (w : World) (ht : Table w) (hcut : RowsC w cv ps) :
    Calls Tryd.prog 58 #[.int .i64 s, .int .i64 x, cv] w fun e w' =>
      ∃ b, w.heap.size ≤ b ∧ e = .returned (.slice (some ⟨b, 0, none⟩) (d + s) (d + s)) ∧ Blk w' b 9 (strV (texts ps (sums (facs d s) ps L))) ∧ Below w.heap.size w w' := by
  have HFIT : Hid (Fit (facs d s) ps L) := hfit
  have HCUT : Hid (RowsC w cv ps) := hcut
  obtain ⟨ao, ex, rfl, _⟩ := hcut
  rw [hl] at HCUT ⊢
  generalize d + ex = c at HCUT ⊢
  have HL : Hid (ps.length = d) := hl
  clear hfit hl
  go_enter Tryd.func58, Tryd.ntmps58
  go_wp2_with fail
  refine (factors_any d s (by omega) (by omega) _ ht).mono ?_
  rintro e w2 ⟨fv, rfl, hfac, hb2⟩
  have hcut2 := HCUT.out.to hb2
  go_wp2_with fail
  refine (hS x _ _ _ fv (.slice ao d c) _ hx (table_to ht hb2) hfac hcut2 HFIT.out).mono ?_
  rintro e w3 ⟨sv, rfl, hsum, hb3⟩
  have hb13 := hb2.trans (hb3.mono hb2.size)
  have HCUT3 : Hid (RowsAt w3 (.slice ao d c) ps) := (hcut2.to hb3).rows
  have HSUM : Hid (RowsAt w3 sv (sums (facs d s) ps L)) := hsum.rows
  obtain ⟨sao, sc, hsv, _⟩ := hsum.rows
  subst hsv
  have hsl : (sums (facs d s) ps L).length = s := by simp [sums, facs]
  rw [hsl] at HSUM
  rw [hsl]
  have HSL : Hid ((sums (facs d s) ps L).length = s) := hsl
  obtain ⟨i1, hi, hz0, hz1, hz2⟩ := info_parts infoRows8
  clear hfac hcut2 hb2 hb3 hsl hsum
  have hb34 : Below w3.heap.size w3 (w3.alloc (.cells #[.slice ao d c, .slice sao s sc] 91)) := (Below.refl _ _).alloc (Nat.le_refl _) _
  have HBN : Hid (Blk (w3.alloc (.cells #[.slice ao d c, .slice sao s sc] 91)) w3.heap.size 91 [.slice ao d c, .slice sao s sc]) := Blk.new w3 #[.slice ao d c, .slice sao s sc] 91
  have HR : Hid (RowssAt (w3.alloc (.cells #[.slice ao d c, .slice sao s sc] 91)) (.slice (some ⟨w3.heap.size, 0, none⟩) 2 2) [ps, sums (facs d s) ps L]) := by
    refine ⟨_, _, rfl, HBN.out.lt, fun k hk => ?_⟩
    match k, hk with
    | 0, _ => exact ⟨_, HBN.out.cell_some rfl, HCUT3.out.to hb34⟩
    | 1, _ => exact ⟨_, HBN.out.cell_some rfl, HSUM.out.to hb34⟩
  have HB34 : Hid (Below w.heap.size w (w3.alloc (.cells #[.slice ao d c, .slice sao s sc] 91))) := hb13.trans (hb34.mono hb13.size)
  have hfl : [ps, sums (facs d s) ps L].flatten.length = d + s := by simp [HL.out, HSL.out]
  have HFL : Hid ([ps, sums (facs d s) ps L].flatten.length = d + s) := hfl
  clear hb34 hfl
  go_wp2_with fail
  refine (concat_any _ _ _ HR.out (by simp) (by rw [HFL.out]; omega)).mono ?_
  rintro e w5 ⟨v5, rfl, hrows, hb5⟩
  have hb15 := HB34.out.trans (hb5.mono HB34.out.size)
  have HROWS : Hid (RowsAt w5 v5 [ps, sums (facs d s) ps L].flatten) := hrows
  clear hrows hb5 hb13
  go_wp2_with fail
  refine (asTexts_any _ v5 _ HROWS.out (by rw [HFL.out]; omega)).mono ?_
  rintro e w6 ⟨b, hb, rfl, hblk, hb6⟩
  rw [HFL.out]
  have HBLK : Hid (Blk w6 b 9 (strV (texts ps (sums (facs d s) ps L)))) := by
    have : [ps, sums (facs d s) ps L].flatten = ps ++ sums (facs d s) ps L := by simp
    rw [this] at hblk; exact hblk
  clear hblk
  go_wp2
  go_ret
  exact ⟨b, Nat.le_trans hb15.size hb, rfl, HBLK.out, hb15.trans (hb6.mono hb15.size)⟩

set_option maxRecDepth 100000 in
set_option maxHeartbeats 1000000 in
theorem pSpread_any (hS : SumsOk) (d s x : Nat) (str : ByteArray) (hd : 1 ≤ d) (hd2 : d ≤ 10) (hs : s ≤ 6) (hx : x ≤ 2) (hn : str.size ≤ 400) (w : World) (ht : Table w) :
    Calls Tryd.prog 41 #[.int .i64 d, .int .i64 s, .int .i64 x, .string str] w fun e w' =>
      ∃ b, w.heap.size ≤ b ∧ e = .returned (.slice (some ⟨b, 0, none⟩) (d + s) (d + s)) ∧ Blk w' b 9 (strV (pieces d s str)) ∧ Below w.heap.size w w' := by
  have hfit := fit d s str hd hd2 hs hn
  have HFIT : Hid (Fit (facs d s) (cuts (nums str) d ((str.size + d - 1) / d)) ((str.size + d - 1) / d)) := hfit
  clear hfit
  go_enter Tryd.func41, Tryd.ntmps41
  go_wp2_with fail
  refine (cut_any d str hd (by omega) (by omega) _ rfl _).mono ?_
  rintro e w1 ⟨cv, rfl, hcut, hb1⟩
  go_wp2_with fail
  refine (whole_any hS d s x (cuts (nums str) d ((str.size + d - 1) / d)) ((str.size + d - 1) / d) cv (by simp [cuts]) hd2 hs hx HFIT.out _ (table_to ht hb1) hcut).mono ?_
  rintro e w4 ⟨b, hb, rfl, hblk, hb4⟩
  have HBLK : Hid (Blk w4 b 9 (strV (pieces d s str))) := hblk
  clear hblk hcut
  go_wp2
  go_ret
  exact ⟨b, Nat.le_trans hb1.size hb, rfl, HBLK.out, hb1.trans (hb4.mono hb1.size)⟩

/-- What Spread answers with an error. -/
def spreadE (d s x : Int) (n : Nat) : Int := if okCounts d s = true then (if okWay x = true then (if 400 < n then 5 else 0) else 4) else 3

set_option maxRecDepth 100000 in
set_option maxHeartbeats 1000000 in
theorem wSpread_ok (hS : SumsOk) (d s x : Nat) (str : ByteArray) (hd : 1 ≤ d) (hd2 : d ≤ 10) (hs : s ≤ 6) (hx : x ≤ 2) (hn : str.size ≤ 400) (w : World) (ht : Table w) :
    Calls Tryd.prog 19 #[.int .i64 d, .int .i64 s, .int .i64 x, .string str] w fun e w' =>
      ∃ b, w.heap.size ≤ b ∧ e = .returned (.tuple #[.slice (some ⟨b, 0, none⟩) (d + s) (d + s), .int .i64 0]) ∧ Blk w' b 9 (strV (pieces d s str)) ∧ Below w.heap.size w w' := by
  have hok : okCounts d s = true := okCounts_yes _ _ (by omega)
  have how : okWay x = true := okWay_yes _ (by omega)
  go_enter Tryd.func19, Tryd.ntmps19
  go_wp2_with fail
  refine (areCounts_any _ _ _).mono ?_
  rintro e w' ⟨rfl, rfl⟩
  go_wp2_with fail
  refine (isWay_any _ _).mono ?_
  rintro e w' ⟨rfl, rfl⟩
  go_wp2_with fail
  refine (pSpread_any hS d s x str hd hd2 hs hx hn _ ht).mono ?_
  rintro e w1 ⟨b, hb, rfl, hblk, hb1⟩
  go_wp2
  go_ret2
  exact ⟨b, hb, rfl, hblk, hb1⟩
set_option maxRecDepth 100000 in
theorem wSpread_no (d s x : Int) (str : ByteArray) (hlen : str.size ≤ maxLen) (hE : spreadE d s x str.size ≠ 0) (w : World) :
    Calls Tryd.prog 19 #[.int .i64 d, .int .i64 s, .int .i64 x, .string str] w fun e w' =>
      e = .returned (.tuple #[.slice none 0 0, .int .i64 (spreadE d s x str.size)]) ∧ w' = w := by
  unfold maxLen at hlen
  cases hok : okCounts d s
  · rw [show spreadE d s x str.size = 3 by simp [spreadE, hok]]
    clear hE
    go_enter Tryd.func19, Tryd.ntmps19
    go_wp2_with fail
    refine (areCounts_any _ _ _).mono ?_
    rintro e w' ⟨rfl, rfl⟩
    go_wp2
    go_ret2
    exact ⟨rfl, rfl⟩
  · cases how : okWay x
    · rw [show spreadE d s x str.size = 4 by simp [spreadE, hok, how]]
      clear hE
      go_enter Tryd.func19, Tryd.ntmps19
      go_wp2_with fail
      refine (areCounts_any _ _ _).mono ?_
      rintro e w' ⟨rfl, rfl⟩
      go_wp2_with fail
      refine (isWay_any _ _).mono ?_
      rintro e w' ⟨rfl, rfl⟩
      go_wp2
      go_ret2
      exact ⟨rfl, rfl⟩
    · have hbig : 400 < str.size := by
        by_cases h : 400 < str.size
        · exact h
        · exact absurd (by simp [spreadE, hok, how, h]) hE
      rw [show spreadE d s x str.size = 5 by simp [spreadE, hok, how, hbig]]
      clear hE
      go_enter Tryd.func19, Tryd.ntmps19
      go_wp2_with fail
      refine (areCounts_any _ _ _).mono ?_
      rintro e w' ⟨rfl, rfl⟩
      go_wp2_with fail
      refine (isWay_any _ _).mono ?_
      rintro e w' ⟨rfl, rfl⟩
      go_wp2
      go_ret2
      exact ⟨rfl, rfl⟩
set_option maxRecDepth 100000 in
theorem rSpread_no (d s x : Int) (str : ByteArray) (hlen : str.size ≤ maxLen) (hE : spreadE d s x str.size ≠ 0) (w : World) :
    Calls Tryd.prog 43 #[.int .i64 d, .int .i64 s, .int .i64 x, .string str] w fun e w' =>
      e = .returned (.tuple #[.slice none 0 0, .int .i64 (spreadE d s x str.size)]) ∧ w' = w := by
  unfold maxLen at hlen
  cases hok : okCounts d s
  · rw [show spreadE d s x str.size = 3 by simp [spreadE, hok]]
    clear hE
    go_enter Tryd.func43, Tryd.ntmps43
    go_wp2_with fail
    refine (rCounts_any _ _ _).mono ?_
    rintro e w' ⟨rfl, rfl⟩
    go_wp2
    go_ret2
    exact ⟨rfl, rfl⟩
  · cases how : okWay x
    · rw [show spreadE d s x str.size = 4 by simp [spreadE, hok, how]]
      clear hE
      go_enter Tryd.func43, Tryd.ntmps43
      go_wp2_with fail
      refine (rCounts_any _ _ _).mono ?_
      rintro e w' ⟨rfl, rfl⟩
      go_wp2_with fail
      refine (rWay_any _ _).mono ?_
      rintro e w' ⟨rfl, rfl⟩
      go_wp2
      go_ret2
      exact ⟨rfl, rfl⟩
    · have hbig : 400 < str.size := by
        by_cases h : 400 < str.size
        · exact h
        · exact absurd (by simp [spreadE, hok, how, h]) hE
      rw [show spreadE d s x str.size = 5 by simp [spreadE, hok, how, hbig]]
      clear hE
      go_enter Tryd.func43, Tryd.ntmps43
      go_wp2_with fail
      refine (rCounts_any _ _ _).mono ?_
      rintro e w' ⟨rfl, rfl⟩
      go_wp2_with fail
      refine (rWay_any _ _).mono ?_
      rintro e w' ⟨rfl, rfl⟩
      go_wp2
      go_ret2
      exact ⟨rfl, rfl⟩
end Go.Proofs.YtlnpppdffhibjaaDoor.Top

/- What follows (P12), in lists alone: pieces of a text fit it, and what Change makes of them are the changed text's. -/
namespace Go.Proofs.YtlnpppdffhibjaaDoor.Top
open Go.RowKit Mem FieldWalks Tab ByTab Parts Ref
open Gf (Bytes sumTo rowOf dot colOf Fits xs newP newD times inv)
open Plans (rowF)

theorem mkS_nums (s : ByteArray) : mkS (nums s) = s := by
  apply ByteArray.ext
  simp only [mkS, nums, List.map_map]
  have : (UInt8.ofNat ∘ UInt8.toNat) = id := by funext x; simp
  rw [this, List.map_id]
theorem nums_mkS (l : List Nat) (h : Bytes l) : nums (mkS l) = l := by
  simp only [mkS, nums, List.map_map]
  conv => rhs; rw [← List.map_id l]
  refine List.map_congr_left fun x hx => ?_
  have := h x hx
  simp [UInt8.toNat_ofNat']; omega
theorem cuts_length (l : List Nat) (d L : Nat) : (cuts l d L).length = d := by simp [cuts]
theorem cuts_size (l : List Nat) (d L j : Nat) (h : j < (cuts l d L).length) : (cuts l d L)[j].length = L := by simp [cuts, cutAt]
theorem colOf_cuts (l : List Nat) (d L t k : Nat) (ht : t < L) (hk : k < d) : colOf (cuts l d L) t k = l.getD (k * L + t) 0 := by
  unfold colOf cuts cutAt
  simp [hk, ht]
/-- The byte t of piece p of these data pieces. -/
theorem piece_dot (d s L : Nat) (ps : List (List Nat)) (hlen : ps.length = d) (hl : ∀ j, (h : j < ps.length) → ps[j].length = L) (hb : ∀ j, (h : j < ps.length) → Bytes ps[j]) (hds : d + s ≤ 256) (p : Nat) (hp : p < d + s) (t : Nat) (ht : t < L) :
    (nums ((texts ps (sums (facs d s) ps L)).getD p ByteArray.empty)).getD t 0 = dot d (rowOf d p) (colOf ps t) := by
  have hx := Gf.colOf_lt hb t
  by_cases hpd : p < d
  · have hpl : p < ps.length := by omega
    rw [Gf.dot_unit d p hpd _ fun k _ => hx k]
    have e : (texts ps (sums (facs d s) ps L)).getD p ByteArray.empty = mkS ps[p] := by
      unfold texts
      rw [List.getD_eq_getElem?_getD, List.getElem?_map, List.getElem?_append_left hpl, List.getElem?_eq_getElem hpl]; rfl
    rw [e, nums_mkS _ (hb p hpl)]
    simp [colOf, hpl]
  · obtain ⟨i, rfl⟩ : ∃ i, p = d + i := ⟨p - d, by omega⟩
    have hi : i < s := by omega
    have e : (texts ps (sums (facs d s) ps L)).getD (d + i) ByteArray.empty = mkS (sumTo (facRow d i) ps L ps.length) := by
      unfold texts
      rw [List.getD_eq_getElem?_getD, List.getElem?_map, List.getElem?_append_right (by omega), hlen]
      simp [sums, facs, hi, hlen]
    rw [e, nums_mkS _ (Gf.sumTo_bytes _ ps L (facRow_bytes d i (by omega)) _), Gf.sumTo_dot _ ps L t hl ht _ (Nat.le_refl _), hlen]
    refine Gf.xs_congr fun k hk => ?_
    rw [show rowOf d (d + i) k = inv ((d + i) ^^^ k) by unfold rowOf; rw [if_neg (by omega)]]
    simp [facRow, hk]
/-- Pieces of a text, some of them spoilt: the text's data pieces fit those that are left. -/
theorem pieces_fit (d s : Nat) (str : ByteArray) (lost : List Int) (spoilt : List ByteArray) (hds : d + s ≤ 256) (hsp : ∀ p, p < d + s → (p : Int) ∉ lost → spoilt.getD p ByteArray.empty = (pieces d s str).getD p ByteArray.empty) :
    Fits d ((str.size + d - 1) / d) (Gf.chosen (Gf.left_ lost) d s) (fun p => nums (spoilt.getD p ByteArray.empty)) (cuts (nums str) d ((str.size + d - 1) / d)) := by
  have hb : ∀ j, (h : j < (cuts (nums str) d ((str.size + d - 1) / d)).length) → Bytes (cuts (nums str) d ((str.size + d - 1) / d))[j] := fun j h => cuts_bytes _ _ _ _ (nums_bytes _) _
  refine ⟨cuts_length _ _ _, cuts_size _ _ _, hb, fun p hp t ht => ?_⟩
  have h1 := Gf.chosen_lt _ _ _ _ hp
  rw [hsp p h1.1 (by simpa [Gf.left_] using h1.2)]
  exact (piece_dot d s _ _ (cuts_length _ _ _) (cuts_size _ _ _) hb hds p h1.1 t ht).symm
theorem flatten_cuts (l : List Nat) (L : Nat) : ∀ d, (cuts l d L).flatten = (List.range (d * L)).map fun i => l.getD i 0 := by
  intro d
  induction d with
  | zero => simp [cuts]
  | succ d ih =>
    have e : cuts l (d + 1) L = cuts l d L ++ [cutAt l L d] := by simp [cuts, List.range_succ]
    rw [e, List.flatten_append, ih, Nat.add_mul, Nat.one_mul, List.range_add, List.map_append]
    simp [cutAt]
theorem flatten_take (l : List Nat) (d L n : Nat) (hn : l.length = n) (h : n ≤ d * L) : (cuts l d L).flatten.take n = l := by
  rw [flatten_cuts]
  apply List.ext_getElem
  · simp; omega
  · intro i h1 h2
    simp [h2]
theorem pieces_sizes (d s : Nat) (str : ByteArray) (p : Nat) (hp : p < (pieces d s str).length) : (pieces d s str)[p].size = (str.size + d - 1) / d := by
  rw [pieces_length] at hp
  have key : ∀ (ps : List (List Nat)) (L : Nat) (hl : ∀ j, (h : j < ps.length) → ps[j].length = L), ps.length = d → ∀ q, (h : q < (texts ps (sums (facs d s) ps L)).length) → ((texts ps (sums (facs d s) ps L))[q]).size = L := by
    intro ps L hl hlen q h
    have hq : q < d + s := by simpa [texts, sums, facs, hlen] using h
    have h' : q < (ps ++ sums (facs d s) ps L).length := by simpa [texts] using h
    have e0 : (texts ps (sums (facs d s) ps L))[q] = mkS (ps ++ sums (facs d s) ps L)[q] := List.getElem_map _
    rw [e0, mkS_size]
    by_cases e : q < ps.length
    · rw [List.getElem_append_left e]; exact hl q e
    · rw [List.getElem_append_right (by omega)]
      simp only [sums, List.getElem_map]
      exact Gf.sumTo_length _ ps L hl _ (Nat.le_refl _)
  exact key _ _ (cuts_size _ _ _) (cuts_length _ _ _) p _

/-- A text, written over. -/
def overL (l : List Nat) (at_ : Nat) (t : List Nat) : List Nat := l.take at_ ++ t ++ l.drop (at_ + t.length)
theorem overL_length (l : List Nat) (at_ : Nat) (t : List Nat) (h : at_ + t.length ≤ l.length) : (overL l at_ t).length = l.length := by simp [overL]; omega
theorem overL_getD (l : List Nat) (at_ : Nat) (t : List Nat) (h : at_ + t.length ≤ l.length) (i : Nat) : (overL l at_ t).getD i 0 = if at_ ≤ i ∧ i < at_ + t.length then t.getD (i - at_) 0 else l.getD i 0 := by
  unfold overL
  simp only [List.getD_eq_getElem?_getD, List.append_assoc]
  by_cases h1 : i < at_
  · rw [List.getElem?_append_left (by simp; omega), if_neg (by omega), List.getElem?_take_of_lt h1]
  · rw [List.getElem?_append_right (by simp; omega)]
    have e : (l.take at_).length = at_ := by simp; omega
    rw [e]
    by_cases h2 : i < at_ + t.length
    · rw [List.getElem?_append_left (by omega), if_pos (by omega)]
    · rw [List.getElem?_append_right (by omega), if_neg (by omega), List.getElem?_drop, show at_ + t.length + (i - at_ - t.length) = i by omega]
theorem newD_cuts (d L at_ : Nat) (str str2 t : ByteArray) (old : Nat → Nat → Nat) (h : at_ + t.size ≤ str.size) (h2 : nums str2 = overL (nums str) at_ (nums t)) (j : Nat) (hj : j < d) (u : Nat) (hu : u < L) (ho : old j u = colOf (cuts (nums str) d L) u j) :
    newD L at_ (nums t) t.size old j u = colOf (cuts (nums str2) d L) u j := by
  rw [colOf_cuts _ _ _ _ _ hu hj] at ho ⊢
  rw [h2, overL_getD _ _ _ (by rw [nums_length, nums_length]; exact h), nums_length]
  unfold newD
  rw [ho]
/-- ████ What Change makes of a text's pieces are the changed text's. ████ -/
theorem change_pieces (d s at_ : Nat) (str str2 t : ByteArray) (hds : d + s ≤ 256) (h : at_ + t.size ≤ str.size) (h2 : nums str2 = overL (nums str) at_ (nums t)) :
    ((List.range (d + s)).map fun p => mkS (rowF ((str.size + d - 1) / d) (newP d ((str.size + d - 1) / d) at_ (nums t) t.size (oldOf (pieces d s str)) p))) = pieces d s str2 := by
  have hsz : str2.size = str.size := by rw [← nums_length, h2, overL_length _ _ _ (by rw [nums_length, nums_length]; exact h), nums_length]
  obtain ⟨L, hL⟩ : ∃ L, L = (str.size + d - 1) / d := ⟨_, rfl⟩
  have hL2 : (str2.size + d - 1) / d = L := by rw [hsz, hL]
  have hb : ∀ (l : List Nat), Bytes l → ∀ j, (h : j < (cuts l d L).length) → Bytes (cuts l d L)[j] := fun l hl j h => cuts_bytes _ _ _ _ hl _
  have dot1 : ∀ p, p < d + s → ∀ u, u < L → oldOf (pieces d s str) p u = dot d (rowOf d p) (colOf (cuts (nums str) d L) u) := fun p hp u hu => by
    unfold oldOf pieces
    rw [← hL]
    exact piece_dot d s L _ (cuts_length _ _ _) (cuts_size _ _ _) (hb _ (nums_bytes _)) hds p hp u hu
  have dot2 : ∀ p, p < d + s → ∀ u, u < L → (nums ((pieces d s str2).getD p ByteArray.empty)).getD u 0 = dot d (rowOf d p) (colOf (cuts (nums str2) d L) u) := fun p hp u hu => by
    unfold pieces
    rw [hL2]
    exact piece_dot d s L _ (cuts_length _ _ _) (cuts_size _ _ _) (hb _ (nums_bytes _)) hds p hp u hu
  have old1 : ∀ j, j < d → ∀ u, u < L → oldOf (pieces d s str) j u = colOf (cuts (nums str) d L) u j := fun j hj u hu => by
    rw [dot1 j (by omega) u hu, Gf.dot_unit d j hj _ fun k _ => Gf.colOf_lt (hb _ (nums_bytes _)) u k]
  rw [← hL]
  apply List.ext_getElem
  · rw [pieces_length]; simp
  · intro p h1 h3
    have hp : p < d + s := by rw [pieces_length] at h3; exact h3
    have e3 : (pieces d s str2).getD p ByteArray.empty = (pieces d s str2)[p] := by simp [h3]
    rw [List.getElem_map, List.getElem_range, ← mkS_nums (pieces d s str2)[p]]
    congr 1
    apply List.ext_getElem
    · rw [nums_length, pieces_sizes, hL2]; simp
    · intro u h4 h5
      have hu : u < L := by simpa using h4
      have e4 := dot2 p hp u hu
      rw [e3, List.getD_eq_getElem?_getD, List.getElem?_eq_getElem h5, Option.getD_some] at e4
      rw [e4]
      simp only [rowF, List.getElem_map, List.getElem_range]
      unfold newP
      by_cases hpd : p < d
      · rw [if_pos hpd, newD_cuts d L at_ str str2 t _ h h2 p hpd u hu (old1 p hpd u hu), Gf.dot_unit d p hpd _ fun k _ => Gf.colOf_lt (hb _ (nums_bytes _)) u k]
      · rw [if_neg hpd, dot1 p hp u hu]
        unfold dot
        rw [← Gf.xs_xor]
        refine Gf.xs_congr fun j hj => ?_
        rw [old1 j hj u hu, newD_cuts d L at_ str str2 t _ h h2 j hj u hu (old1 j hj u hu)]
        have hF : inv (p ^^^ j) < 256 := Gf.inv_lt _ (Gf.xor_lt (by omega) (by omega))
        rw [show rowOf d p j = inv (p ^^^ j) by simp [rowOf, hpd], ← Gf.times_xor_r _ _ _ hF, Gf.xcl]
end Go.Proofs.YtlnpppdffhibjaaDoor.Top

/- The owner's book of lists: what it holds. -/
namespace Go.Proofs.YtlnpppdffhibjaaDoor.Book
open Go.RowKit Mem FieldWalks Tab ByTab Parts

/-- The slice v reads as these strings, in a row of strings below block number N. -/
def StrsIn (w : World) (N : Nat) (v : Value) (ss : List ByteArray) : Prop :=
  ∃ ao cap, v = .slice ao ss.length cap ∧ (ss = [] ∨ ∃ g off cur, ao = some ⟨g, off, none⟩ ∧ g < N ∧ w.heap[g]? = some (.cells cur 9 (0, 0)) ∧ ∀ k, (h : k < ss.length) → cur[off + k]? = some (.string ss[k]))
theorem StrsIn.at {w : World} {N : Nat} {v : Value} {ss : List ByteArray} (h : StrsIn w N v ss) : StrsAt w v ss := by
  obtain ⟨ao, cap, rfl, h⟩ := h
  refine ⟨ao, cap, rfl, ?_⟩
  rcases h with h | ⟨g, off, cur, rfl, _, hg, hc⟩
  · exact .inl h
  · exact .inr ⟨g, off, rfl, lt_of_block hg, fun k hk => by rw [cell_of_row w g _ cur _ _ hg]; exact hc k hk⟩
theorem StrsIn.mono {w : World} {N M : Nat} {v : Value} {ss : List ByteArray} (h : StrsIn w N v ss) (hM : N ≤ M) : StrsIn w M v ss := by
  obtain ⟨ao, cap, rfl, h⟩ := h
  refine ⟨ao, cap, rfl, ?_⟩
  rcases h with h | ⟨g, off, cur, rfl, hN, r⟩
  · exact .inl h
  · exact .inr ⟨g, off, cur, rfl, Nat.lt_of_lt_of_le hN hM, r⟩
/-- It stays so where every row of strings below N stays. -/
theorem StrsIn.keep {w w' : World} {N : Nat} {v : Value} {ss : List ByteArray} (h : StrsIn w N v ss) (hk : ∀ (g : Nat) (cur : Array Value), g < N → w.heap[g]? = some (.cells cur 9 (0, 0)) → w'.heap[g]? = w.heap[g]?) : StrsIn w' N v ss := by
  obtain ⟨ao, cap, rfl, h⟩ := h
  refine ⟨ao, cap, rfl, ?_⟩
  rcases h with h | ⟨g, off, cur, rfl, hN, hg, r⟩
  · exact .inl h
  · exact .inr ⟨g, off, cur, rfl, hN, (hk g cur hN hg).trans hg, r⟩
/-- An entry: its number, its length, its list. -/
structure Ent where
  n : Nat
  size : Nat
  t : Value
def Ent.cells (e : Ent) : List Value := [.int .i64 e.n, .int .i64 e.size, e.t, .slice none 0 0, .slice none 0 0]
def Ent.ok (w : World) (N : Nat) (e : Ent) : Prop := 1 ≤ e.n ∧ e.n ≤ 9 ∧ e.size ≤ 100 ∧ StrsIn w N e.t (List.replicate e.size (markS e.n))
/-- The book at block b: c lists are in it, each with those that are longer. -/
def BookAt (w : World) (B b c N : Nat) : Prop :=
  B ≤ b ∧ ∃ (kv : Value) (es : List Ent), es.length = 4 * c ∧ Blk w b 37 [.int .i64 c, kv] ∧ w.ownsRow B 72 5 kv (4 * c) (es.flatMap Ent.cells) ∧ ∀ e, e ∈ es → e.ok w N
theorem BookAt.start (w : World) (B : Nat) (hB : B ≤ w.heap.size) (N : Nat) : BookAt (w.alloc (.cells #[.int .i64 0, .slice none 0 0] 37)) B w.heap.size 0 N :=
  ⟨hB, .slice none 0 0, [], rfl, Blk.new w _ _, World.ownsRow_nil _ _ _ _, fun e he => by cases he⟩
theorem ownsRow_kept {w w' : World} {base : Nat} {e : TypeId} {size : Nat} {v : Value} {n : Nat} {xs : List Value} (h : w.ownsRow base e size v n xs) (hk : ∀ (g : Nat) (cur : Array Value), w.heap[g]? = some (.cells cur e (0, 0)) → w'.heap[g]? = w.heap[g]?) : w'.ownsRow base e size v n xs := by
  obtain ⟨h1, h2⟩ := h
  refine ⟨h1, ?_⟩
  rcases h2 with h2 | ⟨g, cap, cur, hv, hg, hh, r⟩
  · exact Or.inl h2
  · exact Or.inr ⟨g, cap, cur, hv, hg, (hk g cur hh).trans hh, r⟩
theorem BookAt.to {w w' : World} {B b c N : Nat} (h : BookAt w B b c N) (hb : Below w.heap.size w w') : BookAt w' B b c N := by
  obtain ⟨hB, kv, es, hl, hblk, hown, hes⟩ := h
  refine ⟨hB, kv, es, hl, hblk.to hb, ownsRow_to hown hb, fun e he => ?_⟩
  obtain ⟨h1, h2, h3, h4⟩ := hes e he
  exact ⟨h1, h2, h3, h4.keep fun g cur _ hg => hb.block g (lt_of_block hg)⟩
theorem BookAt.mono {w : World} {B b c N M : Nat} (h : BookAt w B b c N) (hM : N ≤ M) : BookAt w B b c M := by
  obtain ⟨hB, kv, es, hl, hblk, hown, hes⟩ := h
  refine ⟨hB, kv, es, hl, hblk, hown, fun e he => ?_⟩
  obtain ⟨h1, h2, h3, h4⟩ := hes e he
  exact ⟨h1, h2, h3, h4.mono hM⟩
end Go.Proofs.YtlnpppdffhibjaaDoor.Book

/- The book while a list is being written into it. -/
namespace Go.Proofs.YtlnpppdffhibjaaDoor.Book
open Go.RowKit Mem FieldWalks Tab ByTab Parts

/-- The book with its number raised and its lists as they were. -/
structure St (w0 w : World) (B b c lb : Nat) (kv : Value) (es : List Ent) : Prop where
  low : B ≤ b
  high : B ≤ lb
  blk : Blk w b 37 [.int .i64 (c + 1 : Nat), kv]
  own : w.ownsRow B 72 5 kv (4 * c) (es.flatMap Ent.cells)
  ok : ∀ e, e ∈ es → e.ok w lb
  below : Below B w0 w
theorem St.to {w0 w w' : World} {B b c lb : Nat} {kv : Value} {es : List Ent} (h : St w0 w B b c lb kv es) (hb : Below w.heap.size w w') : St w0 w' B b c lb kv es :=
  ⟨h.low, h.high, h.blk.to hb, ownsRow_to h.own hb, fun e he => by
    obtain ⟨h1, h2, h3, h4⟩ := h.ok e he
    exact ⟨h1, h2, h3, h4.keep fun g cur _ hg => hb.block g (lt_of_block hg)⟩, h.below.trans (hb.mono (by have := h.blk.lt; have := h.low; omega))⟩
theorem St.set {w0 w : World} {B b c lb : Nat} {kv : Value} {es : List Ent} {us : List Value} (h : St w0 w B b c lb kv es) (hl : Blk w lb 9 us) (k : Nat) (v : Value) : St w0 (w.setCell ⟨lb, k, none⟩ v) B b c lb kv es := by
  refine ⟨h.low, h.high, h.blk.other (h.blk.type_ne hl (by decide)) _, ownsRow_kept h.own fun g cur hg => ?_, fun e he => ?_, h.below.setCell h.high _⟩
  · exact Below.heap_setCell _ _ _ _ (Blk.type_ne (w := w) (vs := cur.toList) (by unfold Blk; rw [hg]) hl (by decide))
  · obtain ⟨h1, h2, h3, h4⟩ := h.ok e he
    exact ⟨h1, h2, h3, h4.keep fun g cur hlt _ => Below.heap_setCell _ _ _ _ (show g ≠ lb by omega)⟩
theorem St.start {w : World} {B b c lb : Nat} {kv : Value} {es : List Ent} (hB : B ≤ b) (hlb : B ≤ lb) (hblk : Blk w b 37 [.int .i64 c, kv]) (hown : w.ownsRow B 72 5 kv (4 * c) (es.flatMap Ent.cells)) (hes : ∀ e, e ∈ es → e.ok w lb) :
    St w (w.setCell ⟨b, 0, none⟩ (.int .i64 ((c : Int) + 1))) B b c lb kv es := by
  refine ⟨hB, hlb, ?_, ownsRow_kept hown fun g cur hg => ?_, fun e he => ?_, (Below.refl _ _).setCell hB _⟩
  · have := hblk.set 0 (.int .i64 ((c : Int) + 1))
    simpa using this
  · exact Below.heap_setCell _ _ _ _ (Blk.type_ne (w := w) (vs := cur.toList) (by unfold Blk; rw [hg]) hblk (by decide))
  · obtain ⟨h1, h2, h3, h4⟩ := hes e he
    exact ⟨h1, h2, h3, h4.keep fun g cur _ hg => Below.heap_setCell _ _ _ _ (Blk.type_ne (w := w) (b := g) (t := 9) (vs := cur.toList) (by unfold Blk; rw [hg]) hblk (by decide))⟩

theorem StrsIn.of_owns {w : World} {base : Nat} {v : Value} {n : Nat} {ss : List ByteArray} (h : w.ownsRow base 9 1 v n (ss.map Value.string)) : StrsIn w w.heap.size v ss := by
  obtain ⟨hl, h2⟩ := h
  simp only [List.length_map, Nat.mul_one] at hl
  rcases h2 with ⟨rfl, h0⟩ | ⟨g, cap, cur, rfl, hg, hh, _, _, _, ht⟩
  · exact ⟨none, 0, by rw [hl, h0], .inl (List.eq_nil_of_length_eq_zero (by omega))⟩
  · refine ⟨_, cap, by rw [hl], .inr ⟨g, 0, cur, rfl, lt_of_block hh, hh, fun k hk => ?_⟩⟩
    rw [Nat.zero_add]
    rw [Nat.mul_one] at ht
    have : (cur.toList.take n)[k]? = some (.string ss[k]) := by rw [ht]; simp [hk]
    rw [List.getElem?_take_of_lt (by omega)] at this
    simpa using this
theorem StrsIn.of_blk {w : World} {lb : Nat} {ss : List ByteArray} (h : Blk w lb 9 (ss.map Value.string)) (n : Nat) (hn : ss.length = n) : StrsIn w w.heap.size (.slice (some ⟨lb, 0, none⟩) n n) ss := by
  subst hn
  exact ⟨_, _, rfl, .inr ⟨lb, 0, _, rfl, h.lt, h, fun k hk => by simp [hk]⟩⟩

/-- append of marks onto a list that is full of them: a new list. -/
theorem wpList_append_marks {P : Program} (w : World) {ops : Array Oper} {rest : List Oper} {o : Oper} {a : Act} {Q : Exit → Act → World → Prop}
    (hgd : o.guard = none) (s x : Operand) (t : TypeId) (hop : o.op = Op.call { callee := Callee.builtin Builtin.append, args := #[s, x], argTypes := #[t, t] })
    (ht : P.underlying t = some (.slice 9)) (hinfo : (P.info? 9).map (fun i => (i.zero, i.size, i.bytes)) = some (some (.string ByteArray.empty), 1, 16))
    (ao : Option Addr) (n m : Nat) (q : ByteArray) (hs : a.eval s = .slice ao n n) (hn : n ≤ 1000) (hm : 0 < m) (hm2 : m ≤ 10)
    (hnone : ao = none → n = 0) (holds : ∀ b, ao = some b → ∀ j, j < n → w.cell? (b.add j) = some (.string q))
    (ad : Addr) (c : Nat) (hx : a.eval x = .slice (some ad) m c) (hc : ∀ j, j < m → w.cell? (ad.add j) = some (.string q))
    (hK : ∀ ao' c' w', StrsIn w' w'.heap.size (.slice ao' (n + m) c') (List.replicate (n + m) q) → Below w.heap.size w w' → wpList P ops Q rest (a.put o.dst (.slice ao' (n + m) c')) w') :
    wpList P ops Q (o :: rest) a w := by
  obtain ⟨i0, hi, hz0, hz1, hz2⟩ := info_parts hinfo
  refine wpList_append_grows _ hgd s x t hop 9 i0 _ 1 16 ht hi hz0 hz1 hz2 rfl (by decide) ao n n (List.replicate n (.string q)) hs (fun h => ⟨hnone h, hnone h⟩) (by simp) (fun b hb j u hu => ?_) ad m c (List.replicate m (.string q)) hx (by simp) (fun j u hu => ?_) (fun u hu => ?_) (by omega) (by unfold maxLen; omega) (by omega) (fun v' w' ho hg => ?_)
  · have hj : j < n := by have := (List.getElem?_eq_some_iff.1 hu).1; simpa using this
    rw [List.getElem?_replicate, if_pos hj] at hu
    rw [holds b hb j hj]; exact hu
  · have hj : j < m := by have := (List.getElem?_eq_some_iff.1 hu).1; simpa using this
    rw [List.getElem?_replicate, if_pos hj] at hu
    rw [hc j hj]; exact hu
  · have := List.eq_of_mem_replicate hu; subst this; rfl
  · obtain ⟨ao', c', rfl⟩ := Ref.owns_slice ho
    have e : List.replicate n (Value.string q) ++ List.replicate m (.string q) = (List.replicate (n + m) q).map Value.string := by simp [List.replicate_append_replicate]
    rw [e] at ho
    exact hK _ _ _ (StrsIn.of_owns ho) ((Below.refl _ _).grown hg (Nat.le_refl _) (fun k hk => by cases hk))

/-- append of several elements onto a row of the call's own, as one step of a region that draws its order. -/
theorem step_append_many {P : Program} {w : World} {ops : Array Oper} {o : Oper} {a : Act} {K : Act → World → Prop} {Q : Exit → Act → World → Prop} {E : Prop}
    (hgd : o.guard = none) (s x : Operand) (t : TypeId) (hop : o.op = Op.call { callee := Callee.builtin Builtin.append, args := #[s, x], argTypes := #[t, t] })
    (base : Nat) (e : TypeId) (z : Value) (size bytes : Nat) (ht : P.underlying t = some (.slice e)) (hinfo : (P.info? e).map (fun i => (i.zero, i.size, i.bytes)) = some (some z, size, bytes)) (hz : z.cells.size = size) (hsz : 0 < size)
    (v : Value) (n : Nat) (xs : List Value) (hs : a.eval s = v) (hown : w.ownsRow base e size v n xs) (ad : Addr) (m c : Nat) (news : List Value) (hx : a.eval x = .slice (some ad) m c) (hl : news.length = m * size) (hu : ∀ j u, news[j]? = some u → w.cell? (ad.add j) = some u) (h1 : ∀ u ∈ news, u.oneCell' = true)
    (b1 : n + m ≤ maxLen) (b2 : (n + m) * bytes ≤ 140737488355328) (hbase : base ≤ w.heap.size)
    (hK : ∀ v' w', w'.ownsRow base e size v' (n + m) (xs ++ news) → w.grownBy w' v.ownBlock → K (a.put o.dst v') w') :
    if Region.wanted o (yielded ops a.tmps) = true then Oper.wp P o a w K Q else E := by
  have hw : Region.wanted o (yielded ops a.tmps) = true := by simp [Region.wanted, hgd]
  rw [if_pos hw]
  obtain ⟨i0, hi, hz0, hz1, hz2⟩ := info_parts hinfo
  obtain ⟨v', w', hrun, ho, hg, _⟩ := run_append_own (P := P) w base t o.type e i0 z size bytes ht hi hz0 hz1 hz2 hz hsz v n xs hown ad m c news hl hu h1 b1 b2 hbase
  unfold Oper.wp
  simp [execOp, hop, resolve, invoke, builtin, hs, hx, hrun, Result.andThen]
  exact hK v' w' ho hg
theorem infoKept : (Tryd.prog.info? 72).map (fun i => (i.zero, i.size, i.bytes)) = some (some (.agg #[.int .i64 0, .int .i64 0, .slice none 0 0, .slice none 0 0, .slice none 0 0]), 5, 88) := by kernel_rfl
/-- Behind the append and the store the book holds four more. -/
theorem St.book {w0 w w1 w2 : World} {B b c lb : Nat} {kv kv' : Value} {es news : List Ent} (h : St w0 w B b c lb kv es) (hb : Below w.heap.size w w1) (hel : es.length = 4 * c) (hnl : news.length = 4)
    (ho : w2.ownsRow B 72 5 kv' (4 * c + 4) (es.flatMap Ent.cells ++ news.flatMap Ent.cells)) (hg : w1.grownBy w2 kv.ownBlock)
    (hnew : ∀ e, e ∈ news → e.ok w1 w1.heap.size) : BookAt (w2.setCell ⟨b, 1, none⟩ kv') B b (c + 1) (w2.setCell ⟨b, 1, none⟩ kv').heap.size ∧ Below B w0 (w2.setCell ⟨b, 1, none⟩ kv') := by
  have h1 := h.to hb
  have hsz1 := h1.blk.lt
  have hlow := h1.low
  -- a row of another type is kept by the append
  have keep : ∀ (g : Nat) (t : TypeId) (cur : Array Value), t ≠ 72 → w1.heap[g]? = some (.cells cur t (0, 0)) → w2.heap[g]? = w1.heap[g]? := by
    intro g t cur ht hg1
    refine hg.block g (lt_of_block hg1) (fun e => ?_)
    rcases h1.own.2 with ⟨rfl, _⟩ | ⟨g', cap, cur', rfl, _, hh, _⟩
    · simp [Value.ownBlock] at e
    · simp [Value.ownBlock] at e
      subst e
      rw [hg1] at hh
      simp at hh
      exact ht hh.2
  have hblk2 : Blk w2 b 37 [.int .i64 (c + 1 : Nat), kv] := by
    unfold Blk; rw [keep b 37 _ (by decide) h1.blk]; exact h1.blk
  have hB2 : Below B w0 w2 := h1.below.grown hg (by omega) (fun k hk => (h1.own.lt k hk).1)
  have hset := hblk2.set 1 kv'
  refine ⟨⟨h.low, kv', es ++ news, by simp [hel, hnl]; omega, by simpa using hset, ?_, fun e he => ?_⟩, hB2.setCell h.low _⟩
  · have e1 : 4 * (c + 1) = 4 * c + 4 := by omega
    rw [e1, List.flatMap_append]
    exact ownsRow_kept ho fun g cur hgg => Below.heap_setCell _ _ _ _ (Blk.type_ne (w := w2) (b := g) (t := 72) (vs := cur.toList) (by unfold Blk; rw [hgg]) hblk2 (by decide))
  · have hok : e.ok w1 w1.heap.size := by
      rcases List.mem_append.1 he with he | he
      · obtain ⟨x1, x2, x3, x4⟩ := h1.ok e he
        obtain ⟨ao, cap, ht, hx⟩ := x4
        refine ⟨x1, x2, x3, ao, cap, ht, ?_⟩
        rcases hx with hx | ⟨g, off, cur, h1', _, hg', r⟩
        · exact .inl hx
        · exact .inr ⟨g, off, cur, h1', lt_of_block hg', hg', r⟩
      · exact hnew e he
    obtain ⟨x1, x2, x3, x4⟩ := hok
    refine ⟨x1, x2, x3, (x4.keep (w' := w2.setCell ⟨b, 1, none⟩ kv') fun g cur _ hgg => ?_).mono (by rw [size_setCell]; exact hg.size)⟩
    rw [Below.heap_setCell _ _ _ _ (Blk.type_ne (w := w1) (b := g) (t := 9) (vs := cur.toList) (by unfold Blk; rw [hgg]) h1.blk (by decide))]
    exact keep g 9 cur (by decide) hgg
end Go.Proofs.YtlnpppdffhibjaaDoor.Book

namespace Go.Proofs.YtlnpppdffhibjaaDoor.Book
open Go.RowKit Mem FieldWalks Tab ByTab Parts

theorem marks_len (n : Nat) (q : ByteArray) (us : List Value) (hl : us.length = n) (k : Nat) : (mix (List.replicate n (.string q)) us k).length = n := by
  rw [mix_length (by simp [hl])]; exact hl

theorem old_cell {w : World} {a : Addr} {v : Value} (h : w.cell? a = some v) (o : Obj) : (w.alloc o).cell? a = some v := by
  rw [World.cell?_of_block (w := w) (Below.heap_alloc w o a.block (block_lt_of_cell h))]; exact h
theorem new_cells (w : World) (i : Nat) (q : ByteArray) (j : Nat) (hj : j < i) : (w.alloc (.cells (List.replicate i (Value.string q)).toArray 9)).cell? ((⟨w.heap.size, 0, none⟩ : Addr).add j) = some (.string q) := by
  rw [Addr.add_lit, Nat.zero_add]
  exact (Blk.new w _ _).cell_some (by simp [hj])
theorem old_cells {w w' : World} {lo : Option Addr} {k : Nat} {q : ByteArray} (h : ∀ b, lo = some b → ∀ j, j < k → w.cell? (b.add j) = some (.string q)) (hb : Below w.heap.size w w') (b : Addr) (e : lo = some b) (j : Nat) (hj : j < k) : w'.cell? (b.add j) = some (.string q) := by
  have h0 := h b e j hj
  rw [hb.cell (p := b.add j) (block_lt_of_cell h0)]; exact h0
theorem below_alloc (w : World) (o : Obj) : Below w.heap.size w (w.alloc o) := (Below.refl _ _).alloc (Nat.le_refl _) o

theorem StrsIn.later {w w' : World} {v : Value} {ss : List ByteArray} (h : StrsIn w w.heap.size v ss) (hb : Below w.heap.size w w') : StrsIn w' w'.heap.size v ss :=
  (h.keep fun g _ _ hg => hb.block g (lt_of_block hg)).mono hb.size
/-- The four that come into the book with a list of k. -/
def newsOf (c k : Nat) (l a1 a2 a3 : Value) : List Ent := [⟨c + 1, k, l⟩, ⟨c + 1, k + 1, a1⟩, ⟨c + 1, k + 2, a2⟩, ⟨c + 1, k + 3, a3⟩]
theorem newsOf_ok (c k : Nat) (hc : c ≤ 8) (hk : k ≤ 90) (w : World) (q : ByteArray) (hq : q = markS (c + 1)) {l a1 a2 a3 : Value} (h0 : StrsIn w w.heap.size l (List.replicate k q)) (h1 : StrsIn w w.heap.size a1 (List.replicate (k + 1) q))
    (h2 : StrsIn w w.heap.size a2 (List.replicate (k + 2) q)) (h3 : StrsIn w w.heap.size a3 (List.replicate (k + 3) q)) : ∀ e, e ∈ newsOf c k l a1 a2 a3 → e.ok w w.heap.size := by
  subst hq
  intro e he
  simp only [newsOf, List.mem_cons, List.not_mem_nil, or_false] at he
  rcases he with rfl | rfl | rfl | rfl
  · exact ⟨by show 1 ≤ c + 1; omega, by show c + 1 ≤ 9; omega, by show k ≤ 100; omega, h0⟩
  · exact ⟨by show 1 ≤ c + 1; omega, by show c + 1 ≤ 9; omega, by show k + 1 ≤ 100; omega, h1⟩
  · exact ⟨by show 1 ≤ c + 1; omega, by show c + 1 ≤ 9; omega, by show k + 2 ≤ 100; omega, h2⟩
  · exact ⟨by show 1 ≤ c + 1; omega, by show c + 1 ≤ 9; omega, by show k + 3 ≤ 100; omega, h3⟩
theorem newsOf_cells (c k : Nat) (l a1 a2 a3 : Value) : (newsOf c k l a1 a2 a3).flatMap Ent.cells =
    [.int .i64 ((c : Int) + 1), .int .i64 (k : Int), l, .slice none 0 0, .slice none 0 0, .int .i64 ((c : Int) + 1), .int .i64 ((k : Int) + 1), a1, .slice none 0 0, .slice none 0 0,
     .int .i64 ((c : Int) + 1), .int .i64 ((k : Int) + 2), a2, .slice none 0 0, .slice none 0 0, .int .i64 ((c : Int) + 1), .int .i64 ((k : Int) + 3), a3, .slice none 0 0, .slice none 0 0] := rfl
theorem many_cells (w : World) (t : TypeId) (news : List Value) (j : Nat) (u : Value) (h : news[j]? = some u) : (w.alloc (.cells news.toArray t)).drew.cell? ((⟨w.heap.size, 0, none⟩ : Addr).add j) = some u := by
  rw [Addr.add_lit, Nat.zero_add]
  exact (Blk.new w news.toArray t).cell_some (by simpa using h)

theorem St.after {w0 w w1 w2 : World} {B b c lb : Nat} {kv : Value} {es : List Ent} (h : St w0 w B b c lb kv es) (hb : Below w.heap.size w w1) (hg : w1.grownBy w2 kv.ownBlock) : Blk w2 b 37 [.int .i64 ((c : Int) + 1), kv] := by
  have h1 := h.to hb
  have e : w2.heap[b]? = w1.heap[b]? := by
    refine hg.block b h1.blk.lt (fun e => ?_)
    rcases h1.own.2 with ⟨rfl, _⟩ | ⟨g', cap, cur', rfl, _, hh, _⟩
    · simp [Value.ownBlock] at e
    · simp [Value.ownBlock] at e
      subst e
      have := h1.blk
      unfold Blk at this
      rw [this] at hh
      simp at hh
  unfold Blk; rw [e]; exact h1.blk
theorem owns_slice' {w : World} {base size : Nat} {e : TypeId} {v : Value} {n : Nat} {xs : List Value} (h : w.ownsRow base e size v n xs) : ∃ ao c, v = .slice ao n c := by
  rcases h.2 with ⟨rfl, rfl⟩ | ⟨g, cap, cur, rfl, _⟩
  · exact ⟨_, _, rfl⟩
  · exact ⟨_, _, rfl⟩

set_option maxRecDepth 100000 in
set_option maxHeartbeats 2000000 in
theorem texts_any (B b c lb n : Nat) (lo : Option Addr) (us : List Value) (w : World) (hbook : BookAt w B b c lb) (hc : c ≤ 8) (hn : n ≤ 90) (hlb : B ≤ lb) (hl : us.length = n) (hL : (n = 0 ∧ lo = none) ∨ (lo = some ⟨lb, 0, none⟩ ∧ Blk w lb 9 us)) :
    Calls Tryd.prog 21 #[.pointer (some ⟨b, 0, none⟩), .slice lo n n] w fun e w' => e = .returned (.tuple #[]) ∧ BookAt w' B b (c + 1) w'.heap.size ∧ Below B w w' := by
  obtain ⟨hB, kv, es, hel, hblk, hown, hes⟩ := hbook
  have c0 := hblk.cell_some (k := 0) rfl
  have f0 := hblk.free 0
  have hblt := hblk.lt
  have ST0 : Hid (St w (w.setCell ⟨b, 0, none⟩ (.int .i64 ((c : Int) + 1))) B b c lb kv es) := St.start hB hlb hblk hown hes
  have HL0 : Hid ((n = 0 ∧ lo = none) ∨ (lo = some ⟨lb, 0, none⟩ ∧ Blk (w.setCell ⟨b, 0, none⟩ (.int .i64 ((c : Int) + 1))) lb 9 us)) := by
    rcases hL with h | ⟨h1, h2⟩
    · exact .inl h
    · exact .inr ⟨h1, h2.other (by exact Ne.symm (hblk.type_ne h2 (by decide))) _⟩
  have hput : (w.setCell ⟨b, 0, none⟩ (.int .i64 ((c : Int) + 1))).cell? ⟨b, 0, none⟩ = some (.int .i64 ((c : Int) + 1)) := (hblk.set 0 _).cell_some rfl
  clear hblk hown hes hL
  have hmk := mark_any (c + 1) (by omega) (by omega) (w.setCell ⟨b, 0, none⟩ (.int .i64 ((c : Int) + 1)))
  rw [show ((c + 1 : Nat) : Int) = (c : Int) + 1 by omega] at hmk
  have HMK : Hid (Calls Tryd.prog 42 #[.int .i64 ((c : Int) + 1)] (w.setCell ⟨b, 0, none⟩ (.int .i64 ((c : Int) + 1))) fun e w' => e = .returned (.string (markS (c + 1))) ∧ Below (w.setCell ⟨b, 0, none⟩ (.int .i64 ((c : Int) + 1))).heap.size (w.setCell ⟨b, 0, none⟩ (.int .i64 ((c : Int) + 1))) w') := hmk
  obtain ⟨q, hq⟩ : ∃ q, q = markS (c + 1) := ⟨_, rfl⟩
  have HQ : Hid (q = markS (c + 1)) := hq
  clear hmk hq
  go_enter Tryd.func21, Tryd.ntmps21
  go_wp2_with fail
  refine Calls.mono HMK.out ?_
  rintro e w1 ⟨rfl, hw1⟩
  rw [← HQ.out]
  have hs1 := ST0.out.to hw1
  have hl1 : (n = 0 ∧ lo = none) ∨ (lo = some ⟨lb, 0, none⟩ ∧ Blk w1 lb 9 us) := HL0.out.imp id (fun h => ⟨h.1, h.2.to hw1⟩)
  have HL1 : Hid ((n = 0 ∧ lo = none) ∨ (lo = some ⟨lb, 0, none⟩ ∧ Blk w1 lb 9 us)) := hl1
  clear hl1
  clear c0 f0 hput
  go_wp2
  go_loopw [5] (fun i wr => ∃ k : Nat, k ≤ n ∧ i = .int .i64 k ∧ St w wr B b c lb kv es ∧ ((n = 0 ∧ lo = none) ∨ (lo = some ⟨lb, 0, none⟩ ∧ Blk wr lb 9 (mix (List.replicate n (.string q)) us k)))) (fun i _ => n - (intOf i).toNat)
  case atStart => exact ⟨0, Nat.zero_le _, rfl, hs1, by rw [mix_zero]; exact HL1.out⟩
  case round =>
    clear hs1
    obtain ⟨k, hk, rfl, hst, hLk⟩ := hrel
    by_cases hlt : k < n
    · obtain ⟨rfl, hLq⟩ : lo = some ⟨lb, 0, none⟩ ∧ Blk wr lb 9 (mix (List.replicate n (.string q)) us k) := by
        rcases hLk with h | h
        · omega
        · exact h
      have hc1 := hLq.cell_some (List.getElem?_eq_getElem (show k < (mix (List.replicate n (.string q)) us k).length by rw [marks_len n q us hl]; exact hlt))
      generalize (mix (List.replicate n (Value.string q)) us k)[k]'(by rw [marks_len n q us hl]; exact hlt) = old at hc1
      have hf1 := hLq.free k
      have HS : Hid (St w wr B b c lb kv es) := hst
      have HLK : Hid (Blk wr lb 9 (mix (List.replicate n (.string q)) us k)) := hLq
      clear hst hLk hLq
      go_wp2
      go_roundw
      case rel =>
        refine ⟨k + 1, by omega, by go_num, HS.out.set HLK.out k _, .inr ⟨by trivial, (HLK.out.set k _).eq ?_⟩⟩
        have e := mix_set (new := List.replicate n (Value.string q)) (old := us) (k := k) (by simp [hl]) (by omega)
        rw [← e]; simp
      case measure => simp [intOf]; omega
    · obtain rfl : k = n := by omega
      have e : mix (List.replicate k (.string q)) us k = List.replicate k (.string q) := by
        have := mix_all (new := List.replicate k (Value.string q)) (old := us) (by simp [hl])
        rw [hl] at this; exact this
      rw [e] at hLk
      obtain ⟨wo, rfl⟩ : ∃ wo, wo = wr := ⟨_, rfl⟩
      have hcl : ∀ b, lo = some b → ∀ j, j < k → wo.cell? (b.add j) = some (.string q) := fun b hb j hj => by
        rcases hLk with h | ⟨h1, h2⟩
        · omega
        · rw [h1] at hb; cases hb
          rw [Addr.add_lit, Nat.zero_add]; exact h2.cell_some (by simp [hj])
      have HNO : Hid (lo = none → k = 0) := fun h => by
        rcases hLk with h0 | ⟨h1, _⟩
        · exact h0.1
        · rw [h1] at h; cases h
      have hln : StrsIn wo wo.heap.size (.slice lo k k) (List.replicate k q) := by
        rcases hLk with ⟨h0, h1⟩ | ⟨h1, h2⟩
        · subst h0; exact ⟨lo, 0, rfl, .inl rfl⟩
        · rw [h1]; exact StrsIn.of_blk (by simpa using h2) k (by simp)
      have HCL : Hid (∀ b, lo = some b → ∀ j, j < k → wo.cell? (b.add j) = some (.string q)) := hcl
      have HS : Hid (St w wo B b c lb kv es) := hst
      have HLN : Hid (StrsIn wo wo.heap.size (.slice lo k k) (List.replicate k q)) := hln
      clear hst hLk hcl e hln
      go_wp2_with (first | (at_builtin; refine wpList_append_marks _ rfl (.tmp 34) (.tmp 36) 38 rfl Tryd.underlying38 infoStr lo k 1 q rfl (by omega) (by decide) (by decide) HNO.out (old_cells HCL.out (below_alloc _ _)) ⟨wo.heap.size, 0, none⟩ 1 rfl (by exact new_cells wo 1 q) ?_; intro a1 p1 w2 hone hb2; have HB2 : Hid (Below wo.heap.size wo w2) := (below_alloc wo _).trans (Below.mono hb2 (by simp)); have HONE : Hid (StrsIn w2 w2.heap.size (.slice a1 (k + 1) p1) (List.replicate (k + 1) q)) := hone; clear hb2 hone) | (at_builtin; refine wpList_append_marks _ rfl (.tmp 38) (.tmp 41) 38 rfl Tryd.underlying38 infoStr lo k 2 q rfl (by omega) (by decide) (by decide) HNO.out (old_cells HCL.out (HB2.out.trans ((below_alloc _ _).mono HB2.out.size))) ⟨w2.heap.size, 0, none⟩ 2 rfl (by exact new_cells w2 2 q) ?_; intro a2 p2 w3 htwo hb3; have HB3 : Hid (Below w2.heap.size w2 w3) := (below_alloc w2 _).trans (Below.mono hb3 (by simp)); have HTWO : Hid (StrsIn w3 w3.heap.size (.slice a2 (k + 2) p2) (List.replicate (k + 2) q)) := htwo; clear hb3 htwo) | (at_builtin; refine wpList_append_marks _ rfl (.tmp 43) (.tmp 47) 38 rfl Tryd.underlying38 infoStr lo k 3 q rfl (by omega) (by decide) (by decide) HNO.out (old_cells HCL.out ((HB2.out.trans (HB3.out.mono HB2.out.size)).trans ((below_alloc _ _).mono (Nat.le_trans HB2.out.size HB3.out.size)))) ⟨w3.heap.size, 0, none⟩ 3 rfl (by exact new_cells w3 3 q) ?_; intro a3 p3 w4 hthree hb4; have HB4 : Hid (Below w3.heap.size w3 w4) := (below_alloc w3 _).trans (Below.mono hb4 (by simp)); have HTHREE : Hid (StrsIn w4 w4.heap.size (.slice a3 (k + 3) p3) (List.replicate (k + 3) q)) := hthree; clear hb4 hthree))
      have S4 : St w w4 B b c lb kv es := HS.out.to (HB2.out.trans ((HB3.out.mono HB2.out.size).trans (HB4.out.mono (Nat.le_trans HB2.out.size HB3.out.size))))
      have hc0 := S4.blk.cell_some (k := 0) rfl
      have hc1 := S4.blk.cell_some (k := 1) rfl
      have hf1 := S4.blk.free 1
      rw [show ((c + 1 : Nat) : Int) = (c : Int) + 1 by omega] at hc0
      have HC0 : Hid (w4.drew.cell? ⟨b, 0, none⟩ = some (.int .i64 ((c : Int) + 1))) := hc0
      have hb4lt := S4.blk.lt
      have HS4 : Hid (St w w4 B b c lb kv es) := S4
      have hk1 : IntKind.i64.wrap ((k : Int) + 1) = (k : Int) + 1 := by rw [IntKind.wrap_i64]; omega
      have hk2 : IntKind.i64.wrap ((k : Int) + 2) = (k : Int) + 2 := by rw [IntKind.wrap_i64]; omega
      have hk3 : IntKind.i64.wrap ((k : Int) + 3) = (k : Int) + 3 := by rw [IntKind.wrap_i64]; omega
      obtain ⟨ka, kc, rfl⟩ : ∃ ao c', kv = .slice ao (4 * c) c' := by
        rcases S4.own.2 with ⟨rfl, h0⟩ | ⟨g, cap, cur, rfl, _⟩
        · rw [h0]; exact ⟨_, _, rfl⟩
        · exact ⟨_, _, rfl⟩
      have hnew : ∀ e, e ∈ newsOf c k (.slice lo k k) (.slice a1 (k + 1) p1) (.slice a2 (k + 2) p2) (.slice a3 (k + 3) p3) → e.ok w4 w4.heap.size := by
        have b24 := HB3.out.trans (HB4.out.mono HB3.out.size)
        have bo4 := HB2.out.trans (b24.mono HB2.out.size)
        exact newsOf_ok c k (by omega) (by omega) w4 q HQ.out (HLN.out.later bo4) (HONE.out.later b24) (HTWO.out.later HB4.out) HTHREE.out
      have HNEW : Hid (∀ e, e ∈ newsOf c k (.slice lo k k) (.slice a1 (k + 1) p1) (.slice a2 (k + 2) p2) (.slice a3 (k + 3) p3) → e.ok w4 w4.heap.size) := hnew
      clear S4 hc0 hnew
      refine wp_region_held (S := fun wx => wx.cell? ⟨b, 0, none⟩ = some (.int .i64 ((c : Int) + 1))) rfl ?_
      refine wpAnyH_take (i := 0) (v := (.pointer (some ⟨b, 0, none⟩))) rfl (by kernel_rfl) (by kernel_rfl) (by kernel_rfl) (fun _ _ _ h => h) (Or.inl ⟨by rfl, fun w hw => by go_simp⟩) HC0.out ?_
      refine wpAnyH_take (i := 1) (v := (.pointer (some ⟨b, 0, none⟩))) rfl (by kernel_rfl) (by kernel_rfl) (by kernel_rfl) (fun _ _ _ h => h) (Or.inl ⟨by rfl, fun w hw => by go_simp⟩) HC0.out ?_
      refine wpAnyH_take (i := 2) (v := (.pointer (some ⟨b, 0, none⟩))) rfl (by kernel_rfl) (by kernel_rfl) (by kernel_rfl) (fun _ _ _ h => h) (Or.inl ⟨by rfl, fun w hw => by go_simp⟩) HC0.out ?_
      refine wpAnyH_take (i := 3) (v := (.pointer (some ⟨b, 1, none⟩))) rfl (by kernel_rfl) (by kernel_rfl) (by kernel_rfl) (fun _ _ _ h => h) (Or.inl ⟨by rfl, fun w hw => by go_simp⟩) HC0.out ?_
      refine wpAnyH_take (i := 5) (v := (.pointer (some ⟨b, 0, none⟩))) rfl (by kernel_rfl) (by kernel_rfl) (by kernel_rfl) (fun _ _ _ h => h) (Or.inl ⟨by rfl, fun w hw => by go_simp⟩) HC0.out ?_
      simp only [Act.put]
      refine wpAnyH_take (i := 6) (v := (.pointer (some ⟨b, 0, none⟩))) rfl (by kernel_rfl) (by kernel_rfl) (by kernel_rfl) (fun _ _ _ h => h) (Or.inl ⟨by rfl, fun w hw => by go_simp⟩) HC0.out ?_
      refine wpAnyH_take (i := 7) (v := (.pointer (some ⟨b, 0, none⟩))) rfl (by kernel_rfl) (by kernel_rfl) (by kernel_rfl) (fun _ _ _ h => h) (Or.inl ⟨by rfl, fun w hw => by go_simp⟩) HC0.out ?_
      refine wpAnyH_take (i := 8) (v := (.int .i64 ((c : Int) + 1))) rfl (by kernel_rfl) (by kernel_rfl) (by kernel_rfl) (fun _ _ _ h => h) (Or.inl ⟨by rfl, fun w hw => by go_simp⟩) HC0.out ?_
      refine wpAnyH_take (i := 9) (v := (.int .i64 (k : Int))) rfl (by kernel_rfl) (by kernel_rfl) (by kernel_rfl) (fun _ _ _ h => h) (Or.inl ⟨by rfl, fun w hw => by go_simp⟩) HC0.out ?_
      refine wpAnyH_take (i := 10) (v := (.slice lo k k)) rfl (by kernel_rfl) (by kernel_rfl) (by kernel_rfl) (fun _ _ _ h => h) (Or.inl ⟨by rfl, fun w hw => by go_simp⟩) HC0.out ?_
      refine wpAnyH_take (i := 11) (v := (.agg #[.int .i64 ((c : Int) + 1), .int .i64 (k : Int), .slice lo k k, .slice none 0 0, .slice none 0 0])) rfl (by kernel_rfl) (by kernel_rfl) (by kernel_rfl) (fun _ _ _ h => h) (Or.inl ⟨by rfl, fun w hw => by go_simp⟩) HC0.out ?_
      simp only [Act.put]
      refine wpAnyH_take (i := 12) (v := (.pointer (some ⟨b, 0, none⟩))) rfl (by kernel_rfl) (by kernel_rfl) (by kernel_rfl) (fun _ _ _ h => h) (Or.inl ⟨by rfl, fun w hw => by go_simp⟩) HC0.out ?_
      refine wpAnyH_take (i := 13) (v := (.pointer (some ⟨b, 0, none⟩))) rfl (by kernel_rfl) (by kernel_rfl) (by kernel_rfl) (fun _ _ _ h => h) (Or.inl ⟨by rfl, fun w hw => by go_simp⟩) HC0.out ?_
      refine wpAnyH_take (i := 14) (v := (.pointer (some ⟨b, 0, none⟩))) rfl (by kernel_rfl) (by kernel_rfl) (by kernel_rfl) (fun _ _ _ h => h) (Or.inl ⟨by rfl, fun w hw => by go_simp⟩) HC0.out ?_
      refine wpAnyH_take (i := 15) (v := (.int .i64 ((c : Int) + 1))) rfl (by kernel_rfl) (by kernel_rfl) (by kernel_rfl) (fun _ _ _ h => h) (Or.inl ⟨by rfl, fun w hw => by go_simp⟩) HC0.out ?_
      refine wpAnyH_take (i := 16) (v := (.int .i64 (k : Int))) rfl (by kernel_rfl) (by kernel_rfl) (by kernel_rfl) (fun _ _ _ h => h) (Or.inl ⟨by rfl, fun w hw => by go_simp⟩) HC0.out ?_
      refine wpAnyH_take (i := 17) (v := (.int .i64 ((k : Int) + 1))) rfl (by kernel_rfl) (by kernel_rfl) (by kernel_rfl) (fun _ _ _ h => h) (Or.inl ⟨by rfl, fun w hw => by go_simp⟩) HC0.out ?_
      simp only [Act.put]
      refine wpAnyH_take (i := 18) (v := (.slice a1 (k + 1) p1)) rfl (by kernel_rfl) (by kernel_rfl) (by kernel_rfl) (fun _ _ _ h => h) (Or.inl ⟨by rfl, fun w hw => by go_simp⟩) HC0.out ?_
      refine wpAnyH_take (i := 19) (v := (.agg #[.int .i64 ((c : Int) + 1), .int .i64 ((k : Int) + 1), .slice a1 (k + 1) p1, .slice none 0 0, .slice none 0 0])) rfl (by kernel_rfl) (by kernel_rfl) (by kernel_rfl) (fun _ _ _ h => h) (Or.inl ⟨by rfl, fun w hw => by go_simp⟩) HC0.out ?_
      refine wpAnyH_take (i := 20) (v := (.pointer (some ⟨b, 0, none⟩))) rfl (by kernel_rfl) (by kernel_rfl) (by kernel_rfl) (fun _ _ _ h => h) (Or.inl ⟨by rfl, fun w hw => by go_simp⟩) HC0.out ?_
      refine wpAnyH_take (i := 21) (v := (.pointer (some ⟨b, 0, none⟩))) rfl (by kernel_rfl) (by kernel_rfl) (by kernel_rfl) (fun _ _ _ h => h) (Or.inl ⟨by rfl, fun w hw => by go_simp⟩) HC0.out ?_
      refine wpAnyH_take (i := 22) (v := (.pointer (some ⟨b, 0, none⟩))) rfl (by kernel_rfl) (by kernel_rfl) (by kernel_rfl) (fun _ _ _ h => h) (Or.inl ⟨by rfl, fun w hw => by go_simp⟩) HC0.out ?_
      refine wpAnyH_take (i := 23) (v := (.int .i64 ((c : Int) + 1))) rfl (by kernel_rfl) (by kernel_rfl) (by kernel_rfl) (fun _ _ _ h => h) (Or.inl ⟨by rfl, fun w hw => by go_simp⟩) HC0.out ?_
      simp only [Act.put]
      refine wpAnyH_take (i := 24) (v := (.int .i64 (k : Int))) rfl (by kernel_rfl) (by kernel_rfl) (by kernel_rfl) (fun _ _ _ h => h) (Or.inl ⟨by rfl, fun w hw => by go_simp⟩) HC0.out ?_
      refine wpAnyH_take (i := 25) (v := (.int .i64 ((k : Int) + 2))) rfl (by kernel_rfl) (by kernel_rfl) (by kernel_rfl) (fun _ _ _ h => h) (Or.inl ⟨by rfl, fun w hw => by go_simp⟩) HC0.out ?_
      refine wpAnyH_take (i := 26) (v := (.slice a2 (k + 2) p2)) rfl (by kernel_rfl) (by kernel_rfl) (by kernel_rfl) (fun _ _ _ h => h) (Or.inl ⟨by rfl, fun w hw => by go_simp⟩) HC0.out ?_
      refine wpAnyH_take (i := 27) (v := (.agg #[.int .i64 ((c : Int) + 1), .int .i64 ((k : Int) + 2), .slice a2 (k + 2) p2, .slice none 0 0, .slice none 0 0])) rfl (by kernel_rfl) (by kernel_rfl) (by kernel_rfl) (fun _ _ _ h => h) (Or.inl ⟨by rfl, fun w hw => by go_simp⟩) HC0.out ?_
      refine wpAnyH_take (i := 28) (v := (.pointer (some ⟨b, 0, none⟩))) rfl (by kernel_rfl) (by kernel_rfl) (by kernel_rfl) (fun _ _ _ h => h) (Or.inl ⟨by rfl, fun w hw => by go_simp⟩) HC0.out ?_
      refine wpAnyH_take (i := 29) (v := (.pointer (some ⟨b, 0, none⟩))) rfl (by kernel_rfl) (by kernel_rfl) (by kernel_rfl) (fun _ _ _ h => h) (Or.inl ⟨by rfl, fun w hw => by go_simp⟩) HC0.out ?_
      simp only [Act.put]
      refine wpAnyH_take (i := 30) (v := (.pointer (some ⟨b, 0, none⟩))) rfl (by kernel_rfl) (by kernel_rfl) (by kernel_rfl) (fun _ _ _ h => h) (Or.inl ⟨by rfl, fun w hw => by go_simp⟩) HC0.out ?_
      refine wpAnyH_take (i := 31) (v := (.int .i64 ((c : Int) + 1))) rfl (by kernel_rfl) (by kernel_rfl) (by kernel_rfl) (fun _ _ _ h => h) (Or.inl ⟨by rfl, fun w hw => by go_simp⟩) HC0.out ?_
      refine wpAnyH_take (i := 32) (v := (.int .i64 (k : Int))) rfl (by kernel_rfl) (by kernel_rfl) (by kernel_rfl) (fun _ _ _ h => h) (Or.inl ⟨by rfl, fun w hw => by go_simp⟩) HC0.out ?_
      refine wpAnyH_take (i := 33) (v := (.int .i64 ((k : Int) + 3))) rfl (by kernel_rfl) (by kernel_rfl) (by kernel_rfl) (fun _ _ _ h => h) (Or.inl ⟨by rfl, fun w hw => by go_simp⟩) HC0.out ?_
      refine wpAnyH_take (i := 34) (v := (.slice a3 (k + 3) p3)) rfl (by kernel_rfl) (by kernel_rfl) (by kernel_rfl) (fun _ _ _ h => h) (Or.inl ⟨by rfl, fun w hw => by go_simp⟩) HC0.out ?_
      refine wpAnyH_take (i := 35) (v := (.agg #[.int .i64 ((c : Int) + 1), .int .i64 ((k : Int) + 3), .slice a3 (k + 3) p3, .slice none 0 0, .slice none 0 0])) rfl (by kernel_rfl) (by kernel_rfl) (by kernel_rfl) (fun _ _ _ h => h) (Or.inl ⟨by rfl, fun w hw => by go_simp⟩) HC0.out ?_
      simp only [Act.put]
      refine wpAnyH_ready (rs := [4, 36]) (by kernel_rfl) (by simp) ?_
      refine AllReadyH.cons rfl (fun K hK => ?_) (AllReadyH.cons rfl (fun K hK => ?_) AllReadyH.nil)
      · go_simp
        refine hK.out _ _ HC0.out (fun _ => ?_)
        clear hK K
        refine wpAnyH_ready (rs := [36]) (by kernel_rfl) (by simp) ?_
        refine AllReadyH.cons rfl (fun K hK => ?_) AllReadyH.nil
        go_simp
        refine hK.out _ _ (by exact old_cell (w := w4) HC0.out _) (fun _ => ?_)
        clear hK K
        refine wpAnyH_ready (rs := [37]) (by kernel_rfl) (by simp) ?_
        refine AllReadyH.cons rfl (fun K hK => ?_) AllReadyH.nil
        refine step_append_many rfl (.tmp 53) (.tmp 85) 35 rfl B 72 _ 5 88 Tryd.underlying35 infoKept rfl (by decide) (.slice ka (4 * c) kc) (4 * c) (es.flatMap Ent.cells) rfl (by exact (HS4.out.own.alloc _).drew) ⟨w4.heap.size, 0, none⟩ 4 4 [.int .i64 ((c : Int) + 1), .int .i64 (k : Int), .slice lo k k, .slice none 0 0, .slice none 0 0, .int .i64 ((c : Int) + 1), .int .i64 ((k : Int) + 1), .slice a1 (k + 1) p1, .slice none 0 0, .slice none 0 0, .int .i64 ((c : Int) + 1), .int .i64 ((k : Int) + 2), .slice a2 (k + 2) p2, .slice none 0 0, .slice none 0 0, .int .i64 ((c : Int) + 1), .int .i64 ((k : Int) + 3), .slice a3 (k + 3) p3, .slice none 0 0, .slice none 0 0] rfl rfl (many_cells w4 72 _) (by intro u hu; simp only [List.mem_cons, List.not_mem_nil, or_false] at hu; rcases hu with h | h | h | h | h | h | h | h | h | h | h | h | h | h | h | h | h | h | h | h <;> (rw [h]; rfl)) (by unfold maxLen; omega) (by omega) (by simp; omega) ?_
        intro kv' w5 ho hg
        have hb41 : Below w4.heap.size w4 ((w4.alloc (.cells ([.int .i64 ((c : Int) + 1), .int .i64 (k : Int), .slice lo k k, .slice none 0 0, .slice none 0 0, .int .i64 ((c : Int) + 1), .int .i64 ((k : Int) + 1), .slice a1 (k + 1) p1, .slice none 0 0, .slice none 0 0, .int .i64 ((c : Int) + 1), .int .i64 ((k : Int) + 2), .slice a2 (k + 2) p2, .slice none 0 0, .slice none 0 0, .int .i64 ((c : Int) + 1), .int .i64 ((k : Int) + 3), .slice a3 (k + 3) p3, .slice none 0 0, .slice none 0 0] : List Value).toArray 72)).drew) := (below_alloc w4 _).drew
        have hblk5 := HS4.out.after hb41 hg
        obtain ⟨va, vc, rfl⟩ := owns_slice' ho
        have c05 := hblk5.cell_some (k := 0) rfl
        have c15 := hblk5.cell_some (k := 1) rfl
        have f15 := hblk5.free 1
        rw [← newsOf_cells] at ho
        have R := HS4.out.book hb41 hel rfl ho hg (fun e he => by
          obtain ⟨x1, x2, x3, x4⟩ := HNEW.out e he
          exact ⟨x1, x2, x3, x4.later hb41⟩)
        have HR : Hid _ := R
        have HC5 : Hid (w5.cell? ⟨b, 0, none⟩ = some (.int .i64 ((c : Int) + 1))) := c05
        have c06 : Hid ((w5.setCell ⟨b, 1, none⟩ (.slice va (4 * c + 4) vc)).cell? ⟨b, 0, none⟩ = some (.int .i64 ((c : Int) + 1))) := (hblk5.set 1 _).cell_some rfl
        clear R hblk5 hb41 hg ho c05
        refine hK.out _ _ HC5.out (fun _ => ?_)
        clear hK K
        refine wpAnyH_take (i := 38) (v := .pointer (some ⟨b, 0, none⟩)) rfl (by kernel_rfl) (by kernel_rfl) (by kernel_rfl) (fun _ _ _ h => h) (Or.inl ⟨by rfl, fun w hw => by go_simp⟩) HC5.out ?_
        refine wpAnyH_take (i := 39) (v := .pointer (some ⟨b, 1, none⟩)) rfl (by kernel_rfl) (by kernel_rfl) (by kernel_rfl) (fun _ _ _ h => h) (Or.inl ⟨by rfl, fun w hw => by go_simp⟩) HC5.out ?_
        simp only [Act.put]
        refine wpAnyH_ready (rs := [40]) (by kernel_rfl) (by simp) ?_
        refine AllReadyH.cons rfl (fun K hK => ?_) AllReadyH.nil
        go_simp
        refine hK.out _ _ c06.out (fun _ => ?_)
        clear hK K
        refine wpAnyH_done (by kernel_rfl) ?_ _
        go_wp2
        go_end0
        exact ⟨rfl, HR.out⟩
      · go_simp
        refine hK.out _ _ (by exact old_cell (w := w4) HC0.out _) (fun _ => ?_)
        clear hK K
        refine wpAnyH_ready (rs := [4]) (by kernel_rfl) (by simp) ?_
        refine AllReadyH.cons rfl (fun K hK => ?_) AllReadyH.nil
        go_simp
        refine hK.out _ _ (by exact old_cell (w := w4) HC0.out _) (fun _ => ?_)
        clear hK K
        refine wpAnyH_ready (rs := [37]) (by kernel_rfl) (by simp) ?_
        refine AllReadyH.cons rfl (fun K hK => ?_) AllReadyH.nil
        refine step_append_many rfl (.tmp 53) (.tmp 85) 35 rfl B 72 _ 5 88 Tryd.underlying35 infoKept rfl (by decide) (.slice ka (4 * c) kc) (4 * c) (es.flatMap Ent.cells) rfl (by exact (HS4.out.own.alloc _).drew) ⟨w4.heap.size, 0, none⟩ 4 4 [.int .i64 ((c : Int) + 1), .int .i64 (k : Int), .slice lo k k, .slice none 0 0, .slice none 0 0, .int .i64 ((c : Int) + 1), .int .i64 ((k : Int) + 1), .slice a1 (k + 1) p1, .slice none 0 0, .slice none 0 0, .int .i64 ((c : Int) + 1), .int .i64 ((k : Int) + 2), .slice a2 (k + 2) p2, .slice none 0 0, .slice none 0 0, .int .i64 ((c : Int) + 1), .int .i64 ((k : Int) + 3), .slice a3 (k + 3) p3, .slice none 0 0, .slice none 0 0] rfl rfl (many_cells w4 72 _) (by intro u hu; simp only [List.mem_cons, List.not_mem_nil, or_false] at hu; rcases hu with h | h | h | h | h | h | h | h | h | h | h | h | h | h | h | h | h | h | h | h <;> (rw [h]; rfl)) (by unfold maxLen; omega) (by omega) (by simp; omega) ?_
        intro kv' w5 ho hg
        have hb41 : Below w4.heap.size w4 ((w4.alloc (.cells ([.int .i64 ((c : Int) + 1), .int .i64 (k : Int), .slice lo k k, .slice none 0 0, .slice none 0 0, .int .i64 ((c : Int) + 1), .int .i64 ((k : Int) + 1), .slice a1 (k + 1) p1, .slice none 0 0, .slice none 0 0, .int .i64 ((c : Int) + 1), .int .i64 ((k : Int) + 2), .slice a2 (k + 2) p2, .slice none 0 0, .slice none 0 0, .int .i64 ((c : Int) + 1), .int .i64 ((k : Int) + 3), .slice a3 (k + 3) p3, .slice none 0 0, .slice none 0 0] : List Value).toArray 72)).drew) := (below_alloc w4 _).drew
        have hblk5 := HS4.out.after hb41 hg
        obtain ⟨va, vc, rfl⟩ := owns_slice' ho
        have c05 := hblk5.cell_some (k := 0) rfl
        have c15 := hblk5.cell_some (k := 1) rfl
        have f15 := hblk5.free 1
        rw [← newsOf_cells] at ho
        have R := HS4.out.book hb41 hel rfl ho hg (fun e he => by
          obtain ⟨x1, x2, x3, x4⟩ := HNEW.out e he
          exact ⟨x1, x2, x3, x4.later hb41⟩)
        have HR : Hid _ := R
        have HC5 : Hid (w5.cell? ⟨b, 0, none⟩ = some (.int .i64 ((c : Int) + 1))) := c05
        have c06 : Hid ((w5.setCell ⟨b, 1, none⟩ (.slice va (4 * c + 4) vc)).cell? ⟨b, 0, none⟩ = some (.int .i64 ((c : Int) + 1))) := (hblk5.set 1 _).cell_some rfl
        clear R hblk5 hb41 hg ho c05
        refine hK.out _ _ HC5.out (fun _ => ?_)
        clear hK K
        refine wpAnyH_take (i := 38) (v := .pointer (some ⟨b, 0, none⟩)) rfl (by kernel_rfl) (by kernel_rfl) (by kernel_rfl) (fun _ _ _ h => h) (Or.inl ⟨by rfl, fun w hw => by go_simp⟩) HC5.out ?_
        refine wpAnyH_take (i := 39) (v := .pointer (some ⟨b, 1, none⟩)) rfl (by kernel_rfl) (by kernel_rfl) (by kernel_rfl) (fun _ _ _ h => h) (Or.inl ⟨by rfl, fun w hw => by go_simp⟩) HC5.out ?_
        simp only [Act.put]
        refine wpAnyH_ready (rs := [40]) (by kernel_rfl) (by simp) ?_
        refine AllReadyH.cons rfl (fun K hK => ?_) AllReadyH.nil
        go_simp
        refine hK.out _ _ c06.out (fun _ => ?_)
        clear hK K
        refine wpAnyH_done (by kernel_rfl) ?_ _
        go_wp2
        go_end0
        exact ⟨rfl, HR.out⟩
end Go.Proofs.YtlnpppdffhibjaaDoor.Book

namespace Go.Proofs.YtlnpppdffhibjaaDoor.Book
open Go.RowKit Mem FieldWalks Tab ByTab Parts

set_option maxRecDepth 100000 in
set_option maxHeartbeats 1000000 in
theorem full_any (n size N : Nat) (tv : Value) (w : World) (h : Ent.ok w N ⟨n, size, tv⟩) :
    Calls Tryd.prog 44 #[.agg #[.int .i64 n, .int .i64 size, tv, .slice none 0 0, .slice none 0 0]] w fun e w' => e = .returned (.bool true) ∧ Below w.heap.size w w' := by
  have h1 : 1 ≤ n := h.1
  have h2 : n ≤ 9 := h.2.1
  have h3 : size ≤ 100 := h.2.2.1
  have h5 : StrsAt w tv (List.replicate size (markS n)) := h.2.2.2.at
  obtain ⟨ao, cap, htv, hcell⟩ := h5
  rw [List.length_replicate] at htv
  subst htv
  have hne : ((size : Int) != (size : Int)) = false := by simp
  have HC : Hid (List.replicate size (markS n) = [] ∨ ∃ b off, ao = some ⟨b, off, none⟩ ∧ b < w.heap.size ∧ ∀ k, (h : k < (List.replicate size (markS n)).length) → w.cell? ⟨b, off + k, none⟩ = some (.string (List.replicate size (markS n))[k])) := hcell
  clear h hcell
  go_enter Tryd.func44, Tryd.ntmps44
  go_wp2_with fail
  refine (mark_any n h1 h2 _).mono ?_
  rintro e w1 ⟨rfl, hw1⟩
  obtain ⟨q, hq⟩ : ∃ q, q = markS n := ⟨_, rfl⟩
  rw [← hq]
  rw [← hq] at HC
  clear hq
  have hK0 := (Blk.new w #[.int .i64 n, .int .i64 size, .slice ao size cap, .slice none 0 0, .slice none 0 0] 72).to hw1
  have hbel : Below w.heap.size w w1 := (((Below.refl _ _).alloc (Nat.le_refl _) _)).trans (hw1.mono (by simp))
  have k2 := hK0.cell_some (k := 2) rfl
  have k3 := hK0.cell_some (k := 3) rfl
  have k4 := hK0.cell_some (k := 4) rfl
  clear hK0 hw1
  go_wp2
  go_loop [4, 5] (fun o i => ∃ k : Nat, k ≤ size ∧ i = .int .i64 k ∧ o = .bool true) (fun _ i => size - (intOf i).toNat)
  case atStart => exact ⟨0, Nat.zero_le _, rfl, rfl⟩
  case round =>
    obtain ⟨k, hk, rfl, rfl⟩ := hrel
    by_cases hlt : k < size
    · obtain ⟨b, off, rfl, hb, hc⟩ : ∃ b off, ao = some ⟨b, off, none⟩ ∧ b < w.heap.size ∧ ∀ k, (h : k < (List.replicate size q).length) → w.cell? ⟨b, off + k, none⟩ = some (.string (List.replicate size q)[k]) := by
        rcases HC.out with h | h
        · have := congrArg List.length h; simp at this; omega
        · exact h
      have c1 := hc k (by simpa using hlt)
      rw [List.getElem_replicate, ← hbel.cell (p := ⟨b, off + k, none⟩) hb] at c1
      clear hc
      go_wp2
      go_round
      case rel => exact ⟨k + 1, by omega, by go_num, rfl⟩
      case measure => simp [intOf]; omega
    · obtain rfl : k = size := by omega
      go_wp2
      refine wp_loop_rounds 1 ?_
      rw [rounds_succ]
      go_wp2
      refine wp_loop_rounds 1 ?_
      rw [rounds_succ]
      go_wp2
      go_ret
      exact ⟨rfl, hbel⟩

theorem flat_get (es : List Ent) : ∀ (k r : Nat) (h : k < es.length), r < 5 → (es.flatMap Ent.cells)[k * 5 + r]? = (es[k].cells)[r]? := by
  induction es with
  | nil => intro k r h; simp at h
  | cons e es ih =>
    intro k r h hr
    have hl : e.cells.length = 5 := rfl
    rw [List.flatMap_cons]
    cases k with
    | zero => rw [Nat.zero_mul, Nat.zero_add, List.getElem?_append_left (by omega)]; rfl
    | succ k =>
      rw [List.getElem?_append_right (by omega), show (k + 1) * 5 + r - e.cells.length = k * 5 + r by omega]
      exact ih k r (by simpa using h) hr
/-- The five cells of an entry. -/
theorem ent_cells {w : World} {B c : Nat} {ka : Option Addr} {kc : Nat} {es : List Ent} (hown : w.ownsRow B 72 5 (.slice ka (4 * c) kc) (4 * c) (es.flatMap Ent.cells)) (hel : es.length = 4 * c) (k : Nat) (hk : k < 4 * c) :
    ∃ g, ka = some ⟨g, 0, none⟩ ∧ g < w.heap.size ∧ ∀ r, r < 5 → w.cell? ⟨g, k * 5 + r, none⟩ = ((es[k]'(by omega)).cells)[r]? := by
  rcases hown.2 with ⟨_, h0⟩ | ⟨g, cap, cur, hv, hg, hh, _, _, _, ht⟩
  · omega
  · injection hv with h1 h2 h3
    refine ⟨g, h1, lt_of_block hh, fun r hr => ?_⟩
    rw [cell_of_row w g _ cur _ _ hh, ← flat_get es k r (by omega) hr, ← ht, List.getElem?_take_of_lt (by omega)]
    simp

set_option maxRecDepth 100000 in
set_option maxHeartbeats 1000000 in
theorem looks_any (B b c N : Nat) (w : World) (h : BookAt w B b c N) (hc : c ≤ 9) :
    Calls Tryd.prog 23 #[.pointer (some ⟨b, 0, none⟩)] w fun e w' => e = .returned (.bool true) ∧ Below w.heap.size w w' := by
  obtain ⟨hB, kv, es, hel, hblk, hown, hes⟩ := h
  obtain ⟨ka, kc, rfl⟩ : ∃ ao c', kv = .slice ao (4 * c) c' := by
    rcases hown.2 with ⟨rfl, h0⟩ | ⟨g, cap, cur, rfl, _⟩
    · rw [h0]; exact ⟨_, _, rfl⟩
    · exact ⟨_, _, rfl⟩
  have HBLK : Hid (Blk w b 37 [.int .i64 c, .slice ka (4 * c) kc]) := hblk
  have HOWN : Hid (w.ownsRow B 72 5 (.slice ka (4 * c) kc) (4 * c) (es.flatMap Ent.cells)) := hown
  have HES : Hid (∀ e, e ∈ es → e.ok w N) := hes
  clear hblk hown hes
  go_enter Tryd.func23, Tryd.ntmps23
  go_wp2
  go_loopw [3] (fun i wr => ∃ k : Nat, k ≤ 4 * c ∧ i = .int .i64 k ∧ Below w.heap.size w wr) (fun i _ => 4 * c - (intOf i).toNat)
  case atStart => exact ⟨0, Nat.zero_le _, rfl, Below.refl _ _⟩
  case round =>
    obtain ⟨k, hk, rfl, hbel⟩ := hrel
    have hb1 := HBLK.out.to hbel
    have c1 := hb1.cell_some (k := 1) rfl
    clear hb1
    have e4 : ((4 * c : Nat) : Int) = 4 * (c : Int) := by omega
    by_cases hlt : k < 4 * c
    · obtain ⟨g, rfl, hglt, hce⟩ := ent_cells HOWN.out hel k hlt
      have hok := HES.out (es[k]'(by omega)) (List.getElem_mem _)
      generalize es[k]'(by omega) = en at hce hok
      obtain ⟨n, size, tv⟩ := en
      have d0 := (hbel.cell (p := ⟨g, k * 5 + 0, none⟩) hglt).trans (hce 0 (by decide))
      have d1 := (hbel.cell (p := ⟨g, k * 5 + 1, none⟩) hglt).trans (hce 1 (by decide))
      have d2 := (hbel.cell (p := ⟨g, k * 5 + 2, none⟩) hglt).trans (hce 2 (by decide))
      have d3 := (hbel.cell (p := ⟨g, k * 5 + 3, none⟩) hglt).trans (hce 3 (by decide))
      have d4 := (hbel.cell (p := ⟨g, k * 5 + 4, none⟩) hglt).trans (hce 4 (by decide))
      simp only [Ent.cells, List.getElem?_cons_zero, List.getElem?_cons_succ, Nat.add_zero] at d0 d1 d2 d3 d4
      have hok1 : Ent.ok wr wr.heap.size ⟨n, size, tv⟩ := by
        obtain ⟨x1, x2, x3, x4⟩ := hok
        refine ⟨x1, x2, x3, ?_⟩
        obtain ⟨ao, cap, h, hx⟩ := x4
        refine ⟨ao, cap, h, ?_⟩
        rcases hx with hx | ⟨g', off, cur, h1', _, hg', r⟩
        · exact .inl hx
        · exact .inr ⟨g', off, cur, h1', Nat.lt_of_lt_of_le (lt_of_block hg') hbel.size, (hbel.block g' (lt_of_block hg')).trans hg', r⟩
      have HOK : Hid (Ent.ok wr wr.heap.size ⟨n, size, tv⟩) := hok1
      clear hok hok1 hce
      go_wp2_with fail
      refine (full_any n size _ tv _ HOK.out).mono ?_
      rintro e w2 ⟨rfl, hw2⟩
      go_wp2
      go_roundw
      case rel => exact ⟨k + 1, by omega, by go_num, hbel.trans (hw2.mono hbel.size)⟩
      case measure => simp [intOf]; omega
    · have hge : 4 * (c : Int) ≤ (k : Int) := by omega
      go_wp2
      go_ret
      exact ⟨rfl, hbel⟩
end Go.Proofs.YtlnpppdffhibjaaDoor.Book

namespace Go.Proofs.YtlnpppdffhibjaaDoor.Top
open Go.RowKit Mem FieldWalks Tab ByTab Parts Book

theorem StrsAt.of_blk {w : World} {b : Nat} {ss : List ByteArray} (h : Blk w b 9 (strV ss)) (n cap : Nat) (hn : n = ss.length) : StrsAt w (.slice (some ⟨b, 0, none⟩) n cap) ss := by
  subst hn
  exact ⟨_, _, rfl, .inr ⟨b, 0, rfl, h.lt, fun k hk => by rw [Nat.zero_add]; exact h.cell_some (by simp [strV, hk])⟩⟩
theorem below_drew {w : World} (n : Nat) : Below w.heap.size w (w.drewN n) := below_drewN (Below.refl _ _) n
theorem table_below {w w' : World} {B : Nat} (h : Table w) (hb : Below B w w') (hB : 0 < B) : Table w' := by
  intro k hk
  rw [hb.cell (p := ⟨0, k, none⟩) hB]; exact h k hk

set_option maxRecDepth 100000 in
set_option maxHeartbeats 1000000 in
theorem bspread_ok (hS : SumsOk) (B b c : Nat) (d s x : Nat) (str : ByteArray) (hd : 1 ≤ d) (hd2 : d ≤ 10) (hs : s ≤ 6) (hx : x ≤ 2) (hn : str.size ≤ 400) (w : World) (ht : Table w) (hbook : BookAt w B b c w.heap.size) (hc : c ≤ 8) :
    Calls Tryd.prog 22 #[.pointer (some ⟨b, 0, none⟩), .int .i64 d, .int .i64 s, .int .i64 x, .string str] w fun e w' => e = .returned (.bool true) ∧ BookAt w' B b (c + 1) w'.heap.size ∧ Below B w w' := by
  have HB : Hid (BookAt w B b c w.heap.size) := hbook
  have hBb := hbook.1
  have hblt : b < w.heap.size := by obtain ⟨_, kv, es, _, h, _⟩ := hbook; exact h.lt
  clear hbook
  go_enter Tryd.func22, Tryd.ntmps22
  go_wp2_with fail
  refine (wSpread_ok hS d s x str hd hd2 hs hx hn _ ht).mono ?_
  rintro e w1 ⟨lb, hlb, rfl, hblk, hb1⟩
  go_wp2_with fail
  refine (Ref.rSpread_ok d s x str _ hd hd2 hs hx hn rfl _).mono ?_
  rintro e w2 ⟨v, rfl, hst, hb2⟩
  have hblk2 := hblk.to hb2
  have hst1 := StrsAt.of_blk hblk2 (d + s) (d + s) (by rw [pieces_length])
  have hst2 : StrsAt w2 v (pieces d s str) := hst
  clear hblk hst
  go_wp2_with fail
  refine (sameT_yes (pieces d s str) _ _ _ hst1 hst2 (by rw [pieces_length]; omega)).mono ?_
  rintro e w3 ⟨rfl, nq, rfl⟩
  have hb02 := hb1.trans (hb2.mono hb1.size)
  have hb3 : Below w.heap.size w (w2.drewN nq) := below_drewN hb02 nq
  have hbk3 := (HB.out.to hb3).mono (M := lb) hlb
  clear hst1 hst2
  have htx := texts_any B b c lb (d + s) (some ⟨lb, 0, none⟩) (strV (pieces d s str)) (w2.drewN nq) hbk3 hc (by omega) (by omega) (by simp [strV, pieces_length]) (.inr ⟨rfl, hblk2⟩)
  clear hbk3 hblk2
  go_wp2_with fail
  refine Calls.mono htx ?_
  rintro e w4 ⟨rfl, hbk4, hb4⟩
  have hB : B ≤ w.heap.size := by omega
  have hb04 := (hb3.mono hB).trans hb4
  clear htx
  go_wp2_with fail
  refine (num_any _ _).mono ?_
  rintro e w' ⟨rfl, rfl⟩
  go_wp2
  go_ret
  exact ⟨rfl, hbk4, hb04⟩

set_option maxRecDepth 100000 in
set_option maxHeartbeats 1000000 in
theorem bspread_no (B b c : Nat) (d s x : Int) (str : ByteArray) (hlen : str.size ≤ maxLen) (hE : spreadE d s x str.size ≠ 0) (w : World) (hbook : BookAt w B b c w.heap.size) (hc : c ≤ 8) :
    Calls Tryd.prog 22 #[.pointer (some ⟨b, 0, none⟩), .int .i64 d, .int .i64 s, .int .i64 x, .string str] w fun e w' => e = .returned (.bool true) ∧ BookAt w' B b (c + 1) w'.heap.size ∧ Below B w w' := by
  have hblt : b < w.heap.size := by obtain ⟨_, kv, es, _, h, _⟩ := hbook; exact h.lt
  have hBb := hbook.1
  have HB : Hid (BookAt w B b c w.heap.size) := hbook
  have HL : Hid (str.size ≤ maxLen) := hlen
  have HE : Hid (spreadE d s x str.size ≠ 0) := hE
  obtain ⟨er, her⟩ : ∃ er, er = spreadE d s x str.size := ⟨_, rfl⟩
  have w1 := wSpread_no d s x str hlen hE
  have w2 := rSpread_no d s x str hlen hE
  rw [← her] at w1 w2
  have W1 : Hid _ := w1
  have W2 : Hid _ := w2
  clear hbook hlen hE her w1 w2
  go_enter Tryd.func22, Tryd.ntmps22
  go_wp2_with fail
  refine Calls.mono (W1.out _) ?_
  rintro e w' ⟨rfl, rfl⟩
  go_wp2_with fail
  refine Calls.mono (W2.out _) ?_
  rintro e w' ⟨rfl, rfl⟩
  have hs0 : StrsAt w' (.slice none 0 0) [] := ⟨none, 0, rfl, .inl rfl⟩
  go_wp2_with fail
  refine (sameT_yes [] _ _ _ hs0 hs0 (by simp)).mono ?_
  rintro e w3 ⟨rfl, nq, rfl⟩
  have hb3 : Below w'.heap.size w' (w'.drewN nq) := below_drew nq
  have hbk3 := HB.out.to hb3
  clear hs0
  have htx := texts_any B b c w'.heap.size 0 none [] (w'.drewN nq) hbk3 hc (by omega) (by omega) rfl (.inl ⟨rfl, rfl⟩)
  clear hbk3
  go_wp2_with fail
  refine Calls.mono htx ?_
  rintro e w4 ⟨rfl, hbk4, hb4⟩
  have hb04 := (hb3.mono (by omega)).trans hb4
  clear htx
  go_wp2_with fail
  refine (num_any _ _).mono ?_
  rintro e w' ⟨rfl, rfl⟩
  go_wp2
  go_ret
  exact ⟨rfl, hbk4, hb04⟩
theorem bspread_any (hS : SumsOk) (B b c : Nat) (d s x : Int) (str : ByteArray) (hlen : str.size ≤ maxLen) (w : World) (ht : Table w) (hbook : BookAt w B b c w.heap.size) (hc : c ≤ 8) :
    Calls Tryd.prog 22 #[.pointer (some ⟨b, 0, none⟩), .int .i64 d, .int .i64 s, .int .i64 x, .string str] w fun e w' => e = .returned (.bool true) ∧ BookAt w' B b (c + 1) w'.heap.size ∧ Below B w w' := by
  by_cases hE : spreadE d s x str.size = 0
  · have h1 : okCounts d s = true := by
      cases h : okCounts d s
      · simp [spreadE, h] at hE
      · rfl
    have h2 : okWay x = true := by
      cases h : okWay x
      · simp [spreadE, h1, h] at hE
      · rfl
    have h3 : str.size ≤ 400 := by
      by_cases h : 400 < str.size
      · simp [spreadE, h1, h2, h] at hE
      · omega
    have h1' := of_decide_eq_true h1
    have h2' := of_decide_eq_true h2
    obtain ⟨d, rfl⟩ := Int.eq_ofNat_of_zero_le (show 0 ≤ d by omega)
    obtain ⟨s, rfl⟩ := Int.eq_ofNat_of_zero_le (show 0 ≤ s by omega)
    obtain ⟨x, rfl⟩ := Int.eq_ofNat_of_zero_le (show 0 ≤ x by omega)
    exact bspread_ok hS B b c d s x str (by omega) (by omega) (by omega) (by omega) h3 w ht hbook hc
  · exact bspread_no B b c d s x str hlen hE w hbook hc

theorem pieces_ex : pieces 2 1 ⟨#[1, 1]⟩ = [⟨#[1]⟩, ⟨#[1]⟩, ⟨#[122]⟩] := by decide +kernel

set_option maxRecDepth 100000 in
set_option maxHeartbeats 1000000 in
theorem spreads_any (hS : SumsOk) (d s x : Int) (str : ByteArray) (hlen : str.size ≤ maxLen) (w : World) (ht : Table w) (h0 : 0 < w.heap.size) :
    Calls Tryd.prog 5 #[.int .i64 d, .int .i64 s, .int .i64 x, .string str] w fun e w' => e = .returned (.bool true) ∧ Below w.heap.size w w' := by
  have HL : Hid (str.size ≤ maxLen) := hlen
  clear hlen
  go_enter Tryd.func5, Tryd.ntmps5
  have hb0 : BookAt (w.alloc (.cells #[.int .i64 0, .slice none 0 0] 37)) w.heap.size w.heap.size 0 (w.alloc (.cells #[.int .i64 0, .slice none 0 0] 37)).heap.size := BookAt.start w _ (Nat.le_refl _) _
  have ht1 := table_to ht (below_alloc w (.cells #[.int .i64 0, .slice none 0 0] 37))
  have hw0 : Below w.heap.size w (w.alloc (.cells #[.int .i64 0, .slice none 0 0] 37)) := below_alloc w _
  have hex := wSpread_ok hS 2 1 0 ⟨#[1, 1]⟩ (by omega) (by omega) (by omega) (by omega) (by decide) (w.alloc (.cells #[.int .i64 0, .slice none 0 0] 37)) ht1
  have HB0 : Hid _ := hb0
  have HW0 : Hid _ := hw0
  have HT : Hid (Table w) := ht
  clear hb0 ht1 hw0 ht
  go_wp2_with fail
  refine Calls.mono hex ?_
  rintro e w1 ⟨lb, hlb, rfl, hblk, hb1⟩
  have hbk1 := BookAt.to HB0.out hb1
  have hb01 := HW0.out.trans (hb1.mono HW0.out.size)
  have hpx : pieces 2 1 ⟨#[1, 1]⟩ = [⟨#[1]⟩, ⟨#[1]⟩, ⟨#[122]⟩] := pieces_ex
  rw [hpx] at hblk
  clear hex hpx
  have hbA : Below w1.heap.size w1 (w1.alloc (.cells #[.string ⟨#[1]⟩, .string ⟨#[1]⟩, .string ⟨#[122]⟩] 9)) := below_alloc w1 _
  have hsA : StrsAt (w1.alloc (.cells #[.string ⟨#[1]⟩, .string ⟨#[1]⟩, .string ⟨#[122]⟩] 9)) (.slice (some ⟨lb, 0, none⟩) 3 3) [⟨#[1]⟩, ⟨#[1]⟩, ⟨#[122]⟩] := (StrsAt.of_blk (w := w1) hblk 3 3 rfl).to hbA
  have hsB : StrsAt (w1.alloc (.cells #[.string ⟨#[1]⟩, .string ⟨#[1]⟩, .string ⟨#[122]⟩] 9)) (.slice (some ⟨w1.heap.size, 0, none⟩) 3 3) [⟨#[1]⟩, ⟨#[1]⟩, ⟨#[122]⟩] := StrsAt.of_blk (Blk.new w1 _ _) 3 3 rfl
  have hsame := sameT_yes [⟨#[1]⟩, ⟨#[1]⟩, ⟨#[122]⟩] _ _ _ hsA hsB (by decide)
  have HBA : Hid (Below w1.heap.size w1 (w1.alloc (.cells #[.string ⟨#[1]⟩, .string ⟨#[1]⟩, .string ⟨#[122]⟩] 9))) := hbA
  have HBL : Hid (Blk w1 lb 9 (strV [⟨#[1]⟩, ⟨#[1]⟩, ⟨#[122]⟩])) := hblk
  have HBK : Hid (BookAt w1 w.heap.size w.heap.size 0 (w.alloc (.cells #[.int .i64 0, .slice none 0 0] 37)).heap.size) := hbk1
  clear hsA hsB hbA hblk hbk1
  go_wp2_with fail
  refine Calls.mono hsame ?_
  rintro e w2 ⟨rfl, nq, rfl⟩
  clear hsame
  have hb12 : Below w1.heap.size w1 ((w1.alloc (.cells #[.string ⟨#[1]⟩, .string ⟨#[1]⟩, .string ⟨#[122]⟩] 9)).drewN nq) := below_drewN HBA.out nq
  have hblk2 := HBL.out.to hb12
  have hbk2 := HBK.out.to hb12
  have hb02 := hb01.trans (hb12.mono hb01.size)
  generalize (w1.alloc (.cells #[.string ⟨#[1]⟩, .string ⟨#[1]⟩, .string ⟨#[122]⟩] 9)).drewN nq = w2 at *
  clear hb12
  go_wp2_with fail
  refine (num_any _ _).mono ?_
  rintro e w' ⟨rfl, rfl⟩
  have hlb' : w.heap.size + 1 ≤ lb := by simpa using hlb
  have htx := texts_any w.heap.size w.heap.size 0 lb 3 (some ⟨lb, 0, none⟩) _ w' (hbk2.mono (M := lb) (by simpa using hlb)) (by omega) (by omega) (by omega) rfl (.inr ⟨rfl, hblk2⟩)
  clear hbk2 hblk2
  go_wp2_with fail
  refine Calls.mono htx ?_
  rintro e w3 ⟨rfl, hbk3, hb3⟩
  have hb03 := hb02.trans hb3
  clear htx
  have hT3 := table_below HT.out hb03 h0
  have hs1 := bspread_any hS w.heap.size w.heap.size 1 d s x str HL.out w3 hT3 hbk3 (by omega)
  clear hbk3
  go_wp2_with fail
  refine Calls.mono hs1 ?_
  rintro e w4 ⟨rfl, hbk4, hb4⟩
  have hb04 := hb03.trans hb4
  clear hs1 hT3
  have hT4 := table_below HT.out hb04 h0
  have hs2 := bspread_any hS w.heap.size w.heap.size 2 d s x str HL.out w4 hT4 hbk4 (by omega)
  clear hbk4
  go_wp2_with fail
  refine Calls.mono hs2 ?_
  rintro e w5 ⟨rfl, hbk5, hb5⟩
  have hb05 := hb04.trans hb5
  clear hs2 hT4
  have hlk := looks_any _ _ _ _ w5 hbk5 (by omega)
  clear hbk5
  go_wp2_with fail
  refine Calls.mono hlk ?_
  rintro e w6 ⟨rfl, hb6⟩
  have hb06 := hb05.trans (hb6.mono hb05.size)
  clear hlk
  go_wp2
  go_ret
  exact ⟨rfl, hb06⟩
end Go.Proofs.YtlnpppdffhibjaaDoor.Top

namespace Go.Proofs.YtlnpppdffhibjaaDoor.KeepW
open Go.RowKit Mem FieldWalks Tab ByTab Parts Ref Top

/-- A text of at most MaxText bytes. -/
def shortS (s : ByteArray) : ByteArray := if 400 < s.size then s.extract 0 400 else s
theorem shortS_size (s : ByteArray) : (shortS s).size ≤ 400 := by
  unfold shortS
  split
  · rw [ByteArray.size_extract]; omega
  · omega
set_option maxRecDepth 100000 in
theorem short_any (s : ByteArray) (w : World) : Calls Tryd.prog 55 #[.string s] w fun e w' => e = .returned (.string (shortS s)) ∧ w' = w := by
  by_cases h : 400 < s.size
  · have e0 : Hid (shortS s = s.extract 0 400) := if_pos h
    have e1 : decide ((400 : Int) < (s.size : Int)) = true := decide_eq_true (by omega)
    have e2 : (400 : Int) ≤ (s.size : Int) := by omega
    go_enter Tryd.func55, Tryd.ntmps55
    go_wp2
    go_ret
    exact ⟨by rw [e0.out]; rfl, rfl⟩
  · have e0 : Hid (shortS s = s) := if_neg h
    have e1 : decide ((400 : Int) < (s.size : Int)) = false := decide_eq_false (by omega)
    go_enter Tryd.func55, Tryd.ntmps55
    go_wp2
    go_ret
    exact ⟨by rw [e0.out]; rfl, rfl⟩

/-- What spread answers: counts, a text, its pieces. -/
structure Spr (w : World) (base b d s : Nat) (T : ByteArray) (lb : Nat) : Prop where
  obj : Blk w b 55 [.int .i64 (d : Nat), .int .i64 (s : Nat), .string T, .slice (some ⟨lb, 0, none⟩) (d + s) (d + s)]
  list : Blk w lb 9 (strV (pieces d s T))
  bb : base ≤ b
  bl : base ≤ lb
theorem Spr.to {w w' : World} {base b d s lb : Nat} {T : ByteArray} (h : Spr w base b d s T lb) (hb : Below w.heap.size w w') : Spr w' base b d s T lb := ⟨h.obj.to hb, h.list.to hb, h.bb, h.bl⟩

set_option maxRecDepth 100000 in
set_option maxHeartbeats 2000000 in
theorem kspread_any (hS : SumsOk) (data spare way : Int) (text : ByteArray) (w : World) (ht : Table w) (hw0 : 0 < w.heap.size) (hd1 : -9223372036854775808 ≤ data) (hd2 : data ≤ 9223372036854775807) (hs1 : -9223372036854775808 ≤ spare) (hs2 : spare ≤ 9223372036854775807) (hx1 : -9223372036854775808 ≤ way) (hx2 : way ≤ 9223372036854775807) :
    Calls Tryd.prog 28 #[.int .i64 data, .int .i64 spare, .int .i64 way, .string text] w fun e w' =>
      ∃ b lb, e = .returned (.pointer (some ⟨b, 0, none⟩)) ∧ Spr w' w.heap.size b (1 + pickI data 10) (pickI spare 7) (shortS text) lb ∧ Below w.heap.size w w' := by
  obtain ⟨d, hd⟩ : ∃ d, d = 1 + pickI data 10 := ⟨_, rfl⟩
  obtain ⟨d', hd'⟩ : ∃ d', d' = pickI data 10 := ⟨_, rfl⟩
  obtain ⟨s, hs⟩ : ∃ s, s = pickI spare 7 := ⟨_, rfl⟩
  obtain ⟨x, hx⟩ : ∃ x, x = pickI way 3 := ⟨_, rfl⟩
  obtain ⟨T, hT⟩ : ∃ T, T = shortS text := ⟨_, rfl⟩
  have b1 := pickI_lt data 10 (by omega)
  have b2 := pickI_lt spare 7 (by omega)
  have b3 := pickI_lt way 3 (by omega)
  have hTs : T.size ≤ 400 := by rw [hT]; exact shortS_size _
  have P1 : Hid (∀ W, Calls Tryd.prog 16 #[.int .i64 data, .int .i64 10] W fun e w' => e = .returned (.int .i64 (d' : Nat)) ∧ w' = W) := by
    intro W; rw [hd']; exact kpick_any data 10 W (by omega) (by omega) hd1 hd2
  have P2 : Hid (∀ W, Calls Tryd.prog 16 #[.int .i64 spare, .int .i64 7] W fun e w' => e = .returned (.int .i64 (s : Nat)) ∧ w' = W) := by
    intro W; rw [hs]; exact kpick_any spare 7 W (by omega) (by omega) hs1 hs2
  have P3 : Hid (∀ W, Calls Tryd.prog 16 #[.int .i64 way, .int .i64 3] W fun e w' => e = .returned (.int .i64 (x : Nat)) ∧ w' = W) := by
    intro W; rw [hx]; exact kpick_any way 3 W (by omega) (by omega) hx1 hx2
  have P4 : Hid (∀ W, Calls Tryd.prog 55 #[.string text] W fun e w' => e = .returned (.string T) ∧ w' = W) := by
    intro W; rw [hT]; exact short_any text W
  rw [← hd, ← hs, ← hT]
  have hd10 : d ≤ 10 := by omega
  have hd0 : 1 ≤ d := by omega
  have hs6 : s ≤ 6 := by omega
  have hx2' : x ≤ 2 := by omega
  have hdd : 1 + (d' : Int) = (d : Int) := by omega
  have hd'10 : d' ≤ 10 := by omega
  clear hd hs hx hT b1 b2 b3 hd'
  go_enter Tryd.func28, Tryd.ntmps28
  go_wp2_with fail
  refine (P1.out _).mono ?_
  rintro e w' ⟨rfl, rfl⟩
  go_wp2_with fail
  refine (P2.out _).mono ?_
  rintro e w' ⟨rfl, rfl⟩
  go_wp2_with fail
  refine (P4.out _).mono ?_
  rintro e w' ⟨rfl, rfl⟩
  go_wp2_with fail
  obtain ⟨w1, hw1⟩ : ∃ w1, w1 = w'.alloc (.cells #[.int .i64 (d : Int), .int .i64 (s : Int), .string T, .slice none 0 0] 55) := ⟨_, rfl⟩
  have hobj : Blk w1 w'.heap.size 55 [.int .i64 (d : Int), .int .i64 (s : Int), .string T, .slice none 0 0] := by rw [hw1]; exact Blk.new w' _ _
  have hb1 : Below w'.heap.size w' w1 := by rw [hw1]; exact (Below.refl _ _).alloc (Nat.le_refl _) _
  rw [← hw1]
  have s0 := hobj.cell_some (k := 0) rfl
  have s1 := hobj.cell_some (k := 1) rfl
  have s2 := hobj.cell_some (k := 2) rfl
  have hwl : w'.heap.size < w1.heap.size := hobj.lt
  have HOBJ : Hid (Blk w1 w'.heap.size 55 [.int .i64 (d : Int), .int .i64 (s : Int), .string T, .slice none 0 0]) := hobj
  have HB1 : Hid (Below w'.heap.size w' w1) := hb1
  have ht1 : Table w1 := table_below ht hb1 hw0
  have HSP : Hid (Calls Tryd.prog 19 #[.int .i64 d, .int .i64 s, .int .i64 x, .string T] w1.drew fun e w2 => ∃ b, w1.heap.size ≤ b ∧ e = .returned (.tuple #[.slice (some ⟨b, 0, none⟩) (d + s) (d + s), .int .i64 0]) ∧ Blk w2 b 9 (strV (pieces d s T)) ∧ Below w1.heap.size w1.drew w2) := wSpread_ok hS d s x T hd0 hd10 hs6 hx2' hTs w1.drew ht1
  clear hw1 hobj hb1
  obtain ⟨B, hBe⟩ : ∃ B, B = w'.heap.size := ⟨_, rfl⟩
  rw [← hBe] at s0 s1 s2 hwl HOBJ ⊢
  have HBE : Hid (B = w'.heap.size) := hBe
  clear hBe
  go_region_held3 (fun wx => wx.cell? ⟨B, 0, none⟩ = some (.int .i64 (d : Int)) ∧ wx.cell? ⟨B, 1, none⟩ = some (.int .i64 (s : Int)) ∧ wx.cell? ⟨B, 2, none⟩ = some (.string T)) (go_keep) (first | (go_at_call 16; refine (P3.out _).mono ?_; rintro e w2 ⟨rfl, rfl⟩) | (go_at_call 19; refine Calls.mono HSP.out ?_; rintro e w2 ⟨lb, hlb, rfl, hlist, hb2⟩; have t0 := (hb2.cell (p := ⟨B, 0, none⟩) hwl).trans s0; have t1 := (hb2.cell (p := ⟨B, 1, none⟩) hwl).trans s1; have t2 := (hb2.cell (p := ⟨B, 2, none⟩) hwl).trans s2))
  obtain ⟨ps, hps⟩ : ∃ ps, ps = cuts (nums T) d ((T.size + d - 1) / d) := ⟨_, rfl⟩
  obtain ⟨L, hL⟩ : ∃ L, L = (T.size + d - 1) / d := ⟨_, rfl⟩
  have hLs : L ≤ 400 := by have := ceil_le T.size d hd0; omega
  have hTL : T.size ≤ d * L := by rw [hL]; exact ceil_mul T.size d (by omega)
  have eL : ((T.size : Int) + (d : Int) - 1) / (d : Int) = (L : Int) := by rw [hL]; exact ceil_cast T.size d hd0
  have HPL : Hid ((pieces d s T).length = d + s) := pieces_length d s T
  have HPZ : Hid (∀ p, (h : p < (pieces d s T).length) → (pieces d s T)[p].size = L) := fun p h => by rw [hL]; exact pieces_sizes d s T p h
  have HPD : Hid (∀ p, (h : p < (pieces d s T).length) → (h2 : p < ps.length) → (pieces d s T)[p] = mkS ps[p]) := fun p h h2 => by
    have : (pieces d s T).getD p ByteArray.empty = mkS ps[p] := by
      unfold pieces texts
      rw [← hps, List.getD_eq_getElem?_getD, List.getElem?_map, List.getElem?_append_left h2, List.getElem?_eq_getElem h2]; rfl
    rw [← this]; simp [h]
  have HPSL : Hid (ps.length = d) := by show _ = _; rw [hps]; exact cuts_length _ _ _
  have HPSZ : Hid (∀ j, (h : j < ps.length) → ps[j].length = L) := fun j h => by
    have := cuts_size (nums T) d ((T.size + d - 1) / d) j (by rw [← hps]; exact h)
    rw [hL, ← this]; congr 1; simp [hps]
  have HFL : Hid (ps.flatten = (List.range (d * L)).map fun i => (nums T).getD i 0) := by show _ = _; rw [hps, hL]; exact flatten_cuts _ _ _
  have HLI : Hid (Blk w2 lb 9 (strV (pieces d s T))) := hlist
  have hlblt := hlist.lt
  have hBl : B ≠ lb := by omega
  have HB2 : Hid (Below w1.heap.size w1.drew w2) := hb2
  have HOB2 : Hid (Blk w2 B 55 [.int .i64 (d : Int), .int .i64 (s : Int), .string T, .slice none 0 0]) := Blk.below (w := w1.drew) HOBJ.out hb2 hwl
  have g3 := HOB2.out.cell_some (k := 3) rfl
  have gf := HOB2.out.free 3
  have hne1 : (((d + s : Nat) : Int) != (d : Int) + (s : Int)) = false := by simp
  have hne2 : ((d : Int) + (s : Int) != (d : Int) + (s : Int)) = false := by simp
  have q7 : ¬ (d : Int) = 0 := by omega
  have q8 : ¬ d = 0 := by omega
  have q9 : ((d : Int) == 0) = false := by simp; omega
  clear hps hL hlist hb2 HOBJ s0 s1 s2 hdd hd'10
  go_wp2
  go_quiet (fail)
  have D1 : Drew w2 (w2.drewN nq) := ⟨nq, rfl⟩
  revert D1
  generalize w2.drewN nq = wa
  intro D1
  have a0 := (D1.cell _).trans t0
  have a2 := (D1.cell _).trans t2
  have HD1 : Hid (Drew w2 wa) := D1
  clear D1
  go_wp2
  go_quiet (fail)
  rw [eL]
  have D2 : Drew w2 (wa.drewN nq) := HD1.out.more nq
  revert D2
  generalize wa.drewN nq = w3
  intro D2
  have hlb3 := HLI.out.to D2.below
  have hob3 := HOB2.out.to D2.below
  have HLI3 : Hid (Blk w3 lb 9 (strV (pieces d s T))) := hlb3
  have HOB3 : Hid (Blk w3 B 55 [.int .i64 (d : Int), .int .i64 (s : Int), .string T, .slice none 0 0]) := hob3
  have HB3 : Hid (Below w'.heap.size w' w3) := (HB1.out.drew.trans (HB2.out.mono HB1.out.size)).trans (D2.below.mono (Nat.le_trans (HB1.out.size) HB2.out.size))
  have r0 := hob3.cell_some (k := 0) rfl
  have r2 := hob3.cell_some (k := 2) rfl
  clear hlb3 hob3 D2 HD1 HLI HOB2 HB2 a0 a2 t0 t1 t2 g3 gf HB1
  have e0 : (ByteArray.mk #[]) = mkS (ps.take (min 0 d)).flatten := by simp [mkS]
  go_wp2
  go_loop [12, 14] (fun t pv => ∃ p : Nat, p ≤ d + s ∧ pv = .int .i64 p ∧ t = .string (mkS (ps.take (min p d)).flatten)) (fun _ pv => d + s - (intOf pv).toNat)
  case atStart => exact ⟨0, Nat.zero_le _, rfl, by rw [← e0]⟩
  case round =>
    clear e0
    obtain ⟨p, hp, rfl, rfl⟩ := hrel
    by_cases hpd : p < d + s
    · have hpl : p < (pieces d s T).length := by rw [HPL.out]; exact hpd
      have c1 := HLI3.out.cell_some (k := p) (v := .string (pieces d s T)[p]) (by simp [strV, hpl])
      have hzz := HPZ.out p hpl
      obtain ⟨x1, hx1⟩ : ∃ x1, x1 = (pieces d s T)[p] := ⟨_, rfl⟩
      rw [← hx1] at c1 hzz
      have hneL : ((x1.size : Int) != (L : Int)) = false := by simp; omega
      have hA : (mkS (ps.take (min p d)).flatten).size ≤ 4000 := by
        rw [mkS_size, flatten_length (ps.take (min p d)) L (fun i hi => by rw [List.getElem_take]; exact HPSZ.out i (by simp at hi; omega))]
        have h1 : (ps.take (min p d)).length ≤ 10 := by rw [List.length_take]; omega
        exact Nat.le_trans (Nat.mul_le_mul h1 hLs) (by decide)
      by_cases hpdd : p < d
      · have e1 : decide ((p : Int) < (d : Int)) = true := decide_eq_true (by omega)
        have hpp : p < ps.length := by rw [HPSL.out]; exact hpdd
        have HNX : Hid (mkS (ps.take (min p d)).flatten ++ x1 = mkS (ps.take (min (p + 1) d)).flatten) := by
          show _ = _
          rw [hx1, HPD.out p hpl hpp, mkS_append, show min p d = p by omega, show min (p + 1) d = p + 1 by omega, ← flatten_next ps p hpp]
        generalize mkS (ps.take (min p d)).flatten = A0 at hA HNX ⊢
        clear hx1
        go_wp2
        go_round
        case rel => exact ⟨p + 1, by omega, by go_num, by rw [← HNX.out]⟩
        case measure => simp [intOf]; omega
      · have e1 : decide ((p : Int) < (d : Int)) = false := decide_eq_false (by omega)
        have HNX : Hid (mkS (ps.take (min p d)).flatten = mkS (ps.take (min (p + 1) d)).flatten) := by
          show _ = _
          rw [show min (p + 1) d = min p d by omega]
        generalize mkS (ps.take (min p d)).flatten = A0 at hA HNX ⊢
        clear hx1
        go_wp2
        go_round
        case rel => exact ⟨p + 1, by omega, by go_num, by rw [← HNX.out]⟩
        case measure => simp [intOf]; omega
    · obtain rfl : p = d + s := by omega
      obtain ⟨W, hW⟩ : ∃ W, W = mkS (ps.take (min (d + s) d)).flatten := ⟨_, rfl⟩
      rw [← hW]
      have hWf : nums W = (List.range (d * L)).map fun i => (nums T).getD i 0 := by
        have h1 : ps.take (min (d + s) d) = ps := List.take_of_length_le (by have := HPSL.out; omega)
        rw [hW, h1, HFL.out, nums_mkS]
        intro y hy
        simp only [List.mem_map, List.mem_range] at hy
        obtain ⟨i, _, rfl⟩ := hy
        exact (nums_bytes T).getD i
      have hWs : W.size = d * L := by rw [← nums_length, hWf]; simp
      have HWB : Hid (∀ i, (h : i < W.size) → (W[i]'h).toNat = (nums T).getD i 0) := fun i h => by
        rw [← nums_get W i h, hWf]
        simp [show i < d * L by omega]
      have hW4 : W.size ≤ 4000 := by rw [hWs]; exact Nat.le_trans (Nat.mul_le_mul hd10 hLs) (by decide)
      have HWS : Hid (W.size = d * L) := hWs
      clear hW hWf hWs
      go_wp2
      go_loopw [15] (fun iv wr => ∃ i : Nat, i ≤ W.size ∧ iv = .int .i64 i ∧ Drew w3 wr) (fun iv _ => W.size - (intOf iv).toNat)
      case atStart => exact ⟨0, Nat.zero_le _, rfl, ⟨0, rfl⟩⟩
      case round =>
        obtain ⟨i, hi, rfl, hdr⟩ := hrel
        have HDR : Hid (Drew w3 wr) := hdr
        have v2 := (hdr.cell _).trans r2
        by_cases hiW : i < W.size
        · have hwi := HWB.out i hiW
          have j1 : (i : Int) < (W.size : Int) := by omega
          by_cases hiT : i < T.size
          · have e1 : decide ((i : Int) < (T.size : Int)) = true := decide_eq_true (by omega)
            have j2 : (i : Int) < (T.size : Int) := by omega
            have e2 : decide ((T.size : Int) ≤ (i : Int)) = false := decide_eq_false (by omega)
            have e1n : decide (i < T.size) = true := decide_eq_true hiT
            have e2n : decide (T.size ≤ i) = false := decide_eq_false (by omega)
            rw [nums_get T i hiT] at hwi
            have hne : (((W[i]'hiW).toNat : Int) != ((T[i]'hiT).toNat : Int)) = false := by rw [hwi]; simp
            clear hdr hwi
            go_wp2
            go_quiet (fail)
            have HDR2 : Hid (Drew w3 (wr.drewN nq)) := HDR.out.more nq
            go_wp2
            go_roundw
            case rel => exact ⟨i + 1, by omega, by go_num, HDR2.out⟩
            case measure => simp [intOf]; omega
          · have e1 : decide ((i : Int) < (T.size : Int)) = false := decide_eq_false (by omega)
            have e2 : decide ((T.size : Int) ≤ (i : Int)) = true := decide_eq_true (by omega)
            have e1n : decide (i < T.size) = false := decide_eq_false hiT
            have e2n : decide (T.size ≤ i) = true := decide_eq_true (by omega)
            have hz : (W[i]'hiW).toNat = 0 := by
              rw [hwi, List.getD_eq_getElem?_getD, List.getElem?_eq_none (by rw [nums_length]; omega)]; rfl
            have hne : (((W[i]'hiW).toNat : Int) != 0) = false := by rw [hz]; simp
            clear hdr hwi hz
            go_wp2
            go_quiet (fail)
            have HDR2 : Hid (Drew w3 (wr.drewN nq)) := HDR.out.more nq
            go_wp2
            go_roundw
            case rel => exact ⟨i + 1, by omega, by go_num, HDR2.out⟩
            case measure => simp [intOf]; omega
        · obtain rfl : i = W.size := by omega
          have hob := HOB3.out.to hdr.below
          have hli := HLI3.out.to hdr.below
          have v3 := hob.cell_some (k := 3) rfl
          have vf := hob.free 3
          have HOB4 : Hid (Blk wr B 55 [.int .i64 (d : Int), .int .i64 (s : Int), .string T, .slice none 0 0]) := hob
          have HLI4 : Hid (Blk wr lb 9 (strV (pieces d s T))) := hli
          have HB4 : Hid (Below w'.heap.size w' wr) := HB3.out.trans (hdr.below.mono HB3.out.size)
          clear hob hli hdr
          go_wp2
          go_ret
          refine ⟨B, lb, rfl, ⟨(HOB4.out.set 3 _).eq rfl, HLI4.out.other (Ne.symm hBl) _, by rw [HBE.out]; exact Nat.le_refl _, by have := HBE.out; omega⟩, HB4.out.setCell (by show w'.heap.size ≤ B; rw [HBE.out]; exact Nat.le_refl _) _⟩
end Go.Proofs.YtlnpppdffhibjaaDoor.KeepW

namespace Go.Proofs.YtlnpppdffhibjaaDoor.Ref
open Go.RowKit Mem FieldWalks Tab ByTab Parts

/-- With an error no pieces. -/
def CNo (k : Int) (e : Ending) : Prop := e = .returned (.tuple #[.slice none 0 0, .int .i64 k])

set_option maxRecDepth 100000 in
set_option maxHeartbeats 400000 in
theorem rChange_count (d s n a : Int) (pv : Value) (text : ByteArray) (h : okCounts d s = false) (w : World) :
    Calls Tryd.prog 54 #[.int .i64 d, .int .i64 s, .int .i64 n, pv, .int .i64 a, .string text] w fun e w' => CNo 3 e ∧ w' = w := by
  go_enter Tryd.func54, Tryd.ntmps54
  go_wp2_with fail
  refine (rCounts_any _ _ _).mono ?_
  rintro e w' ⟨rfl, rfl⟩
  go_wp2
  go_ret2
  exact ⟨rfl, rfl⟩
set_option maxRecDepth 100000 in
set_option maxHeartbeats 400000 in
theorem rChange_long (d s n a : Int) (pv : Value) (text : ByteArray) (h1 : okCounts d s = true) (h : ¬ (0 ≤ n ∧ n ≤ 400)) (w : World) :
    Calls Tryd.prog 54 #[.int .i64 d, .int .i64 s, .int .i64 n, pv, .int .i64 a, .string text] w fun e w' => CNo 5 e ∧ w' = w := by
  by_cases h0 : n < 0
  · have e1 : decide (n < 0) = true := decide_eq_true h0
    go_enter Tryd.func54, Tryd.ntmps54
    go_wp2_with fail
    refine (rCounts_any _ _ _).mono ?_
    rintro e w' ⟨rfl, rfl⟩
    go_wp2
    go_ret2
    exact ⟨rfl, rfl⟩
  · have e1 : decide (n < 0) = false := decide_eq_false h0
    have e2 : decide (400 < n) = true := decide_eq_true (by omega)
    go_enter Tryd.func54, Tryd.ntmps54
    go_wp2_with fail
    refine (rCounts_any _ _ _).mono ?_
    rintro e w' ⟨rfl, rfl⟩
    go_wp2
    go_ret2
    exact ⟨rfl, rfl⟩
set_option maxRecDepth 100000 in
set_option maxHeartbeats 1000000 in
theorem rChange_shape (d s n : Nat) (a : Int) (pieces : List ByteArray) (pv : Value) (text : ByteArray) (w : World) (hp : StrsAt w pv pieces) (hpl : pieces.length < 2 ^ 62) (hd : 1 ≤ d) (hd2 : d ≤ 10) (hs : s ≤ 6) (hn : n ≤ 400) (hsz : ∀ p, (h : p < pieces.length) → pieces[p].size < 2 ^ 62)
    (hno : ¬ ShapeOk d s ((n + d - 1) / d) pieces []) :
    Calls Tryd.prog 54 #[.int .i64 d, .int .i64 s, .int .i64 n, pv, .int .i64 a, .string text] w fun e w' => CNo 6 e ∧ Drew w w' := by
  have hok : okCounts d s = true := okCounts_yes _ _ (by omega)
  have e1 : decide ((n : Int) < 0) = false := decide_eq_false (by omega)
  have e2 : decide ((400 : Int) < (n : Int)) = false := decide_eq_false (by omega)
  have HSH : Hid (Calls Tryd.prog 69 #[.int .i64 d, .int .i64 s, .int .i64 n, pv, .slice none 0 0] w fun e w'' => e = .returned (.bool false) ∧ Drew w w'') := by
    refine (shaped_any d s n _ pieces [] pv _ w hp ⟨none, 0, rfl, .inl rfl⟩ (by simp) hpl hd hd2 hs hn rfl hsz).mono ?_
    rintro e w'' ⟨⟨b, rfl, hb⟩, hw⟩
    cases b
    · exact ⟨rfl, hw⟩
    · exact absurd (hb.1 rfl) hno
  go_enter Tryd.func54, Tryd.ntmps54
  go_wp2_with fail
  refine (rCounts_any _ _ _).mono ?_
  rintro e w' ⟨rfl, rfl⟩
  go_wp2_with fail
  refine Calls.mono HSH.out ?_
  rintro e w2 ⟨rfl, hw2⟩
  go_wp2
  go_ret2
  exact ⟨rfl, hw2⟩
set_option maxRecDepth 100000 in
set_option maxHeartbeats 1000000 in
theorem rChange_range (d s n : Nat) (a : Int) (pieces : List ByteArray) (pv : Value) (text : ByteArray) (w : World) (hp : StrsAt w pv pieces) (hpl : pieces.length < 2 ^ 62) (hd : 1 ≤ d) (hd2 : d ≤ 10) (hs : s ≤ 6) (hn : n ≤ 400) (hsz : ∀ p, (h : p < pieces.length) → pieces[p].size < 2 ^ 62)
    (ha1 : -(2 : Int) ^ 63 ≤ a) (ha2 : a < (2 : Int) ^ 63) (hyes : ShapeOk d s ((n + d - 1) / d) pieces []) (hr : ¬ (0 ≤ a ∧ a + text.size ≤ n)) :
    Calls Tryd.prog 54 #[.int .i64 d, .int .i64 s, .int .i64 n, pv, .int .i64 a, .string text] w fun e w' => CNo 8 e ∧ Drew w w' := by
  have hok : okCounts d s = true := okCounts_yes _ _ (by omega)
  have e1 : decide ((n : Int) < 0) = false := decide_eq_false (by omega)
  have e2 : decide ((400 : Int) < (n : Int)) = false := decide_eq_false (by omega)
  have HSH : Hid (Calls Tryd.prog 69 #[.int .i64 d, .int .i64 s, .int .i64 n, pv, .slice none 0 0] w fun e w'' => e = .returned (.bool true) ∧ Drew w w'') := by
    refine (shaped_any d s n _ pieces [] pv _ w hp ⟨none, 0, rfl, .inl rfl⟩ (by simp) hpl hd hd2 hs hn rfl hsz).mono ?_
    rintro e w'' ⟨⟨b, rfl, hb⟩, hw⟩
    rw [hb.2 hyes]
    exact ⟨rfl, hw⟩
  by_cases h0 : a < 0
  · have e4 : decide (a < 0) = true := decide_eq_true h0
    go_enter Tryd.func54, Tryd.ntmps54
    go_wp2_with fail
    refine (rCounts_any _ _ _).mono ?_
    rintro e w' ⟨rfl, rfl⟩
    go_wp2_with fail
    refine Calls.mono HSH.out ?_
    rintro e w2 ⟨rfl, hw2⟩
    go_wp2
    go_ret2
    exact ⟨rfl, hw2⟩
  · have e4 : decide (a < 0) = false := decide_eq_false h0
    by_cases h5 : (n : Int) < a
    · have e5 : decide ((n : Int) < a) = true := decide_eq_true h5
      go_enter Tryd.func54, Tryd.ntmps54
      go_wp2_with fail
      refine (rCounts_any _ _ _).mono ?_
      rintro e w' ⟨rfl, rfl⟩
      go_wp2_with fail
      refine Calls.mono HSH.out ?_
      rintro e w2 ⟨rfl, hw2⟩
      go_wp2
      go_ret2
      exact ⟨rfl, hw2⟩
    · have e5 : decide ((n : Int) < a) = false := decide_eq_false h5
      have e6 : decide ((n : Int) - a < (text.size : Int)) = true := decide_eq_true (by omega)
      go_enter Tryd.func54, Tryd.ntmps54
      go_wp2_with fail
      refine (rCounts_any _ _ _).mono ?_
      rintro e w' ⟨rfl, rfl⟩
      go_wp2_with fail
      refine Calls.mono HSH.out ?_
      rintro e w2 ⟨rfl, hw2⟩
      go_wp2
      go_ret2
      exact ⟨rfl, hw2⟩
end Go.Proofs.YtlnpppdffhibjaaDoor.Ref

namespace Go.Proofs.YtlnpppdffhibjaaDoor.KeepW
open Go.RowKit Mem FieldWalks Tab ByTab Parts Ref Top
open Gf (newP)
open Plans (rowF)

/-- What of a writing has room behind its place. -/
def fitS (T txt : ByteArray) (a : Nat) : ByteArray := if T.size - a < txt.size then txt.extract 0 (T.size - a) else txt
theorem fitS_size (T txt : ByteArray) (a : Nat) (h : a ≤ T.size) : a + (fitS T txt a).size ≤ T.size := by
  unfold fitS
  split
  · rw [ByteArray.size_extract]; omega
  · omega
set_option maxRecDepth 100000 in
set_option maxHeartbeats 400000 in
theorem place_any (at_ : Int) (txt T : ByteArray) (w : World) (h1 : -9223372036854775808 ≤ at_) (h2 : at_ ≤ 9223372036854775807) (hT : T.size ≤ 400) (htx : txt.size < 2 ^ 62) :
    Calls Tryd.prog 31 #[.agg #[.int .i64 at_, .string txt], .string T] w fun e w' => e = .returned (.tuple #[.int .i64 (pickI at_ (T.size + 1) : Nat), .string (fitS T txt (pickI at_ (T.size + 1)))]) ∧ Below w.heap.size w w' := by
  have hlt := pickI_lt at_ (T.size + 1) (by omega)
  obtain ⟨a, ha⟩ : ∃ a, a = pickI at_ (T.size + 1) := ⟨_, rfl⟩
  have HP : Hid (∀ W, Calls Tryd.prog 16 #[.int .i64 at_, .int .i64 ((T.size : Int) + 1)] W fun e w' => e = .returned (.int .i64 (a : Nat)) ∧ w' = W) := by
    intro W
    have := kpick_any at_ (T.size + 1) W (by omega) (by omega) h1 h2
    rw [show ((T.size + 1 : Nat) : Int) = (T.size : Int) + 1 by omega, ← ha] at this
    exact this
  rw [← ha] at hlt ⊢
  clear ha
  by_cases h : T.size - a < txt.size
  · have e0 : Hid (fitS T txt a = txt.extract 0 (T.size - a)) := if_pos h
    have e1 : decide ((T.size : Int) - (a : Int) < (txt.size : Int)) = true := decide_eq_true (by omega)
    have z1 : (0 : Int) ≤ (T.size : Int) - (a : Int) := by omega
    have z2 : ((T.size : Int) - (a : Int)).toNat = T.size - a := by omega
    have z3 : (T.size : Int) - (a : Int) ≤ (txt.size : Int) := by omega
    go_enter Tryd.func31, Tryd.ntmps31
    go_wp2_with fail
    refine (HP.out _).mono ?_
    rintro e w' ⟨rfl, rfl⟩
    go_wp2
    go_ret2
    refine ⟨?_, (Below.refl _ _).alloc (Nat.le_refl _) _⟩
    rw [e0.out]
    first
      | rfl
      | (rw [← z2]; rfl)
  · have e0 : Hid (fitS T txt a = txt) := if_neg h
    have e1 : decide ((T.size : Int) - (a : Int) < (txt.size : Int)) = false := decide_eq_false (by omega)
    go_enter Tryd.func31, Tryd.ntmps31
    go_wp2_with fail
    refine (HP.out _).mono ?_
    rintro e w' ⟨rfl, rfl⟩
    go_wp2
    go_ret2
    refine ⟨?_, (Below.refl _ _).alloc (Nat.le_refl _) _⟩
    rw [e0.out]; rfl

theorem nums_append (a b : ByteArray) : nums (a ++ b) = nums a ++ nums b := by simp [nums, ByteArray.data_append]
theorem nums_take (a : ByteArray) (n : Nat) : nums (a.extract 0 n) = (nums a).take n := by
  simp only [nums]
  rw [ByteArray.data_extract]
  simp [Array.toList_extract, List.extract_eq_take_drop, List.map_take]
/-- A text, written over. -/
def overS (T : ByteArray) (a : Nat) (s : ByteArray) : ByteArray := T.extract 0 a ++ s ++ T.extract (a + s.size) T.size
theorem overS_nums (T s : ByteArray) (a : Nat) : nums (overS T a s) = overL (nums T) a (nums s) := by
  unfold overS overL
  rw [nums_append, nums_append, nums_take, nums_drop, nums_length]
theorem overS_size (T s : ByteArray) (a : Nat) (h : a + s.size ≤ T.size) : (overS T a s).size = T.size := by
  rw [← nums_length, overS_nums, overL_length _ _ _ (by rw [nums_length, nums_length]; exact h), nums_length]
set_option maxRecDepth 100000 in
set_option maxHeartbeats 400000 in
theorem over_any' (T s : ByteArray) (a : Nat) (w : World) (h : a + s.size ≤ T.size) (hT : T.size ≤ 400) :
    Calls Tryd.prog 32 #[.string T, .int .i64 a, .string s] w fun e w' => e = .returned (.string (overS T a s)) ∧ Drew w w' := by
  have z1 : (a : Int) ≤ (T.size : Int) := by omega
  have z2 : (a : Int) + (s.size : Int) ≤ (T.size : Int) := by omega
  have z3 : ((a : Int) + (s.size : Int)).toNat = a + s.size := by omega
  have z4 : (0 : Int) ≤ (a : Int) + (s.size : Int) := by omega
  have z5 : IntKind.i64.wrap ((a : Int) + (s.size : Int)) = (a : Int) + (s.size : Int) := by rw [IntKind.wrap_i64]; omega
  have z6 : (T.extract 0 a).size ≤ 400 := by rw [ByteArray.size_extract]; omega
  have z7 : (T.extract 0 a ++ s).size ≤ 800 := by rw [ByteArray.size_append]; omega
  have z8 : (T.extract (a + s.size) T.size).size ≤ 400 := by rw [ByteArray.size_extract]; omega
  have z9 : s.size ≤ 400 := by omega
  go_enter Tryd.func32, Tryd.ntmps32
  go_wp2
  go_quiet (fail)
  go_wp2
  go_ret
  exact ⟨rfl, nq, rfl⟩
end Go.Proofs.YtlnpppdffhibjaaDoor.KeepW

namespace Go.Proofs.YtlnpppdffhibjaaDoor.KeepW
open Go.RowKit Mem FieldWalks Tab ByTab Parts Ref Top
open Gf (newP)
open Plans (rowF)

/-- The program's Change answers as it must. -/
def ChangeYes : Prop := ∀ (d s n a L : Nat) (pieces : List ByteArray) (text : ByteArray) (pv : Value) (w : World), Table w → StrsAt w pv pieces → 1 ≤ d → d ≤ 10 → s ≤ 6 → n ≤ 400 → L = (n + d - 1) / d →
  (∀ p, (h : p < pieces.length) → pieces[p].size < 2 ^ 62) → ShapeOk d s L pieces [] → a + text.size ≤ n →
  Calls Tryd.prog 26 #[.int .i64 d, .int .i64 s, .int .i64 n, pv, .int .i64 a, .string text] w fun e w' => ∃ v, e = .returned (.tuple #[v, .int .i64 0]) ∧
    StrsAt w' v ((List.range (d + s)).map fun p => mkS (rowF L (newP d L a (nums text) text.size (oldOf pieces) p))) ∧ Below w.heap.size w w'
/-- It says when a writing goes beyond the text. -/
def ChangeOut : Prop := ∀ (d s n a L : Nat) (pieces : List ByteArray) (text : ByteArray) (pv : Value) (w : World), Table w → StrsAt w pv pieces → 1 ≤ d → d ≤ 10 → s ≤ 6 → n ≤ 400 → L = (n + d - 1) / d →
  (∀ p, (h : p < pieces.length) → pieces[p].size < 2 ^ 62) → ShapeOk d s L pieces [] → a ≤ 1000 → text.size ≤ 1000 → n < a + text.size →
  Calls Tryd.prog 26 #[.int .i64 d, .int .i64 s, .int .i64 n, pv, .int .i64 a, .string text] w fun e w' => e = .returned (.tuple #[.slice none 0 0, .int .i64 8]) ∧ Below w.heap.size w w'
/-- The slice v reads as these writings. -/
def WrAt (w : World) (v : Value) (ws : List (Int × ByteArray)) : Prop :=
  ∃ ao cap, v = .slice ao ws.length cap ∧ (ws = [] ∨ ∃ b off, ao = some ⟨b, off, none⟩ ∧ b < w.heap.size ∧ ∀ k, (h : k < ws.length) → w.cell? ⟨b, off + k * 2, none⟩ = some (.int .i64 ws[k].1) ∧ w.cell? ⟨b, off + k * 2 + 1, none⟩ = some (.string ws[k].2))
theorem pieces_shape (d s : Nat) (T : ByteArray) : ShapeOk d s ((T.size + d - 1) / d) (pieces d s T) [] := ⟨pieces_length d s T, fun k hk => by simp at hk, fun p hp _ => pieces_sizes d s T p hp⟩

set_option maxRecDepth 100000 in
set_option maxHeartbeats 4000000 in
theorem kchanged_any (hS : SumsOk) (hY : ChangeYes) (hR : ChangeOut) (data spare way : Int) (text : ByteArray) (ws : List (Int × ByteArray)) (wv : Value) (w : World) (ht : Table w) (hw0 : 0 < w.heap.size) (hwr : WrAt w wv ws) (_hwl : ws.length < 2 ^ 62) (hwb : ∀ x, x ∈ ws → -9223372036854775808 ≤ x.1 ∧ x.1 ≤ 9223372036854775807 ∧ x.2.size < 2 ^ 62)
    (hd1 : -9223372036854775808 ≤ data) (hd2 : data ≤ 9223372036854775807) (hs1 : -9223372036854775808 ≤ spare) (hs2 : spare ≤ 9223372036854775807) (hx1 : -9223372036854775808 ≤ way) (hx2 : way ≤ 9223372036854775807) :
    Calls Tryd.prog 9 #[.int .i64 data, .int .i64 spare, .int .i64 way, .string text, wv] w fun e w' => e = .returned (.bool true) ∧ Below w.heap.size w w' := by
  have HS0 := kspread_any hS data spare way text w ht hw0 hd1 hd2 hs1 hs2 hx1 hx2
  obtain ⟨wao, wcap, rfl, hwc⟩ := hwr
  have HWC : Hid (ws = [] ∨ ∃ b off, wao = some ⟨b, off, none⟩ ∧ b < w.heap.size ∧ ∀ k, (h : k < ws.length) → w.cell? ⟨b, off + k * 2, none⟩ = some (.int .i64 ws[k].1) ∧ w.cell? ⟨b, off + k * 2 + 1, none⟩ = some (.string ws[k].2)) := hwc
  have HWB : Hid (∀ x, x ∈ ws → -9223372036854775808 ≤ x.1 ∧ x.1 ≤ 9223372036854775807 ∧ x.2.size < 2 ^ 62) := hwb
  obtain ⟨d, hd⟩ : ∃ d, d = 1 + pickI data 10 := ⟨_, rfl⟩
  obtain ⟨s, hs⟩ : ∃ s, s = pickI spare 7 := ⟨_, rfl⟩
  obtain ⟨T, hT⟩ : ∃ T, T = shortS text := ⟨_, rfl⟩
  have b1 := pickI_lt data 10 (by omega)
  have b2 := pickI_lt spare 7 (by omega)
  have hTs : T.size ≤ 400 := by rw [hT]; exact shortS_size _
  rw [← hd, ← hs, ← hT] at HS0
  have hd0 : 1 ≤ d := by omega
  have hd10 : d ≤ 10 := by omega
  have hs6 : s ≤ 6 := by omega
  have HDS : Hid (d = 1 + pickI data 10 ∧ s = pickI spare 7) := ⟨hd, hs⟩
  have HSP : Hid (Calls Tryd.prog 28 #[.int .i64 data, .int .i64 spare, .int .i64 way, .string text] w fun e w' => ∃ b lb, e = .returned (.pointer (some ⟨b, 0, none⟩)) ∧ Spr w' w.heap.size b d s T lb ∧ Below w.heap.size w w') := HS0
  clear hd hs hT b1 b2 HS0 hwb hwc
  go_enter Tryd.func9, Tryd.ntmps9
  go_wp2_with fail
  refine Calls.mono HSP.out ?_
  rintro e w1 ⟨b, lb, rfl, hspr, hb1⟩
  have c2 := hspr.obj.cell_some (k := 2) rfl
  have c3 := hspr.obj.cell_some (k := 3) rfl
  have hbl := hspr.obj.lt
  have HSPR : Hid (Spr w1 w.heap.size b d s T lb) := hspr
  have HB1 : Hid (Below w.heap.size w w1) := hb1
  have HST : Hid (StrsAt w1 (.slice (some ⟨lb, 0, none⟩) (d + s) (d + s)) (pieces d s T)) := StrsAt.of_blk hspr.list _ _ (pieces_length d s T).symm
  clear hspr hb1 HSP
  go_wp2
  go_loopw [12, 13, 14] (fun lv tv iv wr => ∃ (i : Nat) (C : ByteArray), i ≤ ws.length ∧ i ≤ 20 ∧ iv = .int .i64 i ∧ tv = .string C ∧ C.size = T.size ∧ StrsAt wr lv (pieces d s C) ∧ Below w1.heap.size w1 wr) (fun _ _ iv _ => 20 - (intOf iv).toNat)
  case atStart => exact ⟨0, T, Nat.zero_le _, by omega, rfl, rfl, rfl, HST.out, Below.refl _ _⟩
  case round =>
    clear HST c2 c3
    obtain ⟨i, C, hi, hi20, rfl, rfl, hC, hst, hbel⟩ := hrel
    obtain ⟨la, lc, rfl⟩ : ∃ ao c, _ = Value.slice ao (d + s) c := by obtain ⟨ao, c, h, _⟩ := hst; rw [pieces_length] at h; exact ⟨ao, c, h⟩
    have HST : Hid (StrsAt wr (.slice la (d + s) lc) (pieces d s C)) := hst
    have HBE : Hid (Below w1.heap.size w1 wr) := hbel
    have hCs : C.size ≤ 400 := by omega
    have HCT : Hid (C.size = T.size) := hC
    have hszr := hbel.size
    have q0 := (hbel.cell (p := ⟨b, 0, none⟩) hbl).trans (HSPR.out.obj.cell_some (k := 0) rfl)
    have q1 := (hbel.cell (p := ⟨b, 1, none⟩) hbl).trans (HSPR.out.obj.cell_some (k := 1) rfl)
    have htr : Table wr := table_below ht (HB1.out.trans (hbel.mono HB1.out.size)) hw0
    clear hC
    by_cases hgo : i < ws.length ∧ i < 20
    · obtain ⟨hil, hi2⟩ := hgo
      have e1 : decide ((i : Int) < (ws.length : Int)) = true := decide_eq_true (by omega)
      have e2 : decide ((i : Int) < 20) = true := decide_eq_true (by omega)
      obtain ⟨wb, woff, rfl, hwbl, hwcl⟩ : ∃ b off, wao = some ⟨b, off, none⟩ ∧ b < w.heap.size ∧ ∀ k, (h : k < ws.length) → w.cell? ⟨b, off + k * 2, none⟩ = some (.int .i64 ws[k].1) ∧ w.cell? ⟨b, off + k * 2 + 1, none⟩ = some (.string ws[k].2) := by
        rcases HWC.out with h | h
        · rw [h] at hil; simp at hil
        · exact h
      obtain ⟨r0, r1⟩ := hwcl i hil
      have hbw : Below w.heap.size w wr := HB1.out.trans (hbel.mono HB1.out.size)
      rw [← hbw.cell (p := ⟨wb, woff + i * 2, none⟩) hwbl] at r0
      rw [← hbw.cell (p := ⟨wb, woff + i * 2 + 1, none⟩) hwbl] at r1
      obtain ⟨hb0, hb1', hb2'⟩ := HWB.out _ (List.getElem_mem hil)
      obtain ⟨pa, hpa⟩ : ∃ pa, pa = ws[i].1 := ⟨_, rfl⟩
      obtain ⟨px, hpx⟩ : ∃ px, px = ws[i].2 := ⟨_, rfl⟩
      rw [← hpa] at r0 hb0 hb1'
      rw [← hpx] at r1 hb2'
      obtain ⟨a, ha⟩ : ∃ a, a = pickI pa (C.size + 1) := ⟨_, rfl⟩
      have haC : a ≤ C.size := by rw [ha]; have := pickI_lt pa (C.size + 1) (by omega); omega
      obtain ⟨f, hf⟩ : ∃ f, f = fitS C px a := ⟨_, rfl⟩
      have hfs : a + f.size ≤ C.size := by rw [hf]; exact fitS_size C px a haC
      have HPL : Hid (Calls Tryd.prog 31 #[.agg #[.int .i64 pa, .string px], .string C] wr fun e w' => e = .returned (.tuple #[.int .i64 (a : Nat), .string f]) ∧ Below wr.heap.size wr w') := by
        have := place_any pa px C wr hb0 hb1' hCs hb2'
        rw [← ha, ← hf] at this; exact this
      obtain ⟨C2, hC2⟩ : ∃ C2, C2 = overS C a f := ⟨_, rfl⟩
      have hC2s : C2.size = C.size := by rw [hC2]; exact overS_size C f a hfs
      have HC2S : Hid (C2.size = C.size) := hC2s
      have HOV : Hid (∀ W, Calls Tryd.prog 32 #[.string C, .int .i64 (a : Nat), .string f] W fun e w' => e = .returned (.string C2) ∧ Drew W w') := by
        intro W; rw [hC2]; exact over_any' C f a W hfs hCs
      have hsm : ∀ (Z : ByteArray), Z.size ≤ 400 → ∀ p, (h : p < (pieces d s Z).length) → (pieces d s Z)[p].size < 2 ^ 62 := fun Z hZ p h => by
        rw [pieces_sizes]; have := ceil_le Z.size d hd0; omega
      have HCH : Hid (∀ W, Below wr.heap.size wr W → Calls Tryd.prog 26 #[.int .i64 d, .int .i64 s, .int .i64 (C.size : Nat), .slice la (d + s) lc, .int .i64 (a : Nat), .string f] W fun e w' => ∃ v, e = .returned (.tuple #[v, .int .i64 0]) ∧ StrsAt w' v (pieces d s C2) ∧ Below W.heap.size W w') := by
        intro W hW
        have hWt : Table W := table_below htr hW (by omega)
        refine Calls.mono (hY d s C.size a ((C.size + d - 1) / d) (pieces d s C) f _ W hWt (HST.out.to hW) hd0 hd10 hs6 hCs rfl (hsm C hCs) (pieces_shape d s C) hfs) ?_
        rintro e w' ⟨v, he, h1, h2⟩
        rw [change_pieces d s a C C2 f (by omega) hfs (by rw [hC2]; exact overS_nums C f a)] at h1
        exact ⟨v, he, h1, h2⟩
      have HCO : Hid (∀ (W : World) (v : Value), Table W → StrsAt W v (pieces d s C2) → Calls Tryd.prog 26 #[.int .i64 d, .int .i64 s, .int .i64 (C2.size : Nat), v, .int .i64 ((C2.size : Int) + 1), .string ⟨#[]⟩] W fun e w' => e = .returned (.tuple #[.slice none 0 0, .int .i64 8]) ∧ Below W.heap.size W w') := by
        intro W v hWt hv
        have := hR d s C2.size (C2.size + 1) ((C2.size + d - 1) / d) (pieces d s C2) ByteArray.empty v W hWt hv hd0 hd10 hs6 (by omega) rfl (hsm C2 (by omega)) (pieces_shape d s C2) (by omega) (by decide) (by omega)
        rw [show ((C2.size + 1 : Nat) : Int) = (C2.size : Int) + 1 by omega] at this
        exact this
      have hbr : b < wr.heap.size := by omega
      have hwr0 : 0 < wr.heap.size := by omega
      have z1 : (i : Int) < (ws.length : Int) := by omega
      have hC24 : C2.size ≤ 400 := by omega
      clear hwcl hbw hpa hpx ha hf hC2 hsm hst hbel hb0 hb1' hb2' hC2s
      go_wp2_with fail
      refine Calls.mono HPL.out ?_
      rintro e w2 ⟨rfl, hb2⟩
      have p0 := (hb2.cell (p := ⟨b, 0, none⟩) hbr).trans q0
      have p1 := (hb2.cell (p := ⟨b, 1, none⟩) hbr).trans q1
      have hb2r : b < w2.heap.size := Nat.lt_of_lt_of_le hbr hb2.size
      have HB2 : Hid (Below wr.heap.size wr w2) := hb2
      clear hb2
      go_wp2_with fail
      go_region_held3 (fun wx => wx.cell? ⟨b, 0, none⟩ = some (.int .i64 (d : Int)) ∧ wx.cell? ⟨b, 1, none⟩ = some (.int .i64 (s : Int))) (go_keep) (first | (go_at_call 26; refine Calls.mono (HCH.out _ HB2.out.drew) ?_; rintro e w3 ⟨v3, rfl, hst3, hb3⟩; have o0 := (hb3.cell (p := ⟨b, 0, none⟩) hb2r).trans p0; have o1 := (hb3.cell (p := ⟨b, 1, none⟩) hb2r).trans p1))
      have hb23 : Below wr.heap.size wr w3 := HB2.out.drew.trans (hb3.mono HB2.out.size)
      have ht3 : Table w3 := table_below htr hb23 hwr0
      obtain ⟨va3, vc3, rfl⟩ : ∃ ao c, v3 = Value.slice ao (d + s) c := by obtain ⟨ao, c, h, _⟩ := hst3; rw [pieces_length] at h; exact ⟨ao, c, h⟩
      have HST3 : Hid (StrsAt w3 (.slice va3 (d + s) vc3) (pieces d s C2)) := hst3
      have HB3 : Hid (Below wr.heap.size wr w3) := hb23
      have HT3 : Hid (Table w3) := ht3
      clear hb23 ht3 hst3 hb3 p0 p1 HB2
      go_wp2_with fail
      refine (HOV.out _).mono ?_
      rintro e w4 ⟨rfl, D4⟩
      have n0 := (D4.cell _).trans o0
      have n1 := (D4.cell _).trans o1
      have hst4 := HST3.out.to D4.below
      have hb34 : Below wr.heap.size wr w4 := HB3.out.trans (D4.below.mono HB3.out.size)
      have hbr4 : b < w4.heap.size := Nat.lt_of_lt_of_le hbr hb34.size
      have ht4 : Table w4 := table_below htr hb34 hwr0
      have HST4 : Hid (StrsAt w4 (.slice va3 (d + s) vc3) (pieces d s C2)) := hst4
      have HB4 : Hid (Below wr.heap.size wr w4) := hb34
      have HCO4 : Hid (Calls Tryd.prog 26 #[.int .i64 d, .int .i64 s, .int .i64 (C2.size : Nat), .slice va3 (d + s) vc3, .int .i64 ((C2.size : Int) + 1), .string ⟨#[]⟩] w4.drew fun e w' => e = .returned (.tuple #[.slice none 0 0, .int .i64 8]) ∧ Below w4.heap.size w4.drew w') := HCO.out w4.drew _ ht4 (hst4.to (Below.refl _ _).drew)
      have y7 : IntKind.i64.wrap ((C2.size : Int) + 1) = (C2.size : Int) + 1 := by rw [IntKind.wrap_i64]; omega
      clear o0 o1 D4 hst4 hb34 ht4 HST3 HB3 HT3 HCO
      go_wp2_with fail
      go_region_held3 (fun wx => wx.cell? ⟨b, 0, none⟩ = some (.int .i64 (d : Int)) ∧ wx.cell? ⟨b, 1, none⟩ = some (.int .i64 (s : Int))) (go_keep) (first | (go_at_call 26; refine Calls.mono HCO4.out ?_; rintro e w5 ⟨rfl, hb5⟩; have m0 := (hb5.cell (p := ⟨b, 0, none⟩) hbr4).trans n0; have m1 := (hb5.cell (p := ⟨b, 1, none⟩) hbr4).trans n1))
      have HST5 : Hid (StrsAt w5 (.slice va3 (d + s) vc3) (pieces d s C2)) := (HST4.out.to (Below.refl _ _).drew).to hb5
      have HB5 : Hid (Below w1.heap.size w1 w5) := HBE.out.trans ((HB4.out.drew.trans (hb5.mono HB4.out.size)).mono hszr)
      clear hb5 HST4 HB4 m0 m1 n0 n1
      go_wp2
      go_roundw
      case rel => exact ⟨i + 1, C2, by omega, by omega, by go_num, rfl, by rw [HC2S.out]; exact HCT.out, HST5.out, HB5.out⟩
      case measure => simp [intOf]; omega
    · have hshort : shortS C = C := by unfold shortS; rw [if_neg (by omega)]
      obtain ⟨c', hc'⟩ : ∃ c', c' = IntKind.i64.wrap (way + 1) := ⟨_, rfl⟩
      have hcb : -9223372036854775808 ≤ c' ∧ c' ≤ 9223372036854775807 := by rw [hc', IntKind.wrap_i64]; omega
      have hw64 : wrap64 (way + 1) = c' := by
        rw [hc']
        first
          | rfl
          | (rw [IntKind.wrap_i64]; rfl)
          | (rw [IntKind.wrap_i64]; unfold wrap64; omega)
      have HSP2 : Hid (Calls Tryd.prog 28 #[.int .i64 data, .int .i64 spare, .int .i64 (wrap64 (way + 1)), .string C] wr fun e w' => ∃ b lb, e = .returned (.pointer (some ⟨b, 0, none⟩)) ∧ Spr w' wr.heap.size b d s C lb ∧ Below wr.heap.size wr w') := by
        have := kspread_any hS data spare c' C wr htr (by omega) hd1 hd2 hs1 hs2 hcb.1 hcb.2
        rw [hshort, ← HDS.out.1, ← HDS.out.2, ← hw64] at this
        exact this
      have HFIN : Hid (∀ e w', (∃ b lb, e = Ending.returned (.pointer (some ⟨b, 0, none⟩)) ∧ Spr w' wr.heap.size b d s C lb ∧ Below wr.heap.size wr w') → ∃ b lb, e = Ending.returned (.pointer (some ⟨b, 0, none⟩)) ∧ w'.cell? ⟨b, 3, none⟩ = some (.slice (some ⟨lb, 0, none⟩) (d + s) (d + s)) ∧ StrsAt w' (.slice (some ⟨lb, 0, none⟩) (d + s) (d + s)) (pieces d s C) ∧ StrsAt w' (.slice la (d + s) lc) (pieces d s C) ∧ Below w.heap.size w w') := by
        rintro e w' ⟨b', lb', he, hs', hb'⟩
        exact ⟨b', lb', he, hs'.obj.cell_some (k := 3) rfl, StrsAt.of_blk hs'.list _ _ (pieces_length d s C).symm, HST.out.to hb', (HB1.out.trans (HBE.out.mono HB1.out.size)).trans (hb'.mono (Nat.le_trans HB1.out.size hszr))⟩
      have HPN : Hid ((pieces d s C).length ≤ 1000) := by show _ ≤ _; rw [pieces_length]; omega
      clear hst hbel hc' hcb hshort q0 q1 htr hw64
      by_cases hil : i < ws.length
      · have e1 : decide ((i : Int) < (ws.length : Int)) = true := decide_eq_true (by omega)
        have e2 : decide ((i : Int) < 20) = false := decide_eq_false (by omega)
        clear hgo
        go_wp2_with fail
        refine Calls.mono HSP2.out ?_
        intro e w2 hh
        obtain ⟨b', lb', rfl, k3, hsy, hsl, hbw⟩ := HFIN.out e w2 hh
        have HSM : Hid (Calls Tryd.prog 30 #[.slice la (d + s) lc, .slice (some ⟨lb', 0, none⟩) (d + s) (d + s)] w2 fun e w' => e = .returned (.bool true) ∧ ∃ n, w' = w2.drewN n) := ksame_yes (pieces d s C) _ _ w2 hsl hsy HPN.out
        clear hh hsy hsl
        go_wp2_with fail
        refine Calls.mono HSM.out ?_
        rintro e w3 ⟨rfl, n3, rfl⟩
        go_wp2
        go_ret
        exact ⟨rfl, below_drewN hbw n3⟩
      · have e1 : decide ((i : Int) < (ws.length : Int)) = false := decide_eq_false (by omega)
        clear hgo
        go_wp2_with fail
        refine Calls.mono HSP2.out ?_
        intro e w2 hh
        obtain ⟨b', lb', rfl, k3, hsy, hsl, hbw⟩ := HFIN.out e w2 hh
        have HSM : Hid (Calls Tryd.prog 30 #[.slice la (d + s) lc, .slice (some ⟨lb', 0, none⟩) (d + s) (d + s)] w2 fun e w' => e = .returned (.bool true) ∧ ∃ n, w' = w2.drewN n) := ksame_yes (pieces d s C) _ _ w2 hsl hsy HPN.out
        clear hh hsy hsl
        go_wp2_with fail
        refine Calls.mono HSM.out ?_
        rintro e w3 ⟨rfl, n3, rfl⟩
        go_wp2
        go_ret
        exact ⟨rfl, below_drewN hbw n3⟩
end Go.Proofs.YtlnpppdffhibjaaDoor.KeepW

/- The factors, in new memory: what a call that writes elsewhere keeps. -/
namespace Go.Proofs.YtlnpppdffhibjaaDoor.Parts
open Go.RowKit Mem FieldWalks Tab ByTab

/-- The first i rows of the list at B lie in blocks from base on. -/
def Above (w : World) (B i base : Nat) : Prop := ∀ k, k < i → ∃ b n c, w.cell? ⟨B, k, none⟩ = some (.slice (some ⟨b, 0, none⟩) n c) ∧ base ≤ b
theorem Above.laid {w W : World} {B n i base b m c : Nat} {f : Nat → List Nat} (h : Above w B i base) (hl : Laid w W B i (.slice (some ⟨b, 0, none⟩) m c)) (hf : Filled w B n i f) (hi : i < n) (hb : base ≤ b) : Above W B (i + 1) base := by
  intro k hk
  by_cases e : k = i
  · subst e
    exact ⟨b, m, c, (hl.cell hf hi).1, hb⟩
  · obtain ⟨b', m', c', hc, hb'⟩ := h k (by omega)
    refine ⟨b', m', c', ?_, hb'⟩
    rw [World.cell?_of_block (w := w.setCell ⟨B, i, none⟩ _) (a := ⟨B, k, none⟩) hl.row, World.cell?_setCell_other _ _ _ _ (by intro h; injection h; omega)]
    exact hc
/-- The slice v reads as these rows; all of it lies in blocks from base on. -/
def RowsNew (w : World) (base : Nat) (v : Value) (rows : List (List Nat)) : Prop :=
  ∃ g c, v = .slice (some ⟨g, 0, none⟩) rows.length c ∧ base ≤ g ∧ g < w.heap.size ∧ ∀ k, (h : k < rows.length) → ∃ b c', base ≤ b ∧ b < w.heap.size ∧ w.cell? ⟨g, k, none⟩ = some (.slice (some ⟨b, 0, none⟩) rows[k].length c') ∧ ∀ j, (hj : j < rows[k].length) → w.cell? ⟨b, j, none⟩ = some (.int .u8 (rows[k][j] : Nat))
/-- All blocks from base on are as they were. -/
def Over (base : Nat) (w w' : World) : Prop := w.heap.size ≤ w'.heap.size ∧ ∀ b, base ≤ b → b < w.heap.size → w'.heap[b]? = w.heap[b]?
theorem Over.refl (base : Nat) (w : World) : Over base w w := ⟨Nat.le_refl _, fun _ _ _ => rfl⟩
theorem Over.to {base : Nat} {w w' w'' : World} (h : Over base w w') (hb : Below w'.heap.size w' w'') : Over base w w'' :=
  ⟨Nat.le_trans h.1 hb.size, fun b h1 h2 => (hb.block b (Nat.lt_of_lt_of_le h2 h.1)).trans (h.2 b h1 h2)⟩
theorem Over.setCell {base : Nat} {w w' : World} (h : Over base w w') {a : Addr} (ha : a.block < base) (v : Value) : Over base w (w'.setCell a v) :=
  ⟨by rw [size_setCell]; exact h.1, fun b h1 h2 => (Below.heap_setCell w' a v b (by omega)).trans (h.2 b h1 h2)⟩
theorem Over.drew {base : Nat} {w w' : World} (h : Over base w w') : Over base w w'.drew := h
theorem RowsNew.over {w w' : World} {base : Nat} {v : Value} {rows : List (List Nat)} (h : RowsNew w base v rows) (ho : Over base w w') : RowsNew w' base v rows := by
  obtain ⟨g, c, rfl, h1, h2, h3⟩ := h
  refine ⟨g, c, rfl, h1, Nat.lt_of_lt_of_le h2 ho.1, fun k hk => ?_⟩
  obtain ⟨b, c', b1, b2, b3, b4⟩ := h3 k hk
  exact ⟨b, c', b1, Nat.lt_of_lt_of_le b2 ho.1, by rw [World.cell?_of_block (ho.2 g h1 h2)]; exact b3, fun j hj => by rw [World.cell?_of_block (ho.2 b b1 b2)]; exact b4 j hj⟩
theorem RowsNew.rows {w : World} {base : Nat} {v : Value} {rows : List (List Nat)} (h : RowsNew w base v rows) : RowsAt w v rows := by
  obtain ⟨g, c, rfl, h1, h2, h3⟩ := h
  refine ⟨_, c, rfl, .inr ⟨g, 0, rfl, h2, fun k hk => ?_⟩⟩
  obtain ⟨b, c', b1, b2, b3, b4⟩ := h3 k hk
  exact ⟨_, by rw [Nat.zero_add]; exact b3, _, c', rfl, .inr ⟨b, 0, rfl, b2, fun j hj => by rw [Nat.zero_add]; exact b4 j hj⟩⟩
theorem filled_rowsNew {w : World} {B n base : Nat} {f : Nat → List Nat} (h : Filled w B n n f) (ha : Above w B n base) (hB : base ≤ B) {rows : List (List Nat)} (hr : rows.length = n) (he : ∀ k, (h : k < rows.length) → rows[k] = f k) : RowsNew w base (.slice (some ⟨B, 0, none⟩) n n) rows := by
  refine ⟨B, n, by rw [hr], hB, h.lt, fun k hk => ?_⟩
  obtain ⟨u, hu, b, rfl, hb⟩ := h.row (k := k) (by omega)
  obtain ⟨b', m', c', hc, hb'⟩ := ha k (by omega)
  rw [hu] at hc
  injection hc with hc
  injection hc with hc _ _
  injection hc with hc
  injection hc with hc
  subst hc
  rw [← he k hk] at hu hb
  exact ⟨b, _, hb', hb.lt, hu, fun j hj => hb.cell_some (bytesV_at hj)⟩

set_option maxRecDepth 100000 in
set_option maxHeartbeats 1000000 in
theorem factors_new (d s : Nat) (hd : d ≤ 100) (hs : s ≤ 100) (w : World) (ht : Table w) :
    Calls Tryd.prog 72 #[.int .i64 d, .int .i64 s] w fun e w' => ∃ v, e = .returned v ∧ RowsNew w' w.heap.size v (facs d s) ∧ Below w.heap.size w w' := by
  have hmk := fun w => make_rows s (by omega) w
  have hmb := fun w => make_bytes d (by omega) w
  go_enter Tryd.func72, Tryd.ntmps72
  go_wp2
  go_loopw [12] (fun i wr => ∃ k : Nat, k ≤ s ∧ i = .int .i64 k ∧ Filled wr w.heap.size s k (facRow d) ∧ Above wr w.heap.size k w.heap.size ∧ Below w.heap.size w wr) (fun i _ => s - (intOf i).toNat)
  case atStart => exact ⟨0, Nat.zero_le _, rfl, made_rows _ _ _, fun k hk => by omega, (Below.refl _ _).alloc (Nat.le_refl _) _⟩
  case round =>
    obtain ⟨i, hi, rfl, hfl, habove, hbel⟩ := hrel
    by_cases hlt : i < s
    · obtain ⟨⟨v0, hv0⟩, hfr⟩ := (hfl.to ((Below.refl _ _).alloc (Nat.le_refl _) (.cells (madeCells #[.int .u8 0] d) 5))).cell hlt
      have hBlt := hfl.lt
      have HF : Hid (Filled wr w.heap.size s i (facRow d)) := hfl
      have HAB : Hid (Above wr w.heap.size i w.heap.size) := habove
      clear hfl habove
      go_wp2
      obtain ⟨wo, rfl⟩ : ∃ wo, wo = wr := ⟨_, rfl⟩
      clear hv0 hfr
      have hsz := hbel.size
      go_loopw [21] (fun t wq => ∃ k : Nat, k ≤ d ∧ t = .int .i64 k ∧ Laid wo wq w.heap.size i (.slice (some ⟨wo.heap.size, 0, none⟩) d d) ∧ Blk wq wo.heap.size 5 (bytesV (mix (facRow d i) (List.replicate d 0) k)) ∧ Below w.heap.size w wq) (fun t _ => d - (intOf t).toNat)
      case atStart =>
        refine ⟨0, Nat.zero_le _, rfl, Laid.start wo _ _ _ _ hBlt, ?_, ?_⟩
        · rw [mix_zero]
          have := made_bytes (wo.setCell ⟨w.heap.size, i, none⟩ (.slice (some ⟨wo.heap.size, 0, none⟩) d d)) d
          rw [size_setCell] at this
          exact this
        · exact (hbel.setCell (Nat.le_refl _) _).alloc (by rw [size_setCell]; exact hsz) _
      case round =>
        obtain ⟨j, hj, rfl, hlaid, hblk, hbq⟩ := hrel
        by_cases hjlt : j < d
        · obtain ⟨hc1, _⟩ := hlaid.cell HF.out hlt
          have hlf : (facRow d i).length = (List.replicate d 0).length := by simp [facRow]
          have hc2 := hblk.cell_some (k := j) (v := .int .u8 0) (by rw [mix_bytes, mix_at (by simp [facRow]) (by simpa using hjlt)]; simp [bytesV])
          have hf2 := hblk.free j
          obtain ⟨x, hx⟩ : ∃ x, x = (d + i) ^^^ j := ⟨_, rfl⟩
          have hxb : x < 256 := by rw [hx]; exact Gf.xor_lt (by omega) (by omega)
          have EX : Hid (IntKind.u8.wrap (bits .xor .i64 (IntKind.i64.wrap ((d : Int) + (i : Int))) (j : Int)) = (x : Int)) := by
            show _ = _
            rw [show (d : Int) + (i : Int) = ((d + i : Nat) : Int) by omega, show IntKind.i64.wrap ((d + i : Nat) : Int) = ((d + i : Nat) : Int) by rw [IntKind.wrap_i64]; omega, Gf.i64_xor _ _ (by omega) (by omega), ← hx]
            exact byte_conv x hxb
          have HX : Hid (x = (d + i) ^^^ j) := hx
          have hT := table_to ht hbq
          have HLA : Hid _ := hlaid
          have HB : Hid (Blk wr wo.heap.size 5 (bytesV (mix (facRow d i) (List.replicate d 0) j))) := hblk
          have HT : Hid (Table wr) := hT
          clear hx hlaid hblk hT hlf
          go_wp2_with fail
          go_region_with (go_at_call 35; rw [EX.out]; refine (inv_any x hxb _ (by exact HT.out)).mono ?_; rintro e w2 ⟨rfl, rfl⟩)
          all_goals
            go_wp2
            go_roundw
            case rel =>
              refine ⟨j + 1, by omega, by go_num, (HLA.out.setCell (Nat.le_refl _) hBlt _).drew, ?_, (hbq.setCell (by exact hsz) _).drew⟩
              have e := mix_set (k := j) (new := facRow d i) (old := List.replicate d 0) (by simp [facRow]) (by simpa using hjlt)
              refine (HB.out.set j _).drew.eq ?_
              rw [bytesV_set, ← e, HX.out]
              simp [facRow]
            case measure => simp [intOf]; omega
        · obtain rfl : j = d := by omega
          go_wp2
          have R : Filled wr w.heap.size s (i + 1) (facRow j) := by
            refine hlaid.filled HF.out hlt ⟨wo.heap.size, by rw [facRow_length], hblk.eq ?_⟩
            have e := mix_all (new := facRow j i) (old := List.replicate j 0) (by simp [facRow])
            simp only [List.length_replicate] at e
            rw [e]
          have R2 : Above wr w.heap.size (i + 1) w.heap.size := HAB.out.laid hlaid HF.out hlt hsz
          go_roundw
          case rel => exact ⟨i + 1, by omega, by go_num, R, R2, hbq⟩
          case measure => simp [intOf]; omega
    · obtain rfl : i = s := by omega
      go_wp2
      go_ret
      exact ⟨_, rfl, filled_rowsNew hfl habove (Nat.le_refl _) (by simp [facs]) (fun i hi => by simp [facs]), hbel⟩
end Go.Proofs.YtlnpppdffhibjaaDoor.Parts

namespace Go.Proofs.YtlnpppdffhibjaaDoor.Ref
open Go.RowKit Mem FieldWalks Tab ByTab Parts

set_option maxRecDepth 100000 in
theorem index_any (l : List Int) (n : Int) (v : Value) (w : World) (h : IsC w v l) (hl : l.length < 2 ^ 62) :
    Calls Tryd.prog 89 #[v, .int .i64 n] w fun e w' => ((∃ k : Nat, e = .returned (.int .i64 k) ∧ k < l.length ∧ n ∈ l) ∨ (e = .returned (.int .i64 (-1)) ∧ n ∉ l)) ∧ w' = w := by
  obtain ⟨ao, ex, rfl, hc⟩ := h
  have HC : Hid (l = [] ∨ ∃ b off, ao = some ⟨b, off, none⟩ ∧ b < w.heap.size ∧ ∀ k, (h : k < l.length) → w.cell? ⟨b, off + k, none⟩ = some (.int .i64 l[k])) := hc
  clear hc
  go_enter Tryd.func89, Tryd.ntmps89
  go_wp2
  go_loop [8] (fun i => ∃ k : Nat, k ≤ l.length ∧ i = .int .i64 k ∧ n ∉ l.take k) (fun i => l.length - (intOf i).toNat)
  case atStart => exact ⟨0, Nat.zero_le _, rfl, by simp⟩
  case round =>
    obtain ⟨k, hk, rfl, hn⟩ := hrel
    by_cases hlt : k < l.length
    · obtain ⟨b, off, rfl, hb, hc⟩ : ∃ b off, ao = some ⟨b, off, none⟩ ∧ b < w.heap.size ∧ ∀ k, (h : k < l.length) → w.cell? ⟨b, off + k, none⟩ = some (.int .i64 l[k]) := by
        rcases HC.out with h | h
        · rw [h] at hlt; simp at hlt
        · exact h
      have c1 := hc k hlt
      have HN : Hid (n ∉ l.take k) := hn
      clear hc hn
      by_cases e : l[k] = n
      · have HM : Hid (n ∈ l) := e ▸ List.getElem_mem hlt
        rw [e] at c1
        clear e
        go_wp2
        go_ret
        exact ⟨.inl ⟨k, rfl, hlt, HM.out⟩, rfl⟩
      · have HX : Hid (n ∉ l.take (k + 1)) := not_take_next HN.out hlt e
        have he : (n == l[k]) = false := by simp; exact fun h => e h.symm
        generalize l[k] = x at c1 he
        clear e
        go_wp2
        go_round
        case rel => exact ⟨k + 1, by omega, by go_num, HX.out⟩
        case measure => simp [intOf]; omega
    · obtain rfl : k = l.length := by omega
      rw [List.take_length] at hn
      have HN : Hid (n ∉ l) := hn
      clear hn
      go_wp2
      go_ret
      exact ⟨.inr ⟨rfl, HN.out⟩, rfl⟩

set_option maxRecDepth 100000 in
theorem contains_any (l : List Int) (n : Int) (v : Value) (w : World) (h : IsC w v l) (hl : l.length < 2 ^ 62) :
    Calls Tryd.prog 78 #[v, .int .i64 n] w fun e w' => e = .returned (.bool (decide (n ∈ l))) ∧ w' = w := by
  go_enter Tryd.func78, Tryd.ntmps78
  go_wp2_with fail
  refine (index_any l n v w h hl).mono ?_
  rintro e w' ⟨h1, rfl⟩
  rcases h1 with ⟨k, rfl, hk, hm⟩ | ⟨rfl, hm⟩
  · have hd : decide (n ∈ l) = true := by simp [hm]
    have HD : Hid (decide (n ∈ l) = true) := hd
    clear hd hm
    go_wp2
    go_ret
    exact ⟨by rw [HD.out]; rfl, rfl⟩
  · have hd : decide (n ∈ l) = false := by simp [hm]
    have HD : Hid (decide (n ∈ l) = false) := hd
    clear hd hm
    go_wp2
    go_ret
    exact ⟨by rw [HD.out]; rfl, rfl⟩

def okSize (n : Int) : Bool := decide (0 ≤ n ∧ n ≤ 400)
theorem okSize_yes (n : Int) (h : 0 ≤ n ∧ n ≤ 400) : okSize n = true := by simp [okSize]; omega
theorem okSize_no (n : Int) (h : ¬ (0 ≤ n ∧ n ≤ 400)) : okSize n = false := by simp [okSize]; omega
theorem isSize_any (n : Int) (w : World) : Calls Tryd.prog 64 #[.int .i64 n] w fun e w' => e = .returned (.bool (okSize n)) ∧ w' = w := by
  by_cases h1 : 0 ≤ n
  · by_cases h2 : n ≤ 400
    · rw [okSize_yes n ⟨h1, h2⟩]
      go_enter Tryd.func64, Tryd.ntmps64
      go_wp2
      go_ret
      exact ⟨rfl, rfl⟩
    · rw [okSize_no n (by omega)]
      go_enter Tryd.func64, Tryd.ntmps64
      go_wp2
      go_ret
      exact ⟨rfl, rfl⟩
  · rw [okSize_no n (by omega)]
    go_enter Tryd.func64, Tryd.ntmps64
    go_wp2
    go_ret
    exact ⟨rfl, rfl⟩

def okWithin (n at_ : Int) (m : Nat) : Bool := decide (0 ≤ at_ ∧ at_ + m ≤ n)
theorem isWithin_any (n : Nat) (hn : n ≤ 400) (at_ : Int) (h2 : at_ ≤ 9223372036854775807) (text : ByteArray) (hlen : text.size ≤ maxLen) (w : World) :
    Calls Tryd.prog 71 #[.int .i64 n, .int .i64 at_, .string text] w fun e w' => e = .returned (.bool (okWithin n at_ text.size)) ∧ w' = w := by
  unfold maxLen at hlen
  by_cases h1 : 0 ≤ at_
  · by_cases h3 : (text.size : Int) ≤ n - at_
    · have : okWithin n at_ text.size = true := by simp [okWithin]; omega
      rw [this]
      go_enter Tryd.func71, Tryd.ntmps71
      go_wp2
      go_ret
      exact ⟨rfl, rfl⟩
    · have : okWithin n at_ text.size = false := by simp [okWithin]; omega
      rw [this]
      go_enter Tryd.func71, Tryd.ntmps71
      go_wp2
      go_ret
      exact ⟨rfl, rfl⟩
  · have : okWithin n at_ text.size = false := by simp [okWithin]; omega
    rw [this]
    go_enter Tryd.func71, Tryd.ntmps71
    go_wp2
    go_ret
    exact ⟨rfl, rfl⟩

def NumsOk (N : Nat) (lost : List Int) : Prop := ∀ k, (h : k < lost.length) → 0 ≤ lost[k] ∧ lost[k] < (N : Int) ∧ lost[k] ∉ lost.take k
def NumsOkTo (N : Nat) (lost : List Int) (m : Nat) : Prop := ∀ k, (h : k < lost.length) → k < m → 0 ≤ lost[k] ∧ lost[k] < (N : Int) ∧ lost[k] ∉ lost.take k
set_option maxRecDepth 100000 in
set_option maxHeartbeats 4000000 in
theorem areNumbers_any (N : Nat) (_hN : N ≤ 100) (lost : List Int) (lv : Value) (w : World) (hl : IsC w lv lost) (hll : lost.length < 2 ^ 62) :
    Calls Tryd.prog 65 #[lv, .int .i64 N] w fun e w' => Says (NumsOk N lost) e ∧ w' = w := by
  have HL : Hid (IsC w lv lost) := hl
  obtain ⟨lao, lex, rfl, hlc⟩ := hl
  have HLC : Hid (lost = [] ∨ ∃ b off, lao = some ⟨b, off, none⟩ ∧ b < w.heap.size ∧ ∀ k, (h : k < lost.length) → w.cell? ⟨b, off + k, none⟩ = some (.int .i64 lost[k])) := hlc
  clear hlc
  go_enter Tryd.func65, Tryd.ntmps65
  go_wp2
  go_loop [9] (fun i => ∃ k : Nat, k ≤ lost.length ∧ i = .int .i64 k ∧ NumsOkTo N lost k) (fun i => lost.length - (intOf i).toNat)
  case atStart => exact ⟨0, Nat.zero_le _, rfl, fun j _ hj => by omega⟩
  case round =>
    obtain ⟨k, hk, rfl, hdone⟩ := hrel
    by_cases hlt : k < lost.length
    · obtain ⟨b, off, rfl, hb, hc⟩ : ∃ b off, lao = some ⟨b, off, none⟩ ∧ b < w.heap.size ∧ ∀ k, (h : k < lost.length) → w.cell? ⟨b, off + k, none⟩ = some (.int .i64 lost[k]) := by
        rcases HLC.out with h | h
        · rw [h] at hlt; simp at hlt
        · exact h
      have c1 := hc k hlt
      have HD : Hid (NumsOkTo N lost k) := hdone
      have HT : Hid (IsC w (.slice (some ⟨b, off, none⟩) k (lost.length + lex)) (lost.take k)) := HL.out.take (by omega)
      have HLK : Hid ((lost.take k).length < 2 ^ 62) := by show _ < _; rw [List.length_take]; omega
      obtain ⟨x, hx⟩ : ∃ x, x = lost[k] := ⟨_, rfl⟩
      rw [← hx] at c1
      have HX : Hid (x = lost[k]) := hx
      clear hx hc hdone
      by_cases h0 : 0 ≤ x
      · by_cases h1 : x < (N : Int)
        · by_cases h2 : x ∈ lost.take k
          · have hd2 : decide (x ∈ lost.take k) = true := by simp [h2]
            have HM : Hid (x ∈ lost.take k) := h2
            have HD2 : Hid (decide (x ∈ lost.take k) = true) := hd2
            clear h2 hd2
            go_wp2_with (go_at_call 78; refine (contains_any _ _ _ _ HT.out HLK.out).mono ?_; rintro e w' ⟨rfl, rfl⟩; rw [HD2.out])
            go_ret
            refine ⟨Says.no rfl fun h => ?_, rfl⟩
            have := (h k hlt).2.2
            rw [← HX.out] at this
            exact this HM.out
          · have hd2 : decide (x ∈ lost.take k) = false := by simp [h2]
            have HM : Hid (NumsOkTo N lost (k + 1)) := fun j hj hjk => by
              by_cases e : j = k
              · subst e; rw [← HX.out]; exact ⟨h0, h1, h2⟩
              · exact HD.out j hj (by omega)
            have HD2 : Hid (decide (x ∈ lost.take k) = false) := hd2
            clear h2 hd2
            go_wp2_with (go_at_call 78; refine (contains_any _ _ _ _ HT.out HLK.out).mono ?_; rintro e w' ⟨rfl, rfl⟩; rw [HD2.out])
            go_round
            case rel => exact ⟨k + 1, by omega, by go_num, HM.out⟩
            case measure => simp [intOf]; omega
        · have h1' : (N : Int) ≤ x := by omega
          go_wp2
          go_ret
          refine ⟨Says.no rfl fun h => ?_, rfl⟩
          have := (h k hlt).2.1
          rw [← HX.out] at this
          omega
      · have h0' : x < 0 := by omega
        go_wp2
        go_ret
        refine ⟨Says.no rfl fun h => ?_, rfl⟩
        have := (h k hlt).1
        rw [← HX.out] at this
        omega
    · obtain rfl : k = lost.length := by omega
      have HD : Hid (NumsOkTo N lost lost.length) := hdone
      clear hdone
      go_wp2
      go_ret
      exact ⟨Says.yes rfl fun j hj => HD.out j hj hj, rfl⟩

/-- The pieces that are not lost have L bytes. -/
def SizesOk (L : Nat) (pieces : List ByteArray) (lost : List Int) : Prop := ∀ p, (h : p < pieces.length) → (p : Int) ∉ lost → pieces[p].size = L
set_option maxRecDepth 100000 in
set_option maxHeartbeats 4000000 in
theorem goTogether_any (d s n L : Nat) (pieces : List ByteArray) (lost : List Int) (pv lv : Value) (w : World) (hp : StrsAt w pv pieces) (hl : IsC w lv lost) (hll : lost.length < 2 ^ 62) (hpl : pieces.length < 2 ^ 62)
    (hd : 1 ≤ d) (hd2 : d ≤ 10) (hs : s ≤ 6) (hn : n ≤ 400) (hL : L = (n + d - 1) / d) (hsz : ∀ p, (h : p < pieces.length) → pieces[p].size < 2 ^ 62) :
    Calls Tryd.prog 66 #[.int .i64 d, .int .i64 s, .int .i64 n, pv, lv] w fun e w' => Says (pieces.length = d + s ∧ SizesOk L pieces lost) e ∧ w' = w := by
  obtain ⟨pao, pcap, rfl, hpc⟩ := hp
  have HL : Hid (IsC w lv lost) := hl
  have HPC : Hid (pieces = [] ∨ ∃ b off, pao = some ⟨b, off, none⟩ ∧ b < w.heap.size ∧ ∀ k, (h : k < pieces.length) → w.cell? ⟨b, off + k, none⟩ = some (.string pieces[k])) := hpc
  have HSZ : Hid (∀ p, (h : p < pieces.length) → pieces[p].size < 2 ^ 62) := hsz
  have hLc : L ≤ 400 := by
    rw [hL]; exact Nat.le_trans (Nat.div_le_div_right (by omega : n + d - 1 ≤ n + d - 1)) (by
      have := ceil_le n d hd
      omega)
  clear hpc hsz hl
  by_cases hcnt : pieces.length = d + s
  · have hne : ((pieces.length : Int) != (d : Int) + (s : Int)) = false := by simp; omega
    have HCN : Hid (pieces.length = d + s) := hcnt
    clear hcnt
    go_enter Tryd.func66, Tryd.ntmps66
    go_wp2_with fail
    refine (length_any d n (by omega) (by omega) (by omega) w).mono ?_
    rintro e w' ⟨rfl, rfl⟩
    rw [← hL]
    clear hL
    go_wp2
    go_loop [25] (fun i => ∃ k : Nat, k ≤ pieces.length ∧ i = .int .i64 k ∧ SizesTo L pieces lost k) (fun i => pieces.length - (intOf i).toNat)
    case atStart => exact ⟨0, Nat.zero_le _, rfl, fun j _ hj => by omega⟩
    case round =>
      obtain ⟨k, hk, rfl, hdone⟩ := hrel
      by_cases hlt : k < pieces.length
      · obtain ⟨b, off, rfl, hb, hc⟩ : ∃ b off, pao = some ⟨b, off, none⟩ ∧ b < w'.heap.size ∧ ∀ k, (h : k < pieces.length) → w'.cell? ⟨b, off + k, none⟩ = some (.string pieces[k]) := by
          rcases HPC.out with h | h
          · rw [h] at hlt; simp at hlt
          · exact h
        have c1 := hc k hlt
        have HD : Hid (SizesTo L pieces lost k) := hdone
        have hz := HSZ.out k hlt
        clear hc hdone
        by_cases h0 : pieces[k].size = L
        · have HM : Hid (SizesTo L pieces lost (k + 1)) := fun j hj hjk hjl => by
            by_cases e : j = k
            · subst e; exact h0
            · exact HD.out j hj (by omega) hjl
          have h0' : ((pieces[k].size : Int) != (L : Int)) = false := by simp; omega
          clear h0
          generalize pieces[k] = pk at c1 h0' hz
          go_wp2
          go_round
          case rel => exact ⟨k + 1, by omega, by go_num, HM.out⟩
          case measure => simp [intOf]; omega
        · have h0' : ((pieces[k].size : Int) != (L : Int)) = true := by simp; omega
          by_cases h2 : ((k : Nat) : Int) ∈ lost
          · have HD2 : Hid (decide (((k : Nat) : Int) ∈ lost) = true) := decide_eq_true h2
            have HM : Hid (SizesTo L pieces lost (k + 1)) := fun j hj hjk hjl => by
              by_cases e : j = k
              · subst e; exact absurd h2 hjl
              · exact HD.out j hj (by omega) hjl
            clear h2 h0
            generalize pieces[k] = pk at c1 h0' hz
            go_wp2_with (go_at_call 78; refine (contains_any _ _ _ _ HL.out hll).mono ?_; rintro e w' ⟨rfl, rfl⟩; rw [HD2.out])
            go_round
            case rel => exact ⟨k + 1, by omega, by go_num, HM.out⟩
            case measure => simp [intOf]; omega
          · have HD2 : Hid (decide (((k : Nat) : Int) ∈ lost) = false) := decide_eq_false h2
            have HNO : Hid (¬ (pieces.length = d + s ∧ SizesOk L pieces lost)) := fun h => h0 (h.2 k hlt h2)
            clear h2 h0
            generalize pieces[k] = pk at c1 h0' hz
            go_wp2_with (go_at_call 78; refine (contains_any _ _ _ _ HL.out hll).mono ?_; rintro e w' ⟨rfl, rfl⟩; rw [HD2.out])
            go_ret
            exact ⟨Says.no rfl HNO.out, rfl⟩
      · obtain rfl : k = pieces.length := by omega
        have HD : Hid (SizesTo L pieces lost pieces.length) := hdone
        clear hdone
        go_wp2
        go_ret
        exact ⟨Says.yes rfl ⟨HCN.out, fun j hj hjl => HD.out j hj hj hjl⟩, rfl⟩
  · have hne : ((pieces.length : Int) != (d : Int) + (s : Int)) = true := by simp; omega
    have HNO : Hid (¬ (pieces.length = d + s ∧ SizesOk L pieces lost)) := fun h => hcnt h.1
    clear hcnt
    go_enter Tryd.func66, Tryd.ntmps66
    go_wp2
    go_ret
    exact ⟨Says.no rfl HNO.out, rfl⟩
end Go.Proofs.YtlnpppdffhibjaaDoor.Ref

namespace Go.Proofs.YtlnpppdffhibjaaDoor.Ref
open Go.RowKit Mem FieldWalks Tab ByTab Parts
open Gf (Bytes newP)
open Plans (rowF)

/-- The rows that were made of strings so far, in a list that was made ahead. -/
structure Put (w wr : World) (g n L p : Nat) (pieces : List ByteArray) (bs : List Nat) (us : List Value) : Prop where
  list : Blk wr g 93 us
  ulen : us.length = n
  len : bs.length = p
  nodup : bs.Nodup
  at_ : ∀ q, (h : q < bs.length) → ∃ c, us[q]? = some (.slice (some ⟨bs[q], 0, none⟩) L c)
  row : ∀ q, (h : q < bs.length) → Row8 wr bs[q] (nums (pieces.getD q ByteArray.empty))
  low : ∀ b, b ∈ bs → w.heap.size ≤ b ∧ b < wr.heap.size
theorem Put.to {w wr wr' : World} {g n L p : Nat} {pieces : List ByteArray} {bs : List Nat} {us : List Value} (h : Put w wr g n L p pieces bs us) (hb : Below wr.heap.size wr wr') : Put w wr' g n L p pieces bs us :=
  ⟨h.list.to hb, h.ulen, h.len, h.nodup, h.at_, fun q hq => (h.row q hq).to hb, fun b hm => ⟨(h.low b hm).1, Nat.lt_of_lt_of_le (h.low b hm).2 hb.size⟩⟩
theorem Put.add {w wr : World} {g n L p b c : Nat} {pieces : List ByteArray} {bs : List Nat} {us : List Value} (h : Put w wr g n L p pieces bs us) (hb : Row8 wr b (nums (pieces.getD p ByteArray.empty))) (hn : b ∉ bs) (hlow : w.heap.size ≤ b) (hp : p < n) :
    Put w (wr.setCell ⟨g, p, none⟩ (.slice (some ⟨b, 0, none⟩) L c)) g n L (p + 1) pieces (bs ++ [b]) (us.set p (.slice (some ⟨b, 0, none⟩) L c)) := by
  have hl := h.len
  have hul := h.ulen
  have hne : ∀ q, (hq : q < bs.length) → bs[q] ≠ g := fun q hq => (h.row q hq).type_ne h.list (by decide)
  have hbg : b ≠ g := hb.type_ne h.list (by decide)
  refine ⟨h.list.set p _, by simp [hul], by simp [hl], ?_, fun q hq => ?_, fun q hq => ?_, fun x hx => ?_⟩
  · rw [List.nodup_append]
    refine ⟨h.nodup, by simp, fun a ha x hx => ?_⟩
    simp at hx; subst hx
    intro e; exact hn (e ▸ ha)
  · by_cases e : q < bs.length
    · obtain ⟨c', hc'⟩ := h.at_ q e
      exact ⟨c', by rw [List.getElem?_set_ne (by omega), List.getElem_append_left e]; exact hc'⟩
    · have : q = bs.length := by simp at hq; omega
      subst this
      exact ⟨c, by simp [hl, hul, hp]⟩
  · by_cases e : q < bs.length
    · rw [List.getElem_append_left e]; exact (h.row q e).other (hne q e) _
    · have : q = bs.length := by simp at hq; omega
      subst this
      have hb' := hb
      rw [← hl] at hb'
      simpa using hb'.other (a := ⟨g, p, none⟩) hbg _
  · rw [size_setCell]
    rcases List.mem_append.1 hx with hx | hx
    · exact h.low x hx
    · simp at hx; subst hx; exact ⟨hlow, hb.lt⟩
theorem Put.out {w wr : World} {g n L : Nat} {pieces : List ByteArray} {bs : List Nat} {us : List Value} (h : Put w wr g n L n pieces bs us) (hsz : ∀ p, p < n → (nums (pieces.getD p ByteArray.empty)).length = L) :
    OutAt wr g n L bs us (fun p => rowF L (oldOf pieces p)) := by
  have hl := h.len
  refine ⟨h.list, hl, h.nodup, fun p hp => by simp, h.at_, fun p hp => ?_⟩
  have := h.row p hp
  have e : rowF L (oldOf pieces p) = nums (pieces.getD p ByteArray.empty) := by
    apply List.ext_getElem
    · rw [hsz p (by omega)]; simp
    · intro t h1 h2
      simp only [rowF, List.getElem_map, List.getElem_range, oldOf]
      rw [List.getD_eq_getElem?_getD, List.getElem?_eq_getElem h2, Option.getD_some]
  rw [e]; exact this

set_option maxRecDepth 100000 in
set_option maxHeartbeats 4000000 in
theorem pChange_any (d s n at_ L : Nat) (pieces : List ByteArray) (text : ByteArray) (pv : Value) (w : World) (ht : Table w) (hp : StrsAt w pv pieces) (hd : 1 ≤ d) (hd2 : d ≤ 10) (hs : s ≤ 6) (hn : n ≤ 400) (hL : L = (n + d - 1) / d)
    (hyes : ShapeOk d s L pieces []) (hat : at_ + text.size ≤ n) :
    Calls Tryd.prog 53 #[.int .i64 d, .int .i64 s, pv, .int .i64 at_, .string text] w fun e w' => ∃ b, w.heap.size ≤ b ∧ e = .returned (.slice (some ⟨b, 0, none⟩) (d + s) (d + s)) ∧
      Blk w' b 9 (strV ((List.range (d + s)).map fun p => mkS (rowF L (newP d L at_ (nums text) text.size (oldOf pieces) p)))) ∧ Below w.heap.size w w' := by
  have hLs : L ≤ 400 := by have := ceil_le n d hd; omega
  have hnL : n ≤ d * L := by rw [hL]; exact ceil_mul n d (by omega)
  have hcn := hyes.count
  obtain ⟨pb, poff, pcap, rfl, hplt, hpc⟩ : ∃ b off cap, pv = .slice (some ⟨b, off, none⟩) pieces.length cap ∧ b < w.heap.size ∧ ∀ k, (h : k < pieces.length) → w.cell? ⟨b, off + k, none⟩ = some (.string pieces[k]) := by
    obtain ⟨ao, cap, rfl, h⟩ := hp
    rcases h with h | ⟨b, off, rfl, h1, h2⟩
    · rw [h] at hcn; simp at hcn; omega
    · exact ⟨b, off, cap, rfl, h1, h2⟩
  have HPC : Hid (∀ k, (h : k < pieces.length) → w.cell? ⟨pb, poff + k, none⟩ = some (.string pieces[k])) := hpc
  have HPS : Hid (∀ k, (h : k < pieces.length) → pieces[k].size = L) := fun k h => hyes.sizes k h (by simp)
  obtain ⟨M, hM⟩ : ∃ M, M = d + s := ⟨_, rfl⟩
  rw [← hM] at hcn ⊢
  rw [hcn]
  have HCN : Hid (pieces.length = M) := hcn
  have HTB : Hid (Bytes (nums text)) := nums_bytes text
  have HOB : Hid (∀ p t, oldOf pieces p t < 256) := fun p t => (nums_bytes _).getD _
  have HT0 : Hid (Table w) := ht
  have hmk := fun w => make_rows M (by omega) w
  have HM : Hid (M = d + s) := hM
  have hM1 : M ≤ d + s := by omega
  have hM2 : d + s ≤ M := by omega
  clear hpc hp hyes hcn hL ht hM
  go_enter Tryd.func53, Tryd.ntmps53
  go_wp2
  go_loopw [27] (fun i wr => ∃ (p : Nat) (bs : List Nat) (us : List Value), p ≤ M ∧ i = .int .i64 p ∧ Put w wr w.heap.size (M) L p pieces bs us ∧ Below w.heap.size w wr) (fun i _ => M - (intOf i).toNat)
  case atStart =>
    refine ⟨0, [], _, Nat.zero_le _, rfl, ⟨(Blk.new w _ _).eq (toList_madeCells_one _ (M)), by simp, rfl, by simp, fun q hq => by simp at hq, fun q hq => by simp at hq, fun b hb => by simp at hb⟩, (Below.refl _ _).alloc (Nat.le_refl _) _⟩
  case round =>
    obtain ⟨p, bs, us, hp, rfl, hput, hbel⟩ := hrel
    by_cases hpd : p < M
    · have hpl : p < pieces.length := by rw [HCN.out]; exact hpd
      have c1 := HPC.out p hpl
      rw [← hbel.cell (p := ⟨pb, poff + p, none⟩) hplt] at c1
      obtain ⟨x, hx⟩ : ∃ x, x = pieces[p] := ⟨_, rfl⟩
      rw [← hx] at c1
      have hxs : x.size = L := by rw [hx]; exact HPS.out p hpl
      have HX : Hid (pieces.getD p ByteArray.empty = x) := by show _ = _; rw [hx]; simp [hpl]
      have hsz := hbel.size
      have HB : Hid (Below w.heap.size w (Lib.bytesWorld wr 5 x)) := hbel.trans ((below_bytes wr x).mono hsz)
      have HPU : Hid (Put w (Lib.bytesWorld wr 5 x) w.heap.size (M) L p pieces bs us) := hput.to (below_bytes wr x)
      have HR : Hid (Row8 (Lib.bytesWorld wr 5 x) wr.heap.size (nums x)) := Row8.new wr x
      have hbn : wr.heap.size ∉ bs := fun hm => by have := (hput.low _ hm).2; omega
      have HBN : Hid (wr.heap.size ∉ bs) := hbn
      have hconv := Lib.run_convert_string_bytes (P := Tryd.prog) wr 9 93 5 x Tryd.underlying9 Tryd.underlying93 Tryd.underlying5
      rw [hxs] at hconv
      generalize grownCap wr L 0 5 = gc at hconv
      generalize Lib.bytesWorld wr 5 x = wb at HB HPU HR hconv
      have HCV : Hid ((convert 9 93 (.string x)).run Tryd.prog wr = .ok (.slice (some ⟨wr.heap.size, 0, none⟩) L gc) wb) := hconv
      have hul := HPU.out.ulen
      have r3 := HPU.out.list.cell_some (k := p) (v := us[p]'(by omega)) (by simp [show p < us.length by omega])
      have r4 := HPU.out.list.free p
      generalize us[p]'(by omega) = old at r3
      have HPA : Hid (Put w (wb.setCell ⟨w.heap.size, p, none⟩ (.slice (some ⟨wr.heap.size, 0, none⟩) L gc)) w.heap.size (M) L (p + 1) pieces (bs ++ [wr.heap.size]) (us.set p (.slice (some ⟨wr.heap.size, 0, none⟩) L gc))) := HPU.out.add (by rw [HX.out]; exact HR.out) HBN.out hsz hpd
      clear hconv hput hbn hx hxs hul
      go_wp2_with (refine wpList_convert_w _ rfl 9 93 _ rfl (.string x) _ wb rfl HCV.out ?_)
      go_roundw
      case rel => exact ⟨p + 1, _, _, by omega, by go_num, HPA.out, HB.out.setCell (Nat.le_refl _) _⟩
      case measure => simp [intOf]; omega
    · obtain rfl : M = p := by omega
      have hout := hput.out (fun q hq => by
        have hql : q < pieces.length := by rw [HCN.out]; exact hq
        rw [nums_length, show pieces.getD q ByteArray.empty = pieces[q] by simp [hql]]; exact HPS.out q hql)
      obtain ⟨F0, hF0⟩ : ∃ F0, F0 = wr.heap.size := ⟨_, rfl⟩
      have HLOW : Hid (∀ b, b ∈ bs → w.heap.size ≤ b ∧ b < F0) := fun b hb => by rw [hF0]; exact hput.low b hb
      have HOUT0 : Hid (OutAt wr w.heap.size M L bs us (fun p => rowF L (oldOf pieces p))) := hout
      have HF0 : Hid (F0 = wr.heap.size) := hF0
      clear hput hout hF0
      go_wp2_with fail
      refine (factors_new d s (by omega) (by omega) _ (table_to HT0.out hbel)).mono ?_
      rintro e w5 ⟨fv, rfl, hfac, hb5⟩
      rw [← HF0.out] at hfac
      have HFN : Hid (RowsNew w5 F0 fv (facs d s)) := hfac
      obtain ⟨fg, fc, rfl, _⟩ := hfac
      rw [show (facs d s).length = s by simp [facs]] at HFN ⊢
      have HO5 : Hid (OutAt w5 w.heap.size M L bs us (fun p => rowF L (newP d L at_ (nums text) 0 (oldOf pieces) p))) := (HOUT0.out.to hb5).congr fun p hp => Plans.rowF_congr fun t ht => Gf.newP_zero _ _ _ _ _ _ _
      have HB5 : Hid (Below w.heap.size w w5) := hbel.trans (hb5.mono hbel.size)
      obtain ⟨x0, hx0⟩ : ∃ x0, x0 = pieces[0]'(by rw [HCN.out]; omega) := ⟨_, rfl⟩
      have hx0s : x0.size = L := by rw [hx0]; exact HPS.out 0 _
      have c0 : w5.cell? ⟨pb, poff, none⟩ = some (.string x0) := by
        rw [HB5.out.cell (p := ⟨pb, poff, none⟩) hplt, hx0]; exact HPC.out 0 _
      have hM0 : 0 < M := by omega
      obtain ⟨g, hg⟩ : ∃ g, g = w.heap.size := ⟨_, rfl⟩
      rw [← hg] at HO5 ⊢
      have HG : Hid (g = w.heap.size) := hg
      clear hg hx0 HOUT0 hb5 hbel
      go_wp2
      go_loopw [47] (fun kv wq => ∃ k : Nat, k ≤ text.size ∧ kv = .int .i64 k ∧ OutAt wq g M L bs us (fun p => rowF L (newP d L at_ (nums text) k (oldOf pieces) p)) ∧ Over F0 w5 wq ∧ Below w.heap.size w wq) (fun kv _ => text.size - (intOf kv).toNat)
      case atStart => exact ⟨0, Nat.zero_le _, rfl, HO5.out, Over.refl _ _, HB5.out⟩
      case round =>
        clear HO5 c0
        obtain ⟨k, hk, rfl, hout, hov, hbq⟩ := hrel
        by_cases hkt : k < text.size
        · have hpos : at_ + k < d * L := by omega
          have hL0 : 0 < L := by
            rcases Nat.eq_zero_or_pos L with h | h
            · rw [h, Nat.mul_zero] at hpos; omega
            · exact h
          obtain ⟨j0, hj0⟩ : ∃ j0, j0 = (at_ + k) / L := ⟨_, rfl⟩
          obtain ⟨t0, ht0⟩ : ∃ t0, t0 = (at_ + k) % L := ⟨_, rfl⟩
          have hj0d : j0 < d := by rw [hj0]; exact Nat.div_lt_of_lt_mul (by rw [Nat.mul_comm]; exact hpos)
          have ht0L : t0 < L := by rw [ht0]; exact Nat.mod_lt _ hL0
          have q1 : ((at_ : Int) + (k : Int)) / (L : Int) = (j0 : Int) := by rw [hj0]; simp
          have q2 : ((at_ : Int) + (k : Int)) % (L : Int) = (t0 : Int) := by rw [ht0]; simp
          have q3 : Int.tdiv ((at_ : Int) + (k : Int)) (L : Int) = (j0 : Int) := by rw [Int.tdiv_eq_ediv_of_nonneg (by omega)]; exact q1
          have q4 : Int.tmod ((at_ : Int) + (k : Int)) (L : Int) = (t0 : Int) := by rw [Int.tmod_eq_emod_of_nonneg (by omega)]; exact q2
          have q9 : ((L : Int) == 0) = false := by simp; omega
          have q7 : ¬ (L : Int) = 0 := by omega
          have q8 : ¬ L = 0 := by omega
          obtain ⟨b0, c0, hb0, g1, hbg, hb0l, hcell⟩ := hout.read j0 (by omega)
          obtain ⟨g2, g3⟩ := hcell t0 ht0L
          rw [show (rowF L (newP d L at_ (nums text) k (oldOf pieces) j0)).getD t0 0 = newP d L at_ (nums text) k (oldOf pieces) j0 t0 by simp [rowF, ht0L]] at g2
          have hob := Gf.newP_lt (d := d) (L := L) (at_ := at_) (k := k) (p := j0) (t := t0) HTB.out HOB.out (by omega) (by omega)
          obtain ⟨o, ho⟩ : ∃ o, o = newP d L at_ (nums text) k (oldOf pieces) j0 t0 := ⟨_, rfl⟩
          rw [← ho] at g2 hob
          have HO : Hid (o = newP d L at_ (nums text) k (oldOf pieces) j0 t0) := ho
          have HJT : Hid (j0 = (at_ + k) / L ∧ t0 = (at_ + k) % L) := ⟨hj0, ht0⟩
          obtain ⟨ch, hch⟩ : ∃ ch, ch = (text[k]'hkt).toNat := ⟨_, rfl⟩
          have hchb : ch < 256 := by rw [hch]; exact (text[k]'hkt).toNat_lt
          have HCH : Hid ((nums text).getD k 0 = ch) := by show _ = _; rw [hch]; exact nums_get text k hkt
          have hci : ((text[k]'hkt).toNat : Int) = (ch : Int) := by rw [hch]
          obtain ⟨by_, hby⟩ : ∃ by_, by_ = o ^^^ ch := ⟨_, rfl⟩
          have hbyb : by_ < 256 := by rw [hby]; exact Gf.xor_lt hob hchb
          have hxor : bits .xor .u8 (o : Int) (ch : Int) = (by_ : Int) := by rw [hby]; exact u8_xor_nat _ _ hob hchb
          have hxor2 : bits .xor .u8 (o : Int) (by_ : Int) = (ch : Int) := by rw [u8_xor_nat _ _ hob hbyb, hby, ← Nat.xor_assoc, Nat.xor_self, Nat.zero_xor]
          have HBY : Hid (by_ = o ^^^ ch) := hby
          have HOUT : Hid (OutAt wr g M L bs us (fun p => rowF L (newP d L at_ (nums text) k (oldOf pieces) p))) := hout
          have HOV : Hid (Over F0 w5 wr) := hov
          have HBQ : Hid (Below w.heap.size w wr) := hbq
          have i1 : (j0 : Int) < (M : Int) := by omega
          have i2 : (t0 : Int) < (L : Int) := by omega
          have i3 : (k : Int) < (text.size : Int) := by omega
          clear hj0 ht0 ho hch hby hout hov hbq hcell hpos
          go_wp2
          go_quiet (fail)
          obtain ⟨w6, hw6⟩ : ∃ w6, w6 = wr.drewN nq := ⟨_, rfl⟩
          have hb6 : Below wr.heap.size wr w6 := by rw [hw6]; exact below_drewN (Below.refl _ _) _
          rw [← hw6]
          have g1' : w6.cell? ⟨g, j0, none⟩ = some (.slice (some ⟨b0, 0, none⟩) L c0) := by rw [hw6]; exact g1
          have g2' : w6.cell? ⟨b0, t0, none⟩ = some (.int .u8 (o : Int)) := by rw [hw6]; exact g2
          have g3' : w6.frozen? ⟨b0, t0, none⟩ = false := by rw [hw6]; exact g3
          have HO6 : Hid (OutAt w6 g M L bs us (fun p => rowF L (newP d L at_ (nums text) k (oldOf pieces) p))) := HOUT.out.to hb6
          have HV6 : Hid (Over F0 w5 w6) := HOV.out.to hb6
          have HB6 : Hid (Below w.heap.size w w6) := HBQ.out.trans (hb6.mono HBQ.out.size)
          clear hw6 g1 g2 g3 HOUT HOV HBQ hb6 q1 q2 q3 q4
          go_wp2
          go_quiet (fail)
          obtain ⟨w7, hw7⟩ : ∃ w7, w7 = w6.drewN nq := ⟨_, rfl⟩
          have hb7 : Below w6.heap.size w6 w7 := by rw [hw7]; exact below_drewN (Below.refl _ _) _
          rw [← hw7]
          have g1 : w7.cell? ⟨g, j0, none⟩ = some (.slice (some ⟨b0, 0, none⟩) L c0) := by rw [hw7]; exact g1'
          have g2 : w7.cell? ⟨b0, t0, none⟩ = some (.int .u8 (o : Int)) := by rw [hw7]; exact g2'
          have g3 : w7.frozen? ⟨b0, t0, none⟩ = false := by rw [hw7]; exact g3'
          have HO7 : Hid (OutAt w7 g M L bs us (fun p => rowF L (newP d L at_ (nums text) k (oldOf pieces) p))) := HO6.out.to hb7
          have HV7 : Hid (Over F0 w5 w7) := HV6.out.to hb7
          have HB7 : Hid (Below w.heap.size w w7) := HB6.out.trans (hb7.mono HB6.out.size)
          clear hw7 g1' g2' g3' HO6 HV6 HB6 hb7
          go_wp2
          have HO8 : Hid (OutAt (w7.setCell ⟨b0, t0, none⟩ (.int .u8 (ch : Int))) g M L bs us (fun p => if p < d + 0 then rowF L (newP d L at_ (nums text) (k + 1) (oldOf pieces) p) else rowF L (newP d L at_ (nums text) k (oldOf pieces) p))) := by
            have hjl : j0 < bs.length := (List.getElem?_eq_some_iff.1 hb0).1
            have hbe : bs[j0] = b0 := (List.getElem?_eq_some_iff.1 hb0).2
            have h1 := HO7.out.set j0 hjl t0 ch
            rw [hbe] at h1
            refine h1.congr fun p hp => ?_
            by_cases hpd : p < d
            · rw [if_pos (by omega)]
              by_cases e : p = j0
              · subst e
                rw [if_pos rfl, Plans.rowF_set]
                refine Plans.rowF_congr fun t ht => ?_
                rw [Gf.newP_data ht hpd, HCH.out]
                unfold Plans.upd
                by_cases e2 : t = t0
                · rw [if_pos ⟨HJT.out.1, e2.trans HJT.out.2⟩, if_pos e2]
                · rw [if_neg (fun h => e2 (h.2.trans HJT.out.2.symm)), if_neg e2]
              · rw [if_neg e]
                refine Plans.rowF_congr fun t ht => ?_
                rw [Gf.newP_data ht hpd, if_neg (fun h => e (h.1.trans HJT.out.1.symm))]
            · rw [if_neg (by omega), if_neg (by omega)]
          have hb0w := HLOW.out b0 (List.mem_of_getElem? hb0)
          have HV8 : Hid (Over F0 w5 (w7.setCell ⟨b0, t0, none⟩ (.int .u8 (ch : Int)))) := HV7.out.setCell hb0w.2 _
          have HB8 : Hid (Below w.heap.size w (w7.setCell ⟨b0, t0, none⟩ (.int .u8 (ch : Int)))) := HB7.out.setCell hb0w.1 _
          obtain ⟨w8, hw8⟩ : ∃ w8, w8 = w7.setCell ⟨b0, t0, none⟩ (.int .u8 (ch : Int)) := ⟨_, rfl⟩
          rw [← hw8] at HO8 HV8 HB8 ⊢
          clear hw8 g1 g2 g3 HO7 HV7 HB7 hb0w hbg hb0l hb0 hxor hxor2 hci i3
          go_loopw [83] (fun rv wq => ∃ r : Nat, r ≤ s ∧ rv = .int .i64 r ∧ OutAt wq g M L bs us (fun p => if p < d + r then rowF L (newP d L at_ (nums text) (k + 1) (oldOf pieces) p) else rowF L (newP d L at_ (nums text) k (oldOf pieces) p)) ∧ Over F0 w5 wq ∧ Below w.heap.size w wq) (fun rv _ => s - (intOf rv).toNat)
          case atStart => exact ⟨0, Nat.zero_le _, rfl, HO8.out, HV8.out, HB8.out⟩
          case round =>
            clear HO8 HV8 HB8
            obtain ⟨r, hr, rfl, hout, hov, hbq⟩ := hrel
            by_cases hrs : r < s
            · obtain ⟨b1, c1, hb1, g1, hbg1, hb1l, hcell⟩ := hout.read (d + r) (by omega)
              obtain ⟨g2, g3⟩ := hcell t0 ht0L
              rw [if_neg (by omega), show (rowF L (newP d L at_ (nums text) k (oldOf pieces) (d + r))).getD t0 0 = newP d L at_ (nums text) k (oldOf pieces) (d + r) t0 by simp [rowF, ht0L]] at g2
              have hvb := Gf.newP_lt (d := d) (L := L) (at_ := at_) (k := k) (p := d + r) (t := t0) HTB.out HOB.out (by omega) (by omega)
              obtain ⟨v, hv⟩ : ∃ v, v = newP d L at_ (nums text) k (oldOf pieces) (d + r) t0 := ⟨_, rfl⟩
              rw [← hv] at g2 hvb
              obtain ⟨x, hx⟩ : ∃ x, x = Gf.inv ((d + r) ^^^ j0) := ⟨_, rfl⟩
              have hxb : x < 256 := by rw [hx]; exact Gf.inv_lt _ (Gf.xor_lt (by omega) (by omega))
              obtain ⟨fb, fc', hfb, hfl, gf, ge⟩ : ∃ fb fc', F0 ≤ fb ∧ fb < wr.heap.size ∧ wr.cell? ⟨fg, r, none⟩ = some (.slice (some ⟨fb, 0, none⟩) d fc') ∧ wr.cell? ⟨fb, j0, none⟩ = some (.int .u8 (x : Int)) := by
                obtain ⟨g', c', he, _, _, h3⟩ := HFN.out.over hov
                injection he with he _ _
                injection he with he
                injection he with he
                subst he
                obtain ⟨b, c'', h4, h5, h6, h7⟩ := h3 r (by simp [facs]; exact hrs)
                have hlr : ((facs d s)[r]'(by simp [facs]; exact hrs)).length = d := by simp [facs, facRow]
                refine ⟨b, c'', h4, h5, by rw [← hlr]; exact h6, ?_⟩
                rw [h7 j0 (by rw [hlr]; exact hj0d), hx]
                simp [facs, facRow]
              obtain ⟨nv, hnv⟩ : ∃ nv, nv = v ^^^ Gf.times x by_ := ⟨_, rfl⟩
              have htb : Gf.times x by_ < 256 := Gf.times_lt _ _ hxb
              have hxor2 : bits .xor .u8 (v : Int) ((Gf.times x by_ : Nat) : Int) = (nv : Int) := by rw [hnv]; exact u8_xor_nat _ _ hvb htb
              have HNEW : Hid (OutAt (wr.setCell ⟨b1, t0, none⟩ (.int .u8 (nv : Int))) g M L bs us (fun p => if p < d + (r + 1) then rowF L (newP d L at_ (nums text) (k + 1) (oldOf pieces) p) else rowF L (newP d L at_ (nums text) k (oldOf pieces) p))) := by
                have hjl : d + r < bs.length := (List.getElem?_eq_some_iff.1 hb1).1
                have hbe : bs[d + r] = b1 := (List.getElem?_eq_some_iff.1 hb1).2
                have h1 := hout.set (d + r) hjl t0 nv
                rw [hbe] at h1
                refine h1.congr fun p hp => ?_
                by_cases e : p = d + r
                · subst e
                  rw [if_pos (by omega), if_pos rfl, if_neg (by omega), Plans.rowF_set]
                  refine Plans.rowF_congr fun t ht => ?_
                  rw [Gf.newP_spare ht (by omega) (by omega) (by omega) (by rw [← HJT.out.1]; exact hj0d), HCH.out, ← HJT.out.1, ← HJT.out.2]
                  unfold Plans.upd
                  by_cases e2 : t = t0
                  · subst e2
                    rw [if_pos rfl, if_pos rfl, hnv, HBY.out, HO.out, hv, hx]
                  · rw [if_neg e2, if_neg e2]
                · rw [if_neg e]
                  by_cases e3 : p < d + r
                  · rw [if_pos (by omega), if_pos e3]
                  · rw [if_neg (by omega), if_neg e3]
              have HB1 : Hid (w.heap.size ≤ b1 ∧ b1 < F0) := HLOW.out b1 (List.mem_of_getElem? hb1)
              have hb1f := HB1.out.2
              have HV8 : Hid (Over F0 w5 wr) := hov
              have HB8 : Hid (Below w.heap.size w wr) := hbq
              have HT8 : Hid (Table wr) := table_to HT0.out hbq
              have HS : Hid (wr.drew.cell? ⟨g, d + r, none⟩ = some (.slice (some ⟨b1, 0, none⟩) L c1) ∧ wr.drew.cell? ⟨fb, j0, none⟩ = some (.int .u8 (x : Int))) := ⟨g1, ge⟩
              have HA : Hid ((⟨b1, t0, none⟩ : Addr) ≠ ⟨g, d + r, none⟩ ∧ (⟨b1, t0, none⟩ : Addr) ≠ ⟨fb, j0, none⟩) := by
                refine ⟨?_, ?_⟩ <;> intro h <;> injection h <;> omega
              have z1 : ((d : Int) + (r : Int)).toNat = d + r := by omega
              have z3 : (d : Int) + (r : Int) < (M : Int) := by omega
              have z5 : (0 : Int) ≤ (d : Int) + (r : Int) := by omega
              have z6 : (j0 : Int) < (d : Int) := by omega
              have y5 : IntKind.i64.wrap ((d : Int) + (r : Int)) = (d : Int) + (r : Int) := by rw [IntKind.wrap_i64]; omega
              clear hcell hout hov hbq hv hx hnv
              go_wp2_with fail
              refine wp_region_held (S := fun wx => wx.cell? ⟨g, d + r, none⟩ = some (.slice (some ⟨b1, 0, none⟩) L c1) ∧ wx.cell? ⟨fb, j0, none⟩ = some (.int .u8 (x : Int))) rfl ?_
              refine wpAnyH_take (i := 0) (v := (.slice (some ⟨g, 0, none⟩) M M)) rfl (by kernel_rfl) (by kernel_rfl) (by kernel_rfl) (fun _ _ _ h => h) (Or.inl ⟨by rfl, fun w hw => by go_simp⟩) HS.out ?_
              refine wpAnyH_take (i := 1) (v := (.int .i64 (d : Int))) rfl (by kernel_rfl) (by kernel_rfl) (by kernel_rfl) (fun _ _ _ h => h) (Or.inl ⟨by rfl, fun w hw => by go_simp⟩) HS.out ?_
              refine wpAnyH_take (i := 2) (v := (.int .i64 (r : Int))) rfl (by kernel_rfl) (by kernel_rfl) (by kernel_rfl) (fun _ _ _ h => h) (Or.inl ⟨by rfl, fun w hw => by go_simp⟩) HS.out ?_
              refine wpAnyH_take (i := 3) (v := (.int .i64 ((d : Int) + (r : Int)))) rfl (by kernel_rfl) (by kernel_rfl) (by kernel_rfl) (fun _ _ _ h => h) (Or.inl ⟨by rfl, fun w hw => by go_simp⟩) HS.out ?_
              refine wpAnyH_take (i := 4) (v := (.pointer (some ⟨g, d + r, none⟩))) rfl (by kernel_rfl) (by kernel_rfl) (by kernel_rfl) (fun _ _ _ h => h) (Or.inl ⟨by rfl, fun w hw => by go_simp⟩) HS.out ?_
              simp only [Act.put]
              refine wpAnyH_take (i := 5) (v := (.slice (some ⟨b1, 0, none⟩) L c1)) rfl (by kernel_rfl) (by kernel_rfl) (by kernel_rfl) (fun _ _ _ h => h) (Or.inl ⟨by rfl, fun w hw => by obtain ⟨t1, t2⟩ := hw; go_simp⟩) HS.out ?_
              refine wpAnyH_take (i := 6) (v := (.int .i64 (t0 : Int))) rfl (by kernel_rfl) (by kernel_rfl) (by kernel_rfl) (fun _ _ _ h => h) (Or.inl ⟨by rfl, fun w hw => by go_simp⟩) HS.out ?_
              refine wpAnyH_take (i := 7) (v := (.pointer (some ⟨b1, t0, none⟩))) rfl (by kernel_rfl) (by kernel_rfl) (by kernel_rfl) (fun _ _ _ h => h) (Or.inl ⟨by rfl, fun w hw => by go_simp⟩) HS.out ?_
              refine wpAnyH_take (i := 9) (v := (.slice (some ⟨fb, 0, none⟩) d fc')) rfl (by kernel_rfl) (by kernel_rfl) (by kernel_rfl) (fun _ _ _ h => h) (Or.inl ⟨by rfl, fun w hw => by go_simp⟩) HS.out ?_
              refine wpAnyH_take (i := 10) (v := (.int .i64 (j0 : Int))) rfl (by kernel_rfl) (by kernel_rfl) (by kernel_rfl) (fun _ _ _ h => h) (Or.inl ⟨by rfl, fun w hw => by go_simp⟩) HS.out ?_
              simp only [Act.put]
              refine wpAnyH_take (i := 11) (v := (.pointer (some ⟨fb, j0, none⟩))) rfl (by kernel_rfl) (by kernel_rfl) (by kernel_rfl) (fun _ _ _ h => h) (Or.inl ⟨by rfl, fun w hw => by go_simp⟩) HS.out ?_
              refine wpAnyH_take (i := 12) (v := (.int .u8 (x : Int))) rfl (by kernel_rfl) (by kernel_rfl) (by kernel_rfl) (fun _ _ _ h => h) (Or.inl ⟨by rfl, fun w hw => by obtain ⟨t1, t2⟩ := hw; go_simp⟩) HS.out ?_
              refine wpAnyH_take (i := 13) (v := (.int .u8 (by_ : Int))) rfl (by kernel_rfl) (by kernel_rfl) (by kernel_rfl) (fun _ _ _ h => h) (Or.inl ⟨by rfl, fun w hw => by go_simp⟩) HS.out ?_
              simp only [Act.put, List.setIfInBounds_toArray]
              refine wpAnyH_ready (rs := [8, 14]) (by kernel_rfl) (by simp) ?_
              refine AllReadyH.cons rfl (fun K hK => ?_) (AllReadyH.cons rfl (fun K hK => ?_) AllReadyH.nil)
              · go_simp
                refine hK.out _ _ HS.out (fun _ => ?_)
                clear hK K
                refine wpAnyH_ready (rs := [14]) (by kernel_rfl) (by simp) ?_
                refine AllReadyH.cons rfl (fun K hK => ?_) AllReadyH.nil
                go_simp
                refine (mul_any x by_ hxb hbyb _ (by exact HT8.out)).mono ?_
                rintro e w2 ⟨rfl, rfl⟩
                dsimp only
                refine hK.out _ _ HS.out (fun _ => ?_)
                clear hK K
                refine wpAnyH_take (i := 15) (v := (.int .u8 (nv : Int))) rfl (by kernel_rfl) (by kernel_rfl) (by kernel_rfl) (fun _ _ _ h => h) (Or.inl ⟨by rfl, fun w hw => by go_simp⟩) HS.out ?_
                refine wpAnyH_take (i := 16) (v := (.pointer (some ⟨b1, t0, none⟩))) rfl (by kernel_rfl) (by kernel_rfl) (by kernel_rfl) (fun _ _ _ h => h) (Or.inl ⟨by rfl, fun w hw => by go_simp⟩) HS.out ?_
                simp only [Act.put, List.setIfInBounds_toArray]
                refine wpAnyH_ready (rs := [17]) (by kernel_rfl) (by simp) ?_
                refine AllReadyH.cons rfl (fun K hK => ?_) AllReadyH.nil
                go_simp
                refine hK.out _ _ ⟨(World.cell?_setCell_other _ _ _ _ HA.out.1).trans HS.out.1, (World.cell?_setCell_other _ _ _ _ HA.out.2).trans HS.out.2⟩ (fun _ => ?_)
                clear hK K
                refine wpAnyH_done (by kernel_rfl) ?_ _
                go_wp2
                go_roundw
                case rel => exact ⟨r + 1, by omega, by go_num, HNEW.out.to (Below.refl _ _).drew, (HV8.out.setCell HB1.out.2 _).drew, (HB8.out.setCell HB1.out.1 _).drew⟩
                case measure => simp [intOf]; omega
              · go_simp
                refine (mul_any x by_ hxb hbyb _ (by exact HT8.out)).mono ?_
                rintro e w2 ⟨rfl, rfl⟩
                dsimp only
                refine hK.out _ _ HS.out (fun _ => ?_)
                clear hK K
                refine wpAnyH_ready (rs := [8]) (by kernel_rfl) (by simp) ?_
                refine AllReadyH.cons rfl (fun K hK => ?_) AllReadyH.nil
                go_simp
                refine hK.out _ _ HS.out (fun _ => ?_)
                clear hK K
                refine wpAnyH_take (i := 15) (v := (.int .u8 (nv : Int))) rfl (by kernel_rfl) (by kernel_rfl) (by kernel_rfl) (fun _ _ _ h => h) (Or.inl ⟨by rfl, fun w hw => by go_simp⟩) HS.out ?_
                refine wpAnyH_take (i := 16) (v := (.pointer (some ⟨b1, t0, none⟩))) rfl (by kernel_rfl) (by kernel_rfl) (by kernel_rfl) (fun _ _ _ h => h) (Or.inl ⟨by rfl, fun w hw => by go_simp⟩) HS.out ?_
                simp only [Act.put, List.setIfInBounds_toArray]
                refine wpAnyH_ready (rs := [17]) (by kernel_rfl) (by simp) ?_
                refine AllReadyH.cons rfl (fun K hK => ?_) AllReadyH.nil
                go_simp
                refine hK.out _ _ ⟨(World.cell?_setCell_other _ _ _ _ HA.out.1).trans HS.out.1, (World.cell?_setCell_other _ _ _ _ HA.out.2).trans HS.out.2⟩ (fun _ => ?_)
                clear hK K
                refine wpAnyH_done (by kernel_rfl) ?_ _
                go_wp2
                go_roundw
                case rel => exact ⟨r + 1, by omega, by go_num, HNEW.out.to (Below.refl _ _).drew, (HV8.out.setCell HB1.out.2 _).drew, (HB8.out.setCell HB1.out.1 _).drew⟩
                case measure => simp [intOf]; omega
            · obtain rfl : s = r := by omega
              have HO9 : Hid (OutAt wr g M L bs us (fun p => rowF L (newP d L at_ (nums text) (k + 1) (oldOf pieces) p))) := hout.congr fun p hp => by rw [if_pos (by omega)]
              have HV9 : Hid (Over F0 w5 wr) := hov
              have HB9 : Hid (Below w.heap.size w wr) := hbq
              clear hout hov hbq
              go_wp2
              go_roundw
              case rel => exact ⟨k + 1, by omega, by go_num, HO9.out, HV9.out, HB9.out⟩
              case measure => simp [intOf]; omega
        · obtain rfl : k = text.size := by omega
          obtain ⟨ls, hls⟩ : ∃ ls, ls = (List.range M).map fun p => rowF L (newP d L at_ (nums text) text.size (oldOf pieces) p) := ⟨_, rfl⟩
          have hlsl : ls.length = M := by rw [hls]; simp
          have HLS : Hid (ls.length = M) := hlsl
          have HRO : Hid (RowsAt wr (.slice (some ⟨g, 0, none⟩) M M) ls) := by
            refine ⟨_, M, by rw [hlsl], .inr ⟨g, 0, rfl, hout.list.lt, fun q hq => ?_⟩⟩
            obtain ⟨b1, c1, hb1, g1, hbg1, hb1l, hcell⟩ := hout.read q (by omega)
            have hq2 : ls[q] = rowF L (newP d L at_ (nums text) text.size (oldOf pieces) q) := by simp [hls]
            refine ⟨_, by rw [Nat.zero_add]; exact g1, ?_⟩
            have hll : ls[q].length = L := by rw [hq2]; simp
            refine ⟨_, c1, by rw [hll], .inr ⟨b1, 0, rfl, hb1l, fun t ht => ?_⟩⟩
            rw [Nat.zero_add, (hcell t (by omega)).1]
            simp only [hq2]
            simp [rowF, show t < L by omega]
          have HLD : Hid (((List.range M).map fun p => mkS (rowF L (newP d L at_ (nums text) text.size (oldOf pieces) p))) = ls.map mkS) := by show _ = _; rw [hls, List.map_map]; rfl
          have HBQ : Hid (Below w.heap.size w wr) := hbq
          clear hls hlsl hout hov hbq
          go_wp2_with fail
          refine (asTexts_any ls _ _ HRO.out (by rw [HLS.out]; omega)).mono ?_
          rintro e w9 ⟨b, hb, rfl, hblk, hb9⟩
          rw [HLS.out]
          have HBLK : Hid (Blk w9 b 9 (strV (ls.map mkS))) := hblk
          clear hblk
          go_wp2
          go_ret
          exact ⟨b, Nat.le_trans HBQ.out.size hb, rfl, by rw [HLD.out]; exact HBLK.out, HBQ.out.trans (hb9.mono HBQ.out.size)⟩
end Go.Proofs.YtlnpppdffhibjaaDoor.Ref

namespace Go.Proofs.YtlnpppdffhibjaaDoor.Ref
open Go.RowKit Mem FieldWalks Tab ByTab Parts
open Gf (Bytes newP)
open Plans (rowF)

/-- The shape, as the program asks it. -/
theorem shapeOk_iff (d s L : Nat) (pieces : List ByteArray) (lost : List Int) : ShapeOk d s L pieces lost ↔ NumsOk (d + s) lost ∧ (pieces.length = d + s ∧ SizesOk L pieces lost) :=
  ⟨fun h => ⟨h.nums, h.count, h.sizes⟩, fun h => ⟨h.2.1, h.1, h.2.2⟩⟩

section
variable (pv : Value) (text : ByteArray) (w : World)
set_option maxRecDepth 100000
theorem cFault_count (d s n a : Int) (h : okCounts d s = false) :
    Calls Tryd.prog 52 #[.int .i64 d, .int .i64 s, .int .i64 n, pv, .int .i64 a, .string text] w fun e w' => e = .returned (.int .i64 3) ∧ w' = w := by
  go_enter Tryd.func52, Tryd.ntmps52
  go_wp2_with fail
  refine (areCounts_any _ _ _).mono ?_
  rintro e w' ⟨rfl, rfl⟩
  go_wp2
  go_ret
  exact ⟨rfl, rfl⟩
theorem cFault_long (d s n a : Int) (h1 : okCounts d s = true) (h : ¬ (0 ≤ n ∧ n ≤ 400)) :
    Calls Tryd.prog 52 #[.int .i64 d, .int .i64 s, .int .i64 n, pv, .int .i64 a, .string text] w fun e w' => e = .returned (.int .i64 5) ∧ w' = w := by
  have hz := okSize_no n h
  clear h
  go_enter Tryd.func52, Tryd.ntmps52
  go_wp2_with fail
  refine (areCounts_any _ _ _).mono ?_
  rintro e w' ⟨rfl, rfl⟩
  go_wp2_with fail
  refine (isSize_any _ _).mono ?_
  rintro e w' ⟨rfl, rfl⟩
  go_wp2
  go_ret
  exact ⟨rfl, rfl⟩
theorem cFault_shape (d s n : Nat) (a : Int) (pieces : List ByteArray) (hp : StrsAt w pv pieces) (hpl : pieces.length < 2 ^ 62) (hd : 1 ≤ d) (hd2 : d ≤ 10) (hs : s ≤ 6) (hn : n ≤ 400) (hsz : ∀ p, (h : p < pieces.length) → pieces[p].size < 2 ^ 62)
    (hno : ¬ ShapeOk d s ((n + d - 1) / d) pieces []) :
    Calls Tryd.prog 52 #[.int .i64 d, .int .i64 s, .int .i64 n, pv, .int .i64 a, .string text] w fun e w' => e = .returned (.int .i64 6) ∧ w' = w := by
  have hok : okCounts d s = true := okCounts_yes _ _ (by omega)
  have hz : okSize n = true := okSize_yes _ (by omega)
  have hnil : IsC w (.slice none 0 0) [] := ⟨none, 0, rfl, .inl rfl⟩
  have HG : Hid (Calls Tryd.prog 66 #[.int .i64 d, .int .i64 s, .int .i64 n, pv, .slice none 0 0] w fun e w'' => e = .returned (.bool false) ∧ w'' = w) := by
    refine (goTogether_any d s n _ pieces [] pv _ w hp hnil (by simp) hpl hd hd2 hs hn rfl hsz).mono ?_
    rintro e w'' ⟨⟨b, rfl, hb⟩, rfl⟩
    cases b with
    | false => exact ⟨rfl, rfl⟩
    | true => exact absurd ((shapeOk_iff _ _ _ _ _).2 ⟨fun k hk => by simp at hk, hb.1 rfl⟩) hno
  clear hno hnil hp hpl hsz
  go_enter Tryd.func52, Tryd.ntmps52
  go_wp2_with fail
  refine (areCounts_any _ _ _).mono ?_
  rintro e w' ⟨rfl, rfl⟩
  go_wp2_with fail
  refine (isSize_any _ _).mono ?_
  rintro e w' ⟨rfl, rfl⟩
  go_wp2_with fail
  refine Calls.mono HG.out ?_
  rintro e w' ⟨rfl, rfl⟩
  go_wp2
  go_ret
  exact ⟨rfl, rfl⟩
theorem cFault_range (d s n : Nat) (a : Int) (pieces : List ByteArray) (hp : StrsAt w pv pieces) (hd : 1 ≤ d) (hd2 : d ≤ 10) (hs : s ≤ 6) (hn : n ≤ 400) (hsz : ∀ p, (h : p < pieces.length) → pieces[p].size < 2 ^ 62) (ha2 : a ≤ 9223372036854775807) (hlen : text.size ≤ maxLen)
    (hyes : ShapeOk d s ((n + d - 1) / d) pieces []) :
    Calls Tryd.prog 52 #[.int .i64 d, .int .i64 s, .int .i64 n, pv, .int .i64 a, .string text] w fun e w' => e = .returned (.int .i64 (if okWithin n a text.size = true then 0 else 8)) ∧ w' = w := by
  have hok : okCounts d s = true := okCounts_yes _ _ (by omega)
  have hz : okSize n = true := okSize_yes _ (by omega)
  have hnil : IsC w (.slice none 0 0) [] := ⟨none, 0, rfl, .inl rfl⟩
  have HG : Hid (Calls Tryd.prog 66 #[.int .i64 d, .int .i64 s, .int .i64 n, pv, .slice none 0 0] w fun e w'' => e = .returned (.bool true) ∧ w'' = w) := by
    refine (goTogether_any d s n _ pieces [] pv _ w hp hnil (by simp) (by rw [hyes.count]; omega) hd hd2 hs hn rfl hsz).mono ?_
    rintro e w'' ⟨⟨b, rfl, hb⟩, rfl⟩
    rw [hb.2 ((shapeOk_iff _ _ _ _ _).1 hyes).2]
    exact ⟨rfl, rfl⟩
  clear hnil hp hsz hyes
  obtain ⟨q, hq⟩ : ∃ q, q = okWithin n a text.size := ⟨_, rfl⟩
  rw [← hq]
  have HQ : Hid (q = okWithin n a text.size) := hq
  clear hq
  cases q <;>
  · go_enter Tryd.func52, Tryd.ntmps52
    go_wp2_with fail
    refine (areCounts_any _ _ _).mono ?_
    rintro e w' ⟨rfl, rfl⟩
    go_wp2_with fail
    refine (isSize_any _ _).mono ?_
    rintro e w' ⟨rfl, rfl⟩
    go_wp2_with fail
    refine Calls.mono HG.out ?_
    rintro e w' ⟨rfl, rfl⟩
    go_wp2_with fail
    refine (isWithin_any n hn a ha2 text hlen _).mono ?_
    rintro e w' ⟨rfl, rfl⟩
    rw [← HQ.out]
    go_wp2
    go_ret
    exact ⟨rfl, rfl⟩
theorem wChange_no (k : Nat) (hk : 1 ≤ k) (_hk2 : k ≤ 100) (d s n a : Int) (hF : Calls Tryd.prog 52 #[.int .i64 d, .int .i64 s, .int .i64 n, pv, .int .i64 a, .string text] w fun e w' => e = .returned (.int .i64 k) ∧ w' = w) :
    Calls Tryd.prog 26 #[.int .i64 d, .int .i64 s, .int .i64 n, pv, .int .i64 a, .string text] w fun e w' => CNo k e ∧ w' = w := by
  have hk0 : ((k : Int) != 0) = true := by simp; omega
  have hk1 : ¬ k = 0 := by omega
  go_enter Tryd.func26, Tryd.ntmps26
  go_wp2_with fail
  refine Calls.mono hF ?_
  rintro e w' ⟨rfl, rfl⟩
  go_wp2
  go_ret2
  exact ⟨rfl, rfl⟩
theorem wChange_ok (d s n at_ L : Nat) (pieces : List ByteArray) (ht : Table w) (hp : StrsAt w pv pieces) (hd : 1 ≤ d) (hd2 : d ≤ 10) (hs : s ≤ 6) (hn : n ≤ 400) (hL : L = (n + d - 1) / d) (hsz : ∀ p, (h : p < pieces.length) → pieces[p].size < 2 ^ 62)
    (hyes : ShapeOk d s L pieces []) (hat : at_ + text.size ≤ n) :
    Calls Tryd.prog 26 #[.int .i64 d, .int .i64 s, .int .i64 n, pv, .int .i64 at_, .string text] w fun e w' => ∃ b, w.heap.size ≤ b ∧ e = .returned (.tuple #[.slice (some ⟨b, 0, none⟩) (d + s) (d + s), .int .i64 0]) ∧
      Blk w' b 9 (strV ((List.range (d + s)).map fun p => mkS (rowF L (newP d L at_ (nums text) text.size (oldOf pieces) p)))) ∧ Below w.heap.size w w' := by
  have hF := cFault_range pv text w d s n at_ pieces hp hd hd2 hs hn hsz (by omega) (by unfold maxLen; omega) (by rw [← hL]; exact hyes)
  rw [show okWithin n at_ text.size = true by simp [okWithin]; omega, if_pos rfl] at hF
  have HP := pChange_any d s n at_ L pieces text pv w ht hp hd hd2 hs hn hL hyes hat
  have HPH : Hid _ := HP
  have HFH : Hid _ := hF
  clear HP hF hyes hsz hp
  go_enter Tryd.func26, Tryd.ntmps26
  go_wp2_with fail
  refine Calls.mono HFH.out ?_
  rintro e w' ⟨rfl, rfl⟩
  go_wp2_with fail
  refine Calls.mono HPH.out ?_
  rintro e w1 ⟨b, hb, rfl, hblk, hb1⟩
  have HBLK : Hid (Blk w1 b 9 (strV ((List.range (d + s)).map fun p => mkS (rowF L (newP d L at_ (nums text) text.size (oldOf pieces) p))))) := hblk
  clear hblk
  go_wp2
  go_ret2
  exact ⟨b, hb, rfl, HBLK.out, hb1⟩
end
end Go.Proofs.YtlnpppdffhibjaaDoor.Ref

namespace Go.Proofs.YtlnpppdffhibjaaDoor.KeepW
open Go.RowKit Mem FieldWalks Tab ByTab Parts Ref Top
open Gf (newP)
open Plans (rowF)

theorem change_yes : ChangeYes := by
  intro d s n a L pieces text pv w ht hp hd hd2 hs hn hL hsz hyes hat
  refine (wChange_ok pv text w d s n a L pieces ht hp hd hd2 hs hn hL hsz hyes hat).mono ?_
  rintro e w' ⟨b, _, rfl, hblk, hbel⟩
  exact ⟨_, rfl, StrsAt.of_blk hblk _ _ (by simp), hbel⟩
theorem change_out : ChangeOut := by
  intro d s n a L pieces text pv w _ hp hd hd2 hs hn hL hsz hyes ha hts hout
  have hlen : text.size ≤ maxLen := by unfold maxLen; omega
  have h := cFault_range pv text w d s n a pieces hp hd hd2 hs hn hsz (by omega) hlen (by rw [← hL]; exact hyes)
  rw [show okWithin n a text.size = false by simp [okWithin]; omega, if_neg (by decide)] at h
  refine (wChange_no pv text w 8 (by omega) (by omega) d s n a h).mono ?_
  rintro e w' ⟨he, rfl⟩
  exact ⟨he, Below.refl _ _⟩
end Go.Proofs.YtlnpppdffhibjaaDoor.KeepW

/- What a plan's steps come to. -/
namespace Go.Proofs.YtlnpppdffhibjaaDoor.Plans
open Gf (sumTo addTo Bytes)

/-- The sum of these slots. -/
def xs (f : Nat → Nat) (ts : List Nat) : Nat := (ts.map f).foldl (· ^^^ ·) 0
theorem foldl_xor (l : List Nat) : ∀ a, l.foldl (· ^^^ ·) a = a ^^^ l.foldl (· ^^^ ·) 0 := by
  induction l with
  | nil => intro a; simp
  | cons x l ih => intro a; rw [List.foldl_cons, ih, List.foldl_cons, ih (0 ^^^ x)]; simp [Nat.xor_assoc]
theorem xs_append (f : Nat → Nat) (a b : List Nat) : xs f (a ++ b) = xs f a ^^^ xs f b := by
  unfold xs; rw [List.map_append, List.foldl_append, foldl_xor]
theorem xs_nil (f : Nat → Nat) : xs f [] = 0 := rfl
theorem xs_one (f : Nat → Nat) (x : Nat) : xs f [x] = f x := by simp [xs]
theorem xs_congr {f g : Nat → Nat} {ts : List Nat} (h : ∀ x, x ∈ ts → f x = g x) : xs f ts = xs g ts := by
  unfold xs; rw [List.map_congr_left h]
theorem runOn_append (f : Nat → Nat) (a b : List Stp) : runOn f (a ++ b) = runOn (runOn f a) b := by simp [runOn]
theorem run_in (f : Nat → Nat) (dst : Nat) (ts : List Nat) (hne : ∀ x, x ∈ ts → x ≠ dst) (h0 : f dst = 0) : ∀ k, k ≤ ts.length → runOn f (stepsIn dst ts k) = upd f dst (xs f (ts.take k))
  | 0, _ => by rw [List.take_zero, xs_nil, upd_same _ _ _ h0]; rfl
  | k + 1, hk => by
    have ih := run_in f dst ts hne h0 k (by omega)
    have hlt : k < ts.length := by omega
    have hx : ts[k] ≠ dst := hne _ (List.getElem_mem hlt)
    have e : runOn f (stepsIn dst ts (k + 1)) = step1 (runOn f (stepsIn dst ts k)) ⟨dst, ts[k], k == 0⟩ := by
      rw [stepsIn_next dst ts k hlt, runOn_append]; rfl
    have e1 : upd f dst (xs f (ts.take k)) ts[k] = f ts[k] := by simp [upd, hx]
    have e2 : upd f dst (xs f (ts.take k)) dst = xs f (ts.take k) := by simp [upd]
    have e3 : xs f (ts.take (k + 1)) = xs f (ts.take k) ^^^ f ts[k] := by
      rw [List.take_add_one, List.getElem?_eq_getElem hlt, xs_append]
      show _ ^^^ xs f [ts[k]] = _
      rw [xs_one]
    rw [e, ih, step1]
    simp only [e1, e2]
    rw [upd_upd, e3]
    congr 1
    cases k with
    | zero => simp [xs]
    | succ k => rfl
theorem turnIn_mem (f bit o : Nat) : ∀ b x, x ∈ turnIn f bit o b → x < o + b
  | 0, x, h => by simp [turnIn] at h
  | b + 1, x, h => by
    rw [turnIn, List.mem_append] at h
    rcases h with h | h
    · have := turnIn_mem f bit o b x h; omega
    · split at h
      · simp at h; omega
      · cases h
theorem turnTo_mem (row : List Nat) (bit : Nat) : ∀ j x, x ∈ turnTo row bit j → x < 8 * j
  | 0, x, h => by simp [turnTo] at h
  | j + 1, x, h => by
    rw [turnTo, List.mem_append] at h
    rcases h with h | h
    · have := turnTo_mem row bit j x h; omega
    · have := turnIn_mem _ _ _ _ _ h; omega
theorem run_bit (f : Nat → Nat) (row : List Nat) (n i : Nat) (h0 : ∀ j, 8 * (n + i) ≤ j → f j = 0) : ∀ b,
    (∀ j, (j < 8 * (n + i) ∨ 8 * (n + i) + b ≤ j) → runOn f (stepsBit row n i b) j = f j) ∧ ∀ c, c < b → runOn f (stepsBit row n i b) (8 * (n + i) + c) = xs f (turnTo row c n)
  | 0 => ⟨fun j _ => rfl, fun c hc => by omega⟩
  | b + 1 => by
    obtain ⟨ih1, ih2⟩ := run_bit f row n i h0 b
    have hg0 : runOn f (stepsBit row n i b) (8 * (n + i) + b) = 0 := by rw [ih1 _ (by omega), h0 _ (by omega)]
    have e := run_in (runOn f (stepsBit row n i b)) (8 * (n + i) + b) (turnTo row b n) (fun x hx => by have := turnTo_mem row b n x hx; omega) hg0 _ (Nat.le_refl _)
    rw [List.take_length] at e
    have ex : xs (runOn f (stepsBit row n i b)) (turnTo row b n) = xs f (turnTo row b n) := xs_congr fun x hx => ih1 x (by have := turnTo_mem row b n x hx; omega)
    rw [stepsBit, runOn_append, e, ex]
    refine ⟨fun j hj => ?_, fun c hc => ?_⟩
    · unfold upd; rw [if_neg (by omega)]; exact ih1 j (by omega)
    · by_cases h : c = b
      · subst h; simp [upd]
      · unfold upd; rw [if_neg (by omega)]; exact ih2 c (by omega)
theorem run_rows (f : Nat → Nat) (rows : List (List Nat)) (n : Nat) (h0 : ∀ j, 8 * n ≤ j → f j = 0) : ∀ i,
    (∀ j, (j < 8 * n ∨ 8 * (n + i) ≤ j) → runOn f (stepsTo rows n i) j = f j) ∧ ∀ k, k < i → ∀ c, c < 8 → runOn f (stepsTo rows n i) (8 * (n + k) + c) = xs f (turnTo (rows.getD k []) c n)
  | 0 => ⟨fun j _ => rfl, fun k hk => by omega⟩
  | i + 1 => by
    obtain ⟨ih1, ih2⟩ := run_rows f rows n h0 i
    obtain ⟨h1, h2⟩ := run_bit (runOn f (stepsTo rows n i)) (rows.getD i []) n i (fun j hj => by rw [ih1 j (by omega), h0 j (by omega)]) 8
    rw [stepsTo, runOn_append]
    refine ⟨fun j hj => by rw [h1 j (by omega)]; exact ih1 j (by omega), fun k hk c hc => ?_⟩
    by_cases h : k = i
    · subst h
      rw [h2 c hc]
      exact xs_congr fun x hx => ih1 x (by have := turnTo_mem _ c n x hx; omega)
    · rw [h1 _ (by omega)]; exact ih2 k (by omega) c hc
theorem xs_in (f : Nat → Nat) (fct o c k x : Nat) (hfct : fct < 256) (hf : ∀ b, b < 8 → (f (o + b)).testBit k = x.testBit b) : ∀ b, b ≤ 8 → (xs f (turnIn fct c o b)).testBit k = (Gf.times fct (Gf.bitsOf b x.testBit)).testBit c
  | 0, _ => by rw [turnIn, xs_nil, Gf.bitsOf, Gf.times_zero fct hfct]; simp
  | b + 1, hb => by
    rw [turnIn, xs_append, Nat.testBit_xor, xs_in f fct o c k x hfct hf b (by omega), Gf.times_bits fct b hfct, Nat.testBit_xor]
    congr 1
    cases h1 : (Gf.times fct (2 ^ b)).testBit c
    · cases h2 : x.testBit b <;> simp [xs, h1]
    · have := hf b (by omega)
      rw [if_pos rfl, xs_one, this]
      cases h2 : x.testBit b <;> simp [h1]
/-- ████ The slots' sum is the bit of the sum. ████ -/
theorem xs_to (f : Nat → Nat) (row : List Nat) (ps : List (List Nat)) (L c k q : Nat) (hr : Bytes row) (hl : ∀ j, (h : j < ps.length) → ps[j].length = L) (hb : ∀ j, (h : j < ps.length) → Bytes ps[j])
    (hf : ∀ j, j < ps.length → ∀ b, b < 8 → (f (8 * j + b)).testBit k = ((ps.getD j []).getD q 0).testBit b) : ∀ j, j ≤ ps.length → (xs f (turnTo row c j)).testBit k = ((sumTo row ps L j).getD q 0).testBit c
  | 0, _ => by
    have : (List.replicate L 0).getD q 0 = 0 := by
      by_cases h : q < L
      · simp [h]
      · simp [List.getElem?_eq_none (show (List.replicate L 0).length ≤ q by simp; omega)]
    rw [turnTo, xs_nil, sumTo, this]; simp
  | j + 1, hj => by
    have hlt : j < ps.length := by omega
    have e2 : ps.getD j [] = ps[j] := by simp [hlt]
    have hs : (sumTo row ps L j).length = L := Gf.sumTo_length row ps L hl j (by omega)
    have hx : ps[j].getD q 0 < 256 := (hb j hlt).getD q
    have hfj := hf j hlt
    rw [e2] at hfj
    rw [turnTo, xs_append, Nat.testBit_xor, xs_to f row ps L c k q hr hl hb hf j (by omega), xs_in f _ _ c k _ (hr.getD j) hfj 8 (Nat.le_refl _), Gf.bitsOf_self (n := 8) hx, sumTo, e2,
      Planes.addTo_getD _ (hr.getD j) _ _ (by rw [hl j hlt, hs]), Nat.testBit_xor]
theorem byte_sum (f : Nat → Nat) (rows ps : List (List Nat)) (L k q i : Nat) (hi : i < rows.length) (hr : Bytes (rows.getD i [])) (hl : ∀ j, (h : j < ps.length) → ps[j].length = L) (hb : ∀ j, (h : j < ps.length) → Bytes ps[j])
    (h0 : ∀ j, 8 * ps.length ≤ j → f j = 0) (hf : ∀ j, j < ps.length → ∀ b, b < 8 → (f (8 * j + b)).testBit k = ((ps.getD j []).getD q 0).testBit b) :
    byteOf (runOn f (stepsTo rows ps.length rows.length)) (8 * (ps.length + i)) k = (sumTo (rows.getD i []) ps L ps.length).getD q 0 := by
  have hs := Gf.sumTo_bytes (rows.getD i []) ps L hr ps.length
  refine (Gf.eq_bitsOf (n := 8) (hs.getD q) fun c hc => ?_).symm
  rw [(run_rows f rows ps.length h0 rows.length).2 i hi c hc, xs_to f _ ps L c k q hr hl hb hf _ (Nat.le_refl _)]
theorem stepsIn_ok (m dst : Nat) (ts : List Nat) (k : Nat) (ht : dst < m) (hs : ∀ x, x ∈ ts → x < m) (hk : k ≤ ts.length) : ∀ s, s ∈ stepsIn dst ts k → s.ok m := by
  intro s h
  simp only [stepsIn, List.mem_map, List.mem_range] at h
  obtain ⟨j, hj, rfl⟩ := h
  refine ⟨ht, ?_⟩
  have : ts.getD j 0 = ts[j]'(by omega) := by simp [show j < ts.length by omega]
  show ts.getD j 0 < m
  rw [this]; exact hs _ (List.getElem_mem _)
theorem stepsBit_ok (row : List Nat) (n i m : Nat) (hm : 8 * (n + i) + 8 ≤ m) : ∀ b, b ≤ 8 → ∀ s, s ∈ stepsBit row n i b → s.ok m
  | 0, _, s, h => by simp [stepsBit] at h
  | b + 1, hb, s, h => by
    rw [stepsBit, List.mem_append] at h
    rcases h with h | h
    · exact stepsBit_ok row n i m hm b (by omega) s h
    · exact stepsIn_ok m _ _ _ (by omega) (fun x hx => by have := turnTo_mem row b n x hx; omega) (Nat.le_refl _) s h
theorem stepsTo_ok (rows : List (List Nat)) (n M : Nat) : ∀ i, i ≤ M → ∀ s, s ∈ stepsTo rows n i → s.ok (8 * (n + M))
  | 0, _, s, h => by simp [stepsTo] at h
  | i + 1, hi, s, h => by
    rw [stepsTo, List.mem_append] at h
    rcases h with h | h
    · exact stepsTo_ok rows n M i (by omega) s h
    · exact stepsBit_ok _ n i _ (by omega) 8 (Nat.le_refl _) s h
end Go.Proofs.YtlnpppdffhibjaaDoor.Plans

