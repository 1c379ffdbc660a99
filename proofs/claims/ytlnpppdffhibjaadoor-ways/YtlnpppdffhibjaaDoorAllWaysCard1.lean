import Derived.Test.YtlnpppdffhibjaaDoorRefSpread
import Derived.Test.YtlnpppdffhibjaaDoorRefRestored
import Derived.Test.YtlnpppdffhibjaaDoorTexts
import Derived.Lib.AppendZeros
import Derived.Test.YtlnpppdffhibjaaDoorChosen
import Derived.Test.YtlnpppdffhibjaaDoorParts
import Derived.Test.YtlnpppdffhibjaaDoorRefGather
import Derived.ArgAppend
import Derived.Deep.RegionHeld3
import Derived.WalkSpells
import Derived.BigQuiet
import Derived.Test.YtlnpppdffhibjaaDoorGatherOk
import Derived.Test.YtlnpppdffhibjaaDoorPlanMem
import Derived.Lib.ConvBytes
import Derived.Laws.CopyOwn
import Derived.Handy
namespace Go.Proofs.YtlnpppdffhibjaaDoor.Book
open Go.RowKit Mem FieldWalks Tab ByTab Parts

set_option maxRecDepth 100000 in
set_option maxHeartbeats 400000 in
theorem sameT_yes (ss : List ByteArray) (a b : Value) (w : World) (ha : StrsAt w a ss) (hb : StrsAt w b ss) (hn : ss.length ≤ 1000) :
    Calls Tryd.prog 20 #[a, b] w fun e w' => e = .returned (.bool true) ∧ ∃ n, w' = w.drewN n := by
  obtain ⟨aao, acap, rfl, hac⟩ := ha
  obtain ⟨bao, bcap, rfl, hbc⟩ := hb
  have hne : ((ss.length : Int) != (ss.length : Int)) = false := by simp
  have HAC : Hid (ss = [] ∨ ∃ b off, aao = some ⟨b, off, none⟩ ∧ b < w.heap.size ∧ ∀ k, (h : k < ss.length) → w.cell? ⟨b, off + k, none⟩ = some (.string ss[k])) := hac
  have HBC : Hid (ss = [] ∨ ∃ b off, bao = some ⟨b, off, none⟩ ∧ b < w.heap.size ∧ ∀ k, (h : k < ss.length) → w.cell? ⟨b, off + k, none⟩ = some (.string ss[k])) := hbc
  clear hac hbc
  go_enter Tryd.func20, Tryd.ntmps20
  go_wp2
  go_loopw [5] (fun i wr => ∃ k n : Nat, k ≤ ss.length ∧ i = .int .i64 k ∧ wr = w.drewN n) (fun i _ => ss.length - (intOf i).toNat)
  case atStart => exact ⟨0, 0, Nat.zero_le _, rfl, rfl⟩
  case round =>
    obtain ⟨k, n, hk, rfl, rfl⟩ := hrel
    by_cases hlt : k < ss.length
    · obtain ⟨x, xo, rfl, hx, hxc⟩ : ∃ b off, aao = some ⟨b, off, none⟩ ∧ b < w.heap.size ∧ ∀ k, (h : k < ss.length) → w.cell? ⟨b, off + k, none⟩ = some (.string ss[k]) := by
        rcases HAC.out with h | h
        · rw [h] at hlt; simp at hlt
        · exact h
      obtain ⟨y, yo, rfl, hy, hyc⟩ : ∃ b off, bao = some ⟨b, off, none⟩ ∧ b < w.heap.size ∧ ∀ k, (h : k < ss.length) → w.cell? ⟨b, off + k, none⟩ = some (.string ss[k]) := by
        rcases HBC.out with h | h
        · rw [h] at hlt; simp at hlt
        · exact h
      have c1 := hxc k hlt
      have c2 := hyc k hlt
      clear hxc hyc
      have hki : (k : Int) < (ss.length : Int) := by omega
      go_wp2
      go_quiet (fail)
      go_wp2
      go_roundw
      case rel => exact ⟨k + 1, n + nq, by omega, by go_num, rfl⟩
      case measure => simp [intOf]; omega
    · obtain rfl : k = ss.length := by omega
      go_wp2
      go_ret
      exact ⟨rfl, n, rfl⟩

/-- The mark of a number below ten. -/
def markS (n : Nat) : ByteArray := ⟨#[109, 97, 114, 107, UInt8.ofNat (48 + n)]⟩
set_option maxRecDepth 100000 in
set_option maxHeartbeats 400000 in
theorem mark_any (n : Nat) (h1 : 1 ≤ n) (h2 : n ≤ 9) (w : World) :
    Calls Tryd.prog 42 #[.int .i64 n] w fun e w' => e = .returned (.string (markS n)) ∧ Below w.heap.size w w' := by
  go_enter Tryd.func42, Tryd.ntmps42
  go_wp2
  go_loopw [0, 3] (fun m s wr => ((m = .int .i64 n ∧ s = .string ⟨#[109, 97, 114, 107]⟩) ∨ (m = .int .i64 0 ∧ s = .string (markS n))) ∧ Below w.heap.size w wr) (fun m _ _ => (intOf m).toNat)
  case atStart => exact ⟨.inl ⟨rfl, rfl⟩, Below.refl _ _⟩
  case round =>
    obtain ⟨h | h, hbel⟩ := hrel
    · obtain ⟨rfl, rfl⟩ := h
      have hsz := hbel.size
      have e1 : (n : Int) % 10 = n := by omega
      have e2 : (n : Int) / 10 = 0 := by omega
      go_wp2_with (refine wpList_convert _ rfl 93 9 _ rfl (.slice (some ⟨wr.heap.size, 0, none⟩) 1 1) (.string (mkS [48 + n])) rfl (conv_str _ _ _ (BsAt.of_blk (t := 5) (by exact Blk.eq (Blk.new wr _ _) (by simp [bytesV])) _ _ rfl)) ?_)
      go_roundw
      case rel => exact ⟨.inr ⟨rfl, congrArg Value.string (ByteArray.ext (by simp [markS, mkS, ByteArray.data_append]))⟩, hbel.alloc hsz _⟩
      case measure => simp [intOf]; omega
    · obtain ⟨rfl, rfl⟩ := h
      go_wp2
      go_ret
      exact ⟨rfl, hbel⟩
end Go.Proofs.YtlnpppdffhibjaaDoor.Book

namespace Go.Proofs.YtlnpppdffhibjaaDoor.KeepW
open Go.RowKit Mem FieldWalks Tab ByTab Parts Ref
open Plans (wpList_append_row made_cells owns_form infoInt grown_keeps intsV)

/-- Which of n things the raw number c speaks of. -/
def pickI (c : Int) (n : Nat) : Nat := if c < 0 then ((-(c + 1)) % (n : Int)).toNat else (c % (n : Int)).toNat
theorem pickI_lt (c : Int) (n : Nat) (h : 0 < n) : pickI c n < n := by
  have := Int.emod_lt_of_pos (-(c + 1)) (show (0 : Int) < n by omega)
  have := Int.emod_lt_of_pos c (show (0 : Int) < n by omega)
  have := Int.emod_nonneg (-(c + 1)) (show (n : Int) ≠ 0 by omega)
  have := Int.emod_nonneg c (show (n : Int) ≠ 0 by omega)
  unfold pickI; split <;> omega
theorem pickI_nat (k n : Nat) (h : k < n) : pickI k n = k := by
  unfold pickI
  rw [if_neg (by omega), Int.emod_eq_of_lt (by omega) (by omega)]; omega

/-- The numbers that are out, behind i raw ones. -/
def goneTo (raw : List Int) (n m : Nat) : Nat → List Nat
  | 0 => []
  | i + 1 => if (goneTo raw n m i).length < m ∧ pickI (raw.getD i 0) n ∉ goneTo raw n m i then goneTo raw n m i ++ [pickI (raw.getD i 0) n] else goneTo raw n m i
theorem goneTo_le (raw : List Int) (n m i : Nat) : (goneTo raw n m i).length ≤ m := by
  induction i with
  | zero => simp [goneTo]
  | succ i ih =>
    unfold goneTo
    split
    · rename_i h; rw [List.length_append, List.length_singleton]; omega
    · exact ih
theorem goneTo_len (raw : List Int) (n m i : Nat) : (goneTo raw n m i).length ≤ i := by
  induction i with
  | zero => simp [goneTo]
  | succ i ih =>
    unfold goneTo
    split
    · rw [List.length_append, List.length_singleton]; omega
    · omega
theorem goneTo_nodup (raw : List Int) (n m i : Nat) : (goneTo raw n m i).Nodup := by
  induction i with
  | zero => simp [goneTo]
  | succ i ih =>
    unfold goneTo
    split
    · rename_i h
      rw [List.nodup_append]
      refine ⟨ih, by simp, fun a ha b hb e => ?_⟩
      rw [List.mem_singleton] at hb
      exact h.2 (by rw [← hb, ← e]; exact ha)
    · exact ih
theorem goneTo_lt (raw : List Int) (n m i : Nat) (hn : 0 < n) : ∀ x, x ∈ goneTo raw n m i → x < n := by
  induction i with
  | zero => intro x hx; simp [goneTo] at hx
  | succ i ih =>
    unfold goneTo
    intro x hx
    split at hx
    · rcases List.mem_append.1 hx with h | h
      · exact ih x h
      · simp at h; rw [h]; exact pickI_lt _ _ hn
    · exact ih x hx
theorem goneTo_full (raw : List Int) (n m i : Nat) (h : m ≤ (goneTo raw n m i).length) : ∀ j, goneTo raw n m (i + j) = goneTo raw n m i := by
  intro j
  induction j with
  | zero => rfl
  | succ j ih =>
    rw [← Nat.add_assoc, goneTo, ih, if_neg (by omega)]
/-- Numbers that are as they must be come out as they are, with one more. -/
theorem goneTo_again (l : List Nat) (k n m : Nat) (hnd : l.Nodup) (hlt : ∀ x, x ∈ l → x < n) (hk : k < n) (hm : l.length < m) :
    goneTo (l.map Int.ofNat ++ [(k : Int)]) n m (l.length + 1) = if k ∈ l then l else l ++ [k] := by
  have key : ∀ i, i ≤ l.length → goneTo (l.map Int.ofNat ++ [(k : Int)]) n m i = l.take i := by
    intro i
    induction i with
    | zero => intro _; simp [goneTo]
    | succ i ih =>
      intro hi
      have ih := ih (by omega)
      have e : (l.map Int.ofNat ++ [(k : Int)]).getD i 0 = ((l[i]'(by omega) : Nat) : Int) := by
        rw [List.getD_eq_getElem?_getD, List.getElem?_append_left (by simpa using (show i < l.length by omega))]
        simp [show i < l.length by omega]
      rw [goneTo, ih, e, pickI_nat _ _ (hlt _ (List.getElem_mem _)), List.take_add_one, List.getElem?_eq_getElem (by omega), Option.toList_some]
      rw [if_pos]
      refine ⟨by rw [List.length_take]; omega, fun hm => ?_⟩
      obtain ⟨q, hq, e2⟩ := List.mem_iff_getElem.1 hm
      have hq' : q < i := by simp at hq; omega
      rw [List.getElem_take] at e2
      rw [List.Nodup, List.pairwise_iff_getElem] at hnd
      exact hnd q i (by omega) (by omega) hq' e2
  have e : (l.map Int.ofNat ++ [(k : Int)]).getD l.length 0 = (k : Int) := by
    rw [List.getD_eq_getElem?_getD, List.getElem?_append_right (by simp)]; simp
  rw [goneTo, key l.length (Nat.le_refl _), List.take_length, e, pickI_nat k n hk]
  by_cases h : k ∈ l
  · rw [if_neg (fun h2 => h2.2 h), if_pos h]
  · rw [if_pos ⟨hm, h⟩, if_neg h]
theorem IsC.of_owns {w : World} {base : Nat} {v : Value} {l : List Nat} (h : w.ownsRow base 3 1 v l.length (intsV l)) : IsC w v (l.map Int.ofNat) := by
  obtain ⟨hl, h2⟩ := h
  rcases h2 with ⟨rfl, h0⟩ | ⟨g, cap, cur, rfl, hg, hh, hle, _, _, ht⟩
  · have : l = [] := List.eq_nil_of_length_eq_zero h0
    subst this
    exact ⟨none, 0, rfl, .inl rfl⟩
  · refine ⟨_, cap - l.length, by simp; omega, .inr ⟨g, 0, rfl, lt_of_block hh, fun k hk => ?_⟩⟩
    have hk' : k < l.length := by simpa using hk
    rw [Nat.zero_add, cell_of_row w g k cur 3 (0, 0) hh]
    rw [Nat.mul_one] at ht
    have : (cur.toList.take l.length)[k]? = some (.int .i64 (l[k] : Nat)) := by rw [ht]; simp [intsV, hk']
    rw [List.getElem?_take_of_lt hk'] at this
    simpa using this

set_option maxRecDepth 100000 in
theorem kpick_any (c : Int) (n : Nat) (w : World) (hn : 0 < n) (hn2 : n ≤ 1000) (h1 : -9223372036854775808 ≤ c) (h2 : c ≤ 9223372036854775807) :
    Calls Tryd.prog 16 #[.int .i64 c, .int .i64 n] w fun e w' => e = .returned (.int .i64 (pickI c n : Nat)) ∧ w' = w := by
  by_cases h : c < 0
  · have e0 : Hid (pickI c n = ((-(c + 1)) % (n : Int)).toNat) := if_pos h
    have hm := Int.emod_lt_of_pos (-(c + 1)) (show (0 : Int) < n by omega)
    have hm2 := Int.emod_nonneg (-(c + 1)) (show (n : Int) ≠ 0 by omega)
    have E : Hid (Int.tmod (-(c + 1)) (n : Int) = ((((-(c + 1)) % (n : Int)).toNat : Nat) : Int)) := by
      show _ = _
      rw [Int.tmod_eq_emod_of_nonneg (by omega)]; omega
    clear hm hm2
    go_enter Tryd.func16, Tryd.ntmps16
    go_wp2
    go_ret
    refine ⟨?_, rfl⟩
    rw [e0.out, ← E.out]
    first
      | rfl
      | (rw [Int.neg_tmod]; rfl)
  · have e0 : Hid (pickI c n = (c % (n : Int)).toNat) := if_neg h
    have hm := Int.emod_lt_of_pos c (show (0 : Int) < n by omega)
    have hm2 := Int.emod_nonneg c (show (n : Int) ≠ 0 by omega)
    have E : Hid (c % (n : Int) = (((c % (n : Int)).toNat : Nat) : Int)) := by show _ = _; omega
    clear hm hm2
    go_enter Tryd.func16, Tryd.ntmps16
    go_wp2
    go_ret
    refine ⟨?_, rfl⟩
    rw [e0.out, ← E.out]
    first
      | rfl
      | (rw [← Int.tmod_eq_emod_of_nonneg (by omega)]; rfl)

set_option maxRecDepth 100000 in
set_option maxHeartbeats 400000 in
theorem ksame_yes (ss : List ByteArray) (a b : Value) (w : World) (ha : StrsAt w a ss) (hb : StrsAt w b ss) (hn : ss.length ≤ 1000) :
    Calls Tryd.prog 30 #[a, b] w fun e w' => e = .returned (.bool true) ∧ ∃ n, w' = w.drewN n := by
  obtain ⟨aao, acap, rfl, hac⟩ := ha
  obtain ⟨bao, bcap, rfl, hbc⟩ := hb
  have hne : ((ss.length : Int) != (ss.length : Int)) = false := by simp
  have HAC : Hid (ss = [] ∨ ∃ b off, aao = some ⟨b, off, none⟩ ∧ b < w.heap.size ∧ ∀ k, (h : k < ss.length) → w.cell? ⟨b, off + k, none⟩ = some (.string ss[k])) := hac
  have HBC : Hid (ss = [] ∨ ∃ b off, bao = some ⟨b, off, none⟩ ∧ b < w.heap.size ∧ ∀ k, (h : k < ss.length) → w.cell? ⟨b, off + k, none⟩ = some (.string ss[k])) := hbc
  clear hac hbc
  go_enter Tryd.func30, Tryd.ntmps30
  go_wp2
  go_loopw [5] (fun i wr => ∃ k n : Nat, k ≤ ss.length ∧ i = .int .i64 k ∧ wr = w.drewN n) (fun i _ => ss.length - (intOf i).toNat)
  case atStart => exact ⟨0, 0, Nat.zero_le _, rfl, rfl⟩
  case round =>
    obtain ⟨k, n, hk, rfl, rfl⟩ := hrel
    by_cases hlt : k < ss.length
    · obtain ⟨x, xo, rfl, hx, hxc⟩ : ∃ b off, aao = some ⟨b, off, none⟩ ∧ b < w.heap.size ∧ ∀ k, (h : k < ss.length) → w.cell? ⟨b, off + k, none⟩ = some (.string ss[k]) := by
        rcases HAC.out with h | h
        · rw [h] at hlt; simp at hlt
        · exact h
      obtain ⟨y, yo, rfl, hy, hyc⟩ : ∃ b off, bao = some ⟨b, off, none⟩ ∧ b < w.heap.size ∧ ∀ k, (h : k < ss.length) → w.cell? ⟨b, off + k, none⟩ = some (.string ss[k]) := by
        rcases HBC.out with h | h
        · rw [h] at hlt; simp at hlt
        · exact h
      have c1 := hxc k hlt
      have c2 := hyc k hlt
      clear hxc hyc
      have hki : (k : Int) < (ss.length : Int) := by omega
      go_wp2
      go_quiet (fail)
      go_wp2
      go_roundw
      case rel => exact ⟨k + 1, n + nq, by omega, by go_num, rfl⟩
      case measure => simp [intOf]; omega
    · obtain rfl : k = ss.length := by omega
      go_wp2
      go_ret
      exact ⟨rfl, n, rfl⟩

set_option maxRecDepth 100000 in
set_option maxHeartbeats 1000000 in
theorem kgone_any (raw : List Int) (n m : Nat) (rv : Value) (w : World) (hr : IsC w rv raw) (hrl : raw.length < 2 ^ 62) (hb : ∀ x, x ∈ raw → -9223372036854775808 ≤ x ∧ x ≤ 9223372036854775807) (hn : 0 < n) (hn2 : n ≤ 1000) (hm : m ≤ 1000) :
    Calls Tryd.prog 29 #[rv, .int .i64 n, .int .i64 m] w fun e w' => ∃ v, e = .returned v ∧ w'.ownsRow w.heap.size 3 1 v (goneTo raw n m raw.length).length (intsV (goneTo raw n m raw.length)) ∧ Below w.heap.size w w' := by
  obtain ⟨ao, ex, rfl, hc⟩ := hr
  have HC : Hid (raw = [] ∨ ∃ b off, ao = some ⟨b, off, none⟩ ∧ b < w.heap.size ∧ ∀ k, (h : k < raw.length) → w.cell? ⟨b, off + k, none⟩ = some (.int .i64 raw[k])) := hc
  have HB : Hid (∀ x, x ∈ raw → -9223372036854775808 ≤ x ∧ x ≤ 9223372036854775807) := hb
  clear hc hb
  go_enter Tryd.func29, Tryd.ntmps29
  go_wp2
  go_loopw [7, 8] (fun t iv wr => ∃ i : Nat, i ≤ raw.length ∧ iv = .int .i64 i ∧ wr.ownsRow w.heap.size 3 1 t (goneTo raw n m i).length (intsV (goneTo raw n m i)) ∧ Below w.heap.size w wr) (fun _ iv _ => raw.length - (intOf iv).toNat)
  case atStart => exact ⟨0, Nat.zero_le _, rfl, World.ownsRow_nil _ _ _ _, Below.refl _ _⟩
  case round =>
    obtain ⟨i, hi, rfl, hown, hbel⟩ := hrel
    have hsz := hbel.size
    obtain ⟨l, hl⟩ : ∃ l, l = goneTo raw n m i := ⟨_, rfl⟩
    have hlm : l.length ≤ m := by rw [hl]; exact goneTo_le _ _ _ _
    have HL : Hid (l = goneTo raw n m i) := hl
    rw [← hl] at hown
    obtain ⟨ta, tc, rfl⟩ := owns_form hown
    have HOW : Hid (wr.ownsRow w.heap.size 3 1 (.slice ta l.length tc) l.length (intsV l)) := hown
    clear hl hown
    by_cases hlt : i < raw.length
    · have e1 : decide ((i : Int) < (raw.length : Int)) = true := decide_eq_true (by omega)
      by_cases hlen : l.length < m
      · have e2 : decide ((l.length : Int) < (m : Int)) = true := decide_eq_true (by omega)
        obtain ⟨b, off, rfl, hblt, hc⟩ : ∃ b off, ao = some ⟨b, off, none⟩ ∧ b < w.heap.size ∧ ∀ k, (h : k < raw.length) → w.cell? ⟨b, off + k, none⟩ = some (.int .i64 raw[k]) := by
          rcases HC.out with h | h
          · rw [h] at hlt; simp at hlt
          · exact h
        have c1 := hc i hlt
        rw [← hbel.cell (p := ⟨b, off + i, none⟩) hblt] at c1
        obtain ⟨c, hcc⟩ : ∃ c, c = raw[i] := ⟨_, rfl⟩
        rw [← hcc] at c1
        have hcb : -9223372036854775808 ≤ c ∧ c ≤ 9223372036854775807 := by rw [hcc]; exact HB.out _ (List.getElem_mem _)
        obtain ⟨p, hp⟩ : ∃ p, p = pickI c n := ⟨_, rfl⟩
        have HNX : Hid (goneTo raw n m (i + 1) = if p ∈ l then l else l ++ [p]) := by
          show _ = _
          have e : raw.getD i 0 = c := by rw [hcc]; simp [hlt]
          rw [goneTo, e, ← hp, ← HL.out]
          by_cases h : p ∈ l
          · rw [if_neg (fun h2 => h2.2 h), if_pos h]
          · rw [if_pos ⟨hlen, h⟩, if_neg h]
        have HPN : Hid (∀ W, Calls Tryd.prog 16 #[.int .i64 c, .int .i64 n] W fun e w' => e = .returned (.int .i64 (p : Nat)) ∧ w' = W) := by
          intro W
          rw [hp]; exact kpick_any c n W hn hn2 hcb.1 hcb.2
        have hpb : p < 1000 := by rw [hp]; exact Nat.lt_of_lt_of_le (pickI_lt _ _ hn) hn2
        clear hc hcc hp hcb
        go_wp2_with fail
        refine (HPN.out _).mono ?_
        rintro e w2 ⟨rfl, rfl⟩
        go_wp2
        go_loop [10, 11] (fun o kv => ∃ k : Nat, k ≤ l.length ∧ kv = .int .i64 k ∧ o = .bool (decide (p ∈ l.take k))) (fun _ kv => l.length - (intOf kv).toNat)
        case atStart => exact ⟨0, Nat.zero_le _, rfl, by simp⟩
        case round =>
          obtain ⟨k, hk, rfl, rfl⟩ := hrel
          by_cases hkl : k < l.length
          · obtain ⟨g, hta, hcell⟩ : ∃ g, ta = some ⟨g, 0, none⟩ ∧ w2.cell? ⟨g, k, none⟩ = some (.int .i64 (l[k] : Nat)) := by
              rcases HOW.out.2 with ⟨h0, h1⟩ | ⟨g, cap, cur, h0, _, hh, _, _, _, ht⟩
              · omega
              · injection h0 with h0 _ _
                refine ⟨g, h0, ?_⟩
                rw [cell_of_row w2 g k cur 3 (0, 0) hh]
                rw [Nat.mul_one] at ht
                have : (cur.toList.take l.length)[k]? = some (.int .i64 (l[k] : Nat)) := by rw [ht]; simp [intsV, hkl]
                rw [List.getElem?_take_of_lt hkl] at this
                simpa using this
            subst hta
            obtain ⟨y, hy⟩ : ∃ y, y = l[k] := ⟨_, rfl⟩
            rw [← hy] at hcell
            have HY : Hid (l.take (k + 1) = l.take k ++ [y]) := by show _ = _; rw [hy, List.take_add_one, List.getElem?_eq_getElem hkl]; rfl
            obtain ⟨o, ho⟩ : ∃ o, o = decide (p ∈ l.take k) := ⟨_, rfl⟩
            have HO : Hid (o = decide (p ∈ l.take k)) := ho
            rw [← ho]
            clear hy ho
            cases o
            · have HO2 : Hid (decide (p ∈ l.take (k + 1)) = ((y : Int) == (p : Int))) := by
                show _ = _
                have h0 : p ∉ l.take k := by have := HO.out; simpa using this
                rw [HY.out]
                by_cases e : y = p
                · simp [e]
                · have e' : ¬ p = y := fun h => e h.symm
                  have e2 : ((y : Int) == (p : Int)) = false := by simp; omega
                  rw [e2]; simp [h0, e']
              go_wp2
              go_round
              case rel => exact ⟨k + 1, by omega, by go_num, by rw [HO2.out]⟩
              case measure => simp [intOf]; omega
            · have HO2 : Hid (decide (p ∈ l.take (k + 1)) = true) := by
                show _ = _
                have h0 : p ∈ l.take k := by have := HO.out; simpa using this.symm
                rw [HY.out]; simp [h0]
              go_wp2
              go_round
              case rel => exact ⟨k + 1, by omega, by go_num, by rw [HO2.out]⟩
              case measure => simp [intOf]; omega
          · obtain rfl : k = l.length := by omega
            rw [List.take_length]
            by_cases hmem : p ∈ l
            · have ed : decide (p ∈ l) = true := decide_eq_true hmem
              have HN2 : Hid (goneTo raw n m (i + 1) = l) := by show _ = _; rw [HNX.out, if_pos hmem]
              rw [ed]
              clear hmem ed
              go_wp2
              go_roundw
              case rel => exact ⟨i + 1, by omega, by go_num, by rw [HN2.out]; exact HOW.out, hbel⟩
              case measure => simp [intOf]; omega
            · have ed : decide (p ∈ l) = false := decide_eq_false hmem
              have HN2 : Hid (goneTo raw n m (i + 1) = l ++ [p]) := by show _ = _; rw [HNX.out, if_neg hmem]
              have HNC : Hid (intsV l ++ [.int .i64 (p : Int)] = intsV (l ++ [p])) := by show _ = _; simp [intsV]
              have hown := HOW.out
              rw [ed]
              clear hmem ed
              go_wp2_with (at_builtin; refine wpList_append_row _ rfl _ _ 45 rfl w.heap.size 3 (.int .i64 0) 1 8 Tryd.underlying45 infoInt rfl (by decide) (by decide) _ _ _ rfl (by exact hown.alloc _) ⟨w2.heap.size, 0, none⟩ 1 [.int .i64 (p : Int)] rfl rfl (made_cells w2 3 _) (by simp [Value.oneCell']) (by omega) (by simp; omega) ?_; rw [HNC.out]; intro v' w3 hown' hg hbel')
              have HB3 : Hid (Below w.heap.size w w3) := hbel' _ _ (hbel.alloc hsz _) (Nat.le_refl _)
              have HO3 : Hid (w3.ownsRow w.heap.size 3 1 v' (goneTo raw n m (i + 1)).length (intsV (goneTo raw n m (i + 1)))) := by
                show w3.ownsRow _ _ _ _ _ _
                rw [HN2.out]; simpa using hown'
              clear hg hbel' hown'
              go_roundw
              case rel => exact ⟨i + 1, by omega, by go_num, HO3.out, HB3.out⟩
              case measure => simp [intOf]; omega
      · have e2 : decide ((l.length : Int) < (m : Int)) = false := decide_eq_false (by omega)
        have HF : Hid (goneTo raw n m raw.length = l) := by
          show _ = _
          have := goneTo_full raw n m i (by rw [← HL.out]; omega) (raw.length - i)
          rw [show i + (raw.length - i) = raw.length by omega] at this
          rw [this, ← HL.out]
        go_wp2
        go_ret
        exact ⟨_, rfl, by rw [HF.out]; exact HOW.out, hbel⟩
    · obtain rfl : i = raw.length := by omega
      have e1 : decide ((raw.length : Int) < (raw.length : Int)) = false := decide_eq_false (by omega)
      have HF : Hid (goneTo raw n m raw.length = l) := HL.out.symm
      go_wp2
      go_ret
      exact ⟨_, rfl, by rw [HF.out]; exact HOW.out, hbel⟩
end Go.Proofs.YtlnpppdffhibjaaDoor.KeepW

namespace Go.Proofs.YtlnpppdffhibjaaDoor.Parts
open Go.RowKit Mem FieldWalks Tab ByTab

theorem make_strN (n : Nat) (hp : n ≤ 1000) (w : World) :
    (Instr.makeSlice 38 (.int .i64 (n : Int)) (.int .i64 (n : Int))).run Tryd.prog w = .ok (.slice (some ⟨w.heap.size, 0, none⟩) n n) (w.alloc (.cells (madeCells #[.string ByteArray.empty] n) 9)) := by
  obtain ⟨i, hi, hz0, hz1, hz2⟩ := info_parts infoStr
  have := run_make (P := Tryd.prog) w 38 9 i (.string ByteArray.empty) Tryd.underlying38 hi hz0 .i64 .i64 (n : Int) (n : Int) (by omega) (by omega) (by rw [hz2]; omega) (by omega)
  rw [hz1, show ((n : Int)).toNat = n by omega, Nat.mul_one] at this
  exact this

set_option maxRecDepth 100000 in
set_option maxHeartbeats 1000000 in
theorem asTexts_any (ps : List (List Nat)) (pv : Value) (w : World) (hp : RowsAt w pv ps) (hlp : ps.length ≤ 100) :
    Calls Tryd.prog 73 #[pv] w fun e w' => ∃ b, w.heap.size ≤ b ∧ e = .returned (.slice (some ⟨b, 0, none⟩) ps.length ps.length) ∧ Blk w' b 9 (strV (ps.map mkS)) ∧ Below w.heap.size w w' := by
  obtain ⟨pao, pcap, rfl, hpc⟩ := hp
  have hmk := fun w => make_strN ps.length (by omega) w
  have HPC : Hid (ps = [] ∨ ∃ b off, pao = some ⟨b, off, none⟩ ∧ b < w.heap.size ∧ ∀ k, (h : k < ps.length) → ∃ u, w.cell? ⟨b, off + k, none⟩ = some u ∧ BsAt w u ps[k]) := hpc
  have HTL : Hid ((ps.map mkS).length = ps.length) := List.length_map mkS
  clear hpc
  go_enter Tryd.func73, Tryd.ntmps73
  go_wp2
  go_loopw [11] (fun i wr => ∃ k : Nat, k ≤ ps.length ∧ i = .int .i64 k ∧ Blk wr w.heap.size 9 (strV (mix (ps.map mkS) (List.replicate ps.length ByteArray.empty) k)) ∧ Below w.heap.size w wr) (fun i _ => ps.length - (intOf i).toNat)
  case atStart =>
    refine ⟨0, Nat.zero_le _, rfl, (Blk.new w _ _).eq ?_, (Below.refl _ _).alloc (Nat.le_refl _) _⟩
    rw [toList_madeCells_one, mix_zero]; simp [strV]
  case round =>
    obtain ⟨k, hk, rfl, hblk, hbel⟩ := hrel
    by_cases hlt : k < ps.length
    · obtain ⟨b, off, rfl, hb, hc⟩ : ∃ b off, pao = some ⟨b, off, none⟩ ∧ b < w.heap.size ∧ ∀ k, (h : k < ps.length) → ∃ u, w.cell? ⟨b, off + k, none⟩ = some u ∧ BsAt w u ps[k] := by
        rcases HPC.out with h | h
        · rw [h] at hlt; simp at hlt
        · exact h
      obtain ⟨u, hu, hbs⟩ := hc k hlt
      rw [← hbel.cell (p := ⟨b, off + k, none⟩) hb] at hu
      have HBS : Hid (BsAt wr u ps[k]) := hbs.to hbel
      have hl1 : k < (strV (mix (ps.map mkS) (List.replicate ps.length ByteArray.empty) k)).length := by simp [strV, mix_length, HTL.out]; omega
      have hc1 := hblk.cell_some (List.getElem?_eq_getElem hl1)
      have hf1 := hblk.free k
      generalize (strV (mix (ps.map mkS) (List.replicate ps.length ByteArray.empty) k))[k] = old at hc1
      have HB : Hid (Blk wr w.heap.size 9 (strV (mix (ps.map mkS) (List.replicate ps.length ByteArray.empty) k))) := hblk
      have hBlt := hblk.lt
      clear hc hbs hblk hl1
      go_wp2_with (refine wpList_convert _ rfl 93 9 _ rfl u (.string (mkS ps[k])) rfl (conv_str _ _ _ HBS.out) ?_)
      go_roundw
      case rel =>
        refine ⟨k + 1, by omega, by go_num, ?_, ?_⟩
        · refine ((HB.out.set k _)).eq ?_
          have e := strs_step (ps.map mkS) ps.length k HTL.out (by omega)
          rw [← e]
          simp
        · exact hbel.setCell (Nat.le_refl _) _
      case measure => simp [intOf]; omega
    · obtain rfl : k = ps.length := by omega
      go_wp2
      go_ret
      refine ⟨w.heap.size, Nat.le_refl _, rfl, hblk.eq ?_, hbel⟩
      have e := mix_all (new := ps.map mkS) (old := List.replicate ps.length ByteArray.empty) (by simp)
      simp only [List.length_replicate] at e
      rw [e]
end Go.Proofs.YtlnpppdffhibjaaDoor.Parts

namespace Go.Proofs.YtlnpppdffhibjaaDoor.Parts
open Go.RowKit Mem FieldWalks Tab ByTab

theorem infoRow8 : (Tryd.prog.info? 93).map (fun i => (i.zero, i.size, i.bytes)) = some (some (.slice none 0 0), 1, 24) := by kernel_rfl

set_option maxRecDepth 100000 in
theorem grow_any (n : Nat) (hn : n ≤ 200) (w : World) :
    Calls Tryd.prog 88 #[.slice none 0 0, .int .i64 n] w fun e w' => ∃ v, e = .returned v ∧ w'.ownsRow w.heap.size 93 1 v 0 [] ∧ Below w.heap.size w w' := by
  by_cases h0 : n = 0
  · subst h0
    go_enter Tryd.func88, Tryd.ntmps88
    go_wp2
    go_ret
    exact ⟨_, rfl, World.ownsRow_nil _ _ _ _, Below.refl _ _⟩
  · obtain ⟨i0, hi, hz0, hz1, hz2⟩ := info_parts infoRow8
    have hr := Lib.run_append_nil_zeros (P := Tryd.prog) w 91 3 91 93 i0 (.slice none 0 0) .i64 .i64 Tryd.underlying91 Tryd.underlying3 hi hz0 n (by omega) (by omega) (by omega) (by rw [hz2]; omega)
    have hge := grownCap_ge w n 0 93
    have hle := grownCap_le_maxLen w n 0 93 (by unfold maxLen; omega)
    generalize grownCap w n 0 93 = cap at hr hge hle
    have HLE : Hid (cap ≤ maxLen) := hle
    clear hle hi hz0 hz1 hz2
    go_enter Tryd.func88, Tryd.ntmps88
    go_wp2_with (at_builtin; refine Lib.wpList_append_run _ rfl _ _ _ _ rfl _ _ rfl rfl _ _ hr ?_)
    go_ret
    refine ⟨_, rfl, ⟨rfl, .inr ⟨w.heap.size, cap, _, rfl, Nat.le_refl _, heap_alloc_new w.drew _, Nat.zero_le _, HLE.out, ?_, ?_⟩⟩, (Below.refl _ _).drew.alloc (Nat.le_refl _) _⟩
    · simp only [Array.size_append, size_zeroCells]
      simp; omega
    · simp

/-- The slice v reads as these lists of rows. -/
def RowssAt (w : World) (v : Value) (R : List (List (List Nat))) : Prop :=
  ∃ b cap, v = .slice (some ⟨b, 0, none⟩) R.length cap ∧ b < w.heap.size ∧ ∀ k, (h : k < R.length) → ∃ u, w.cell? ⟨b, k, none⟩ = some u ∧ RowsAt w u R[k]

theorem run_loadCells_none' {P : Program} (w : World) (a : Addr) : (loadCells a 0).run P w = .ok #[] w := run_loadCells_list (P := P) w a [] (fun j u hu => by simp at hu)
theorem run_append_empty {P : Program} (w : World) (base : Nat) (t ty e : TypeId) (i : TypeInfo) (size : Nat) (ht : P.underlying t = some (.slice e)) (hi : P.info? e = some i)
    (v : Value) (n : Nat) (xs : List Value) (hown : w.ownsRow base e size v n xs) (ao : Option Addr) (c : Nat) :
    (Builtin.append_ #[t, t] ty #[v, .slice ao 0 c]).run P w = .ok v w := by
  rcases hown.2 with ⟨rfl, rfl⟩ | ⟨g, cap, cur, rfl, _, _, hnc, _⟩ <;> cases ao
  · simp [Builtin.append_, run_underlying ht, sizeOf, typeInfo, hi, Builtin.lenOf, Builtin.firstCells]
  · simp [Builtin.append_, run_underlying ht, sizeOf, typeInfo, hi, Builtin.lenOf, Builtin.firstCells, run_loadCells_none']
  · simp [Builtin.append_, run_underlying ht, sizeOf, typeInfo, hi, Builtin.lenOf, Builtin.firstCells, hnc, storeCells]
  · simp [Builtin.append_, run_underlying ht, sizeOf, typeInfo, hi, Builtin.lenOf, Builtin.firstCells, hnc, storeCells, run_loadCells_none']

theorem flat_next {α : Type} (R : List (List α)) (k : Nat) (h : k < R.length) : (R.take (k + 1)).flatten = (R.take k).flatten ++ R[k] := by
  rw [List.take_add_one, List.getElem?_eq_getElem h, List.flatten_append]; simp
theorem flat_le {α : Type} (R : List (List α)) (k : Nat) : (R.take k).flatten.length ≤ R.flatten.length := by
  have e : R.flatten = (R.take k).flatten ++ (R.drop k).flatten := by rw [← List.flatten_append, List.take_append_drop]
  rw [e, List.length_append]; omega

/-- The cells of rows. -/
theorem rows_cells {w : World} {b off : Nat} {rows : List (List Nat)} (h : ∀ k, (h : k < rows.length) → ∃ u, w.cell? ⟨b, off + k, none⟩ = some u ∧ BsAt w u rows[k]) :
    ∃ us : List Value, us.length = rows.length ∧ (∀ k u, us[k]? = some u → w.cell? ⟨b, off + k, none⟩ = some u) ∧ ∀ k, (h : k < rows.length) → ∃ u, us[k]? = some u ∧ BsAt w u rows[k] := by
  induction rows generalizing off with
  | nil => exact ⟨[], rfl, fun k u hu => by simp at hu, fun k hk => by simp at hk⟩
  | cons r rows ih =>
    obtain ⟨u0, hu0, hb0⟩ := h 0 (by simp)
    obtain ⟨us, hl, hc, hr⟩ := ih (off := off + 1) (fun k hk => by
      obtain ⟨u, hu, hb⟩ := h (k + 1) (by simpa using hk)
      exact ⟨u, by rw [show off + 1 + k = off + (k + 1) by omega]; exact hu, by simpa using hb⟩)
    refine ⟨u0 :: us, by simp [hl], fun k u hu => ?_, fun k hk => ?_⟩
    · cases k with
      | zero => simp at hu; subst hu; exact hu0
      | succ k => rw [show off + (k + 1) = off + 1 + k by omega]; exact hc k u (by simpa using hu)
    · cases k with
      | zero => exact ⟨u0, rfl, by simpa using hb0⟩
      | succ k => simpa using hr k (by simpa using hk)
theorem one_of_bs {w : World} {u : Value} {l : List Nat} (h : BsAt w u l) : u.oneCell' = true := by
  obtain ⟨ao, cap, rfl, _⟩ := h; rfl

/-- Values that read as rows. -/
def ReadAs (w : World) (us : List Value) (rows : List (List Nat)) : Prop := us.length = rows.length ∧ ∀ k, (h : k < rows.length) → ∃ u, us[k]? = some u ∧ BsAt w u rows[k]
theorem ReadAs.append {w : World} {us vs : List Value} {a b : List (List Nat)} (h : ReadAs w us a) (k : ReadAs w vs b) : ReadAs w (us ++ vs) (a ++ b) := by
  refine ⟨by simp [h.1, k.1], fun i hi => ?_⟩
  by_cases hl : i < a.length
  · obtain ⟨u, hu, hb⟩ := h.2 i hl
    refine ⟨u, by rw [List.getElem?_append_left (by rw [h.1]; exact hl)]; exact hu, by rw [List.getElem_append_left hl]; exact hb⟩
  · obtain ⟨u, hu, hb⟩ := k.2 (i - a.length) (by simp at hi; omega)
    refine ⟨u, by rw [List.getElem?_append_right (by rw [h.1]; omega), h.1]; exact hu, by rw [List.getElem_append_right (by omega)]; exact hb⟩
theorem ReadAs.rows {w w' : World} {base : Nat} {v : Value} {us : List Value} {rows : List (List Nat)} (h : ReadAs w us rows) (ho : w'.ownsRow base 93 1 v rows.length us) (hb : Below w.heap.size w w') : RowsAt w' v rows := by
  obtain ⟨hl, h2⟩ := ho
  rcases h2 with ⟨rfl, h0⟩ | ⟨g, cap, cur, rfl, hg, hh, _, _, _, ht⟩
  · exact ⟨none, 0, by rw [h0], .inl (List.eq_nil_of_length_eq_zero h0)⟩
  · refine ⟨_, cap, rfl, .inr ⟨g, 0, rfl, lt_of_block hh, fun k hk => ?_⟩⟩
    obtain ⟨u, hu, hbs⟩ := h.2 k hk
    refine ⟨u, ?_, hbs.to hb⟩
    rw [Nat.zero_add, cell_of_row w' g k cur 93 (0, 0) hh]
    rw [Nat.mul_one] at ht
    rw [← ht, List.getElem?_take_of_lt hk] at hu
    simpa using hu

set_option maxRecDepth 100000 in
set_option maxHeartbeats 1000000 in
theorem concat_any (R : List (List (List Nat))) (v : Value) (w : World) (hv : RowssAt w v R) (hR : R.length ≤ 100) (hF : R.flatten.length ≤ 200) :
    Calls Tryd.prog 76 #[v] w fun e w' => ∃ v', e = .returned v' ∧ RowsAt w' v' R.flatten ∧ Below w.heap.size w w' := by
  obtain ⟨b, cap, rfl, hb, hc⟩ := hv
  have HC : Hid (∀ k, (h : k < R.length) → ∃ u, w.cell? ⟨b, k, none⟩ = some u ∧ RowsAt w u R[k]) := hc
  have HF : Hid (R.flatten.length ≤ 200) := hF
  obtain ⟨i0, hi, hz0, hz1, hz2⟩ := info_parts infoRow8
  have HI : Hid (Tryd.prog.info? 93 = some i0 ∧ i0.zero = some (.slice none 0 0) ∧ i0.size = 1 ∧ i0.bytes = 24) := ⟨hi, hz0, hz1, hz2⟩
  clear hc hF hi hz0 hz1 hz2
  go_enter Tryd.func76, Tryd.ntmps76
  go_wp2
  go_loop [3, 11] (fun t i => ∃ k n : Nat, k ≤ R.length ∧ i = .int .i64 k ∧ t = .int .i64 n ∧ n = (R.take k).flatten.length) (fun _ i => R.length - (intOf i).toNat)
  case atStart => exact ⟨0, 0, Nat.zero_le _, rfl, rfl, by simp⟩
  case round =>
    obtain ⟨k, n, hk, rfl, rfl, hn⟩ := hrel
    have hn2 : n ≤ 200 := by rw [hn]; exact Nat.le_trans (flat_le R k) HF.out
    have HN : Hid (n = (R.take k).flatten.length) := hn
    clear hn
    by_cases hlt : k < R.length
    · obtain ⟨u, hu, ao, c, rfl, hr⟩ := HC.out k hlt
      have hm : n + R[k].length ≤ 200 := by
        have := flat_le R (k + 1)
        rw [flat_next R k hlt, List.length_append, ← HN.out] at this
        exact Nat.le_trans this HF.out
      have HM : Hid (n + R[k].length = (R.take (k + 1)).flatten.length) := by
        show _ = _
        rw [flat_next R k hlt, List.length_append, ← HN.out]
      clear hr
      generalize R[k].length = m at hu hm HM
      go_wp2
      go_round
      case rel => exact ⟨k + 1, n + m, by omega, by go_num, by go_num, HM.out⟩
      case measure => simp [intOf]; omega
    · obtain rfl : k = R.length := by omega
      go_wp2_with fail
      refine (grow_any n hn2 w).mono ?_
      rintro e w1 ⟨v1, rfl, hown1, hb1⟩
      go_wp2
      go_loopw [6, 27] (fun t i wr => ∃ k us, k ≤ R.length ∧ i = .int .i64 (k : Nat) ∧ wr.ownsRow w.heap.size 93 1 t us.length us ∧ ReadAs w us (R.take k).flatten ∧ Below w.heap.size w wr) (fun _ i _ => R.length - (intOf i).toNat)
      case atStart => exact ⟨0, [], Nat.zero_le _, rfl, hown1, ⟨by simp, fun k hk => by simp at hk⟩, hb1⟩
      case round =>
        clear hown1 hb1
        obtain ⟨k, us, hk, rfl, hown, hread, hbel⟩ := hrel
        by_cases hlt : k < R.length
        · obtain ⟨u, hu, ao, c, rfl, hr⟩ := HC.out k hlt
          rw [← hbel.cell (p := ⟨b, k, none⟩) hb] at hu
          have HOWN : Hid (wr.ownsRow w.heap.size 93 1 u6 us.length us) := hown
          have hul : us.length + R[k].length ≤ 200 := by
            have := flat_le R (k + 1)
            rw [flat_next R k hlt, List.length_append, ← hread.1] at this
            exact Nat.le_trans this HF.out
          have HREAD : Hid (ReadAs w us (R.take k).flatten) := hread
          have HFN : Hid ((R.take (k + 1)).flatten = (R.take k).flatten ++ R[k]) := flat_next R k hlt
          clear hown hread
          by_cases h0 : R[k] = []
          · have hrun := run_append_empty (P := Tryd.prog) wr w.heap.size 91 91 93 i0 1 Tryd.underlying91 HI.out.1 u6 us.length us HOWN.out ao c
            rw [h0, List.length_nil] at hu
            have HFN2 : Hid ((R.take (k + 1)).flatten = (R.take k).flatten) := by rw [HFN.out, h0]; exact List.append_nil _
            clear hr HFN h0 hul
            go_wp2_with (at_builtin; refine Lib.wpList_append_run _ rfl _ _ _ _ rfl _ _ rfl rfl _ _ hrun ?_)
            go_roundw
            case rel => exact ⟨k + 1, us, by omega, by go_num, HOWN.out, by rw [HFN2.out]; exact HREAD.out, hbel⟩
            case measure => simp [intOf]; omega
          · obtain ⟨rb, off, rfl, hrb, hrc⟩ : ∃ b off, ao = some ⟨b, off, none⟩ ∧ b < w.heap.size ∧ ∀ j, (h : j < R[k].length) → ∃ u, w.cell? ⟨b, off + j, none⟩ = some u ∧ BsAt w u R[k][j] := by
              rcases hr with h | h
              · exact absurd h h0
              · exact h
            obtain ⟨vs, hvl, hvc, hvr⟩ := rows_cells hrc
            have HNEW : Hid (∀ j u, vs[j]? = some u → wr.cell? ((⟨rb, off, none⟩ : Addr).add j) = some u) := fun j u hu => by
              rw [Addr.add_lit, hbel.cell (p := ⟨rb, off + j, none⟩) hrb]; exact hvc j u hu
            have HONE : Hid (∀ u ∈ vs, u.oneCell' = true) := fun u hu => by
              obtain ⟨j, hj, e⟩ := List.mem_iff_getElem.1 hu
              obtain ⟨u', hu', hb'⟩ := hvr j (by omega)
              rw [List.getElem?_eq_getElem hj, Option.some.injEq] at hu'
              rw [← e, hu']; exact one_of_bs hb'
            have HVR : Hid (ReadAs w vs R[k]) := ⟨hvl, hvr⟩
            have HVL : Hid (vs.length = R[k].length * 1) := by rw [Nat.mul_one]; exact hvl
            clear hr hrc hvl hvc hvr h0
            generalize R[k] = rk at hu hul HFN HVR HVL
            have hsz := hbel.size
            go_wp2_with ((at_builtin; refine wpList_append_own _ rfl _ _ 91 rfl w.heap.size 93 i0 (.slice none 0 0) 1 24 Tryd.underlying91 HI.out.1 HI.out.2.1 HI.out.2.2.1 HI.out.2.2.2 rfl (by decide) u6 us.length us rfl HOWN.out ⟨rb, off, none⟩ rk.length c vs rfl HVL.out HNEW.out HONE.out (by unfold maxLen; omega) (by omega) hsz ?_); intro v' w2 hown2 hg2 _)
            have hb2 := below_grown hbel HOWN.out hg2 hsz (Nat.le_refl _)
            have HO2 : Hid (w2.ownsRow w.heap.size 93 1 v' (us ++ vs).length (us ++ vs)) := by
              rw [List.length_append, HVR.out.1]; exact hown2
            clear hown2 hg2
            go_wp2
            go_roundw
            case rel => exact ⟨k + 1, us ++ vs, by omega, by go_num, HO2.out, by rw [HFN.out]; exact HREAD.out.append HVR.out, hb2⟩
            case measure => simp [intOf]; omega
        · obtain rfl : k = R.length := by omega
          rw [List.take_length] at hread
          have HOWN : Hid (wr.ownsRow w.heap.size 93 1 u6 us.length us) := hown
          have HREAD : Hid (ReadAs w us R.flatten) := hread
          clear hown hread
          go_wp2
          go_ret
          refine ⟨_, rfl, ?_, hbel⟩
          have h1 := HOWN.out
          have h2 := HREAD.out
          rw [h2.1] at h1
          exact h2.rows h1 hbel
end Go.Proofs.YtlnpppdffhibjaaDoor.Parts

namespace Go.Proofs.YtlnpppdffhibjaaDoor.Top
open Go.RowKit Mem FieldWalks Tab ByTab Parts
open Gf (Bytes)

/-- What Sums is asked: in each of the three ways the sums. -/
def SumsOk : Prop := ∀ (x : Nat) (rows ps : List (List Nat)) (L : Nat) (rv pv : Value) (w : World), x ≤ 2 → Table w → RowsAt w rv rows → RowsC w pv ps → Fit rows ps L →
  Calls Tryd.prog 75 #[.int .i64 x, rv, pv] w fun e w' => ∃ v, e = .returned v ∧ RowsC w' v (sums rows ps L) ∧ Below w.heap.size w w'

/-- All pieces of a text, as strings. -/
def pieces (d s : Nat) (str : ByteArray) : List ByteArray :=
  texts (cuts (nums str) d ((str.size + d - 1) / d)) (sums (facs d s) (cuts (nums str) d ((str.size + d - 1) / d)) ((str.size + d - 1) / d))
theorem pieces_length (d s : Nat) (str : ByteArray) : (pieces d s str).length = d + s := by simp [pieces, texts, cuts, sums, facs]
theorem fit (d s : Nat) (str : ByteArray) (hd : 1 ≤ d) (hd2 : d ≤ 10) (hs : s ≤ 6) (hn : str.size ≤ 400) : Fit (facs d s) (cuts (nums str) d ((str.size + d - 1) / d)) ((str.size + d - 1) / d) := by
  have hL := ceil_le str.size d hd
  refine ⟨by simp [cuts]; omega, by simp [cuts]; omega, by simp [facs]; omega, fun j hj => by simp [cuts, cutAt], fun i hi => by simp [cuts, facs, facRow], fun i hi => ?_, fun j hj => Ref.cuts_bytes _ _ _ _ (nums_bytes _) _, by omega⟩
  simp only [facs, List.length_map, List.length_range] at hi
  simp only [facs, List.getElem_map, List.getElem_range]
  exact Ref.facRow_bytes _ _ (by omega)

theorem infoRows8 : (Tryd.prog.info? 91).map (fun i => (i.zero, i.size, i.bytes)) = some (some (.slice none 0 0), 1, 24) := by kernel_rfl
set_option maxRecDepth 100000 in
set_option maxHeartbeats 1000000 in
theorem whole_any (hS : SumsOk) (d s x : Nat) (ps : List (List Nat)) (L : Nat) (cv : Value) (hl : ps.length = d) (hd2 : d ≤ 10) (hs : s ≤ 6) (hx : x ≤ 2) (hfit : Fit (facs d s) ps L) (w : World) (ht : Table w) (hcut : RowsC w cv ps) :
    Calls Tryd.prog 58 #[.int .i64 s, .int .i64 x, cv] w fun e w' =>
      ∃ b, w.heap.size ≤ b ∧ e = .returned (.slice (some ⟨b, 0, none⟩) (d + s) (d + s)) ∧ Blk w' b 9 (strV (texts ps (sums (facs d s) ps L))) ∧ Below w.heap.size w w' := by
  have HFIT : Hid (Fit (facs d s) ps L) := hfit
  have HCUT : Hid (RowsC w cv ps) := hcut
  obtain ⟨ao, ex, rfl, _⟩ := hcut
  rw [hl] at HCUT ⊢
  generalize d + ex = c at HCUT ⊢
  have HL : Hid (ps.length = d) := hl
  clear hfit hl
  go_enter Tryd.func58, Tryd.ntmps58
  go_wp2_with fail
  refine (factors_any d s (by omega) (by omega) _ ht).mono ?_
  rintro e w2 ⟨fv, rfl, hfac, hb2⟩
  have hcut2 := HCUT.out.to hb2
  go_wp2_with fail
  refine (hS x _ _ _ fv (.slice ao d c) _ hx (table_to ht hb2) hfac hcut2 HFIT.out).mono ?_
  rintro e w3 ⟨sv, rfl, hsum, hb3⟩
  have hb13 := hb2.trans (hb3.mono hb2.size)
  have HCUT3 : Hid (RowsAt w3 (.slice ao d c) ps) := (hcut2.to hb3).rows
  have HSUM : Hid (RowsAt w3 sv (sums (facs d s) ps L)) := hsum.rows
  obtain ⟨sao, sc, hsv, _⟩ := hsum.rows
  subst hsv
  have hsl : (sums (facs d s) ps L).length = s := by simp [sums, facs]
  rw [hsl] at HSUM
  rw [hsl]
  have HSL : Hid ((sums (facs d s) ps L).length = s) := hsl
  obtain ⟨i1, hi, hz0, hz1, hz2⟩ := info_parts infoRows8
  clear hfac hcut2 hb2 hb3 hsl hsum
  have hb34 : Below w3.heap.size w3 (w3.alloc (.cells #[.slice ao d c, .slice sao s sc] 91)) := (Below.refl _ _).alloc (Nat.le_refl _) _
  have HBN : Hid (Blk (w3.alloc (.cells #[.slice ao d c, .slice sao s sc] 91)) w3.heap.size 91 [.slice ao d c, .slice sao s sc]) := Blk.new w3 #[.slice ao d c, .slice sao s sc] 91
  have HR : Hid (RowssAt (w3.alloc (.cells #[.slice ao d c, .slice sao s sc] 91)) (.slice (some ⟨w3.heap.size, 0, none⟩) 2 2) [ps, sums (facs d s) ps L]) := by
    refine ⟨_, _, rfl, HBN.out.lt, fun k hk => ?_⟩
    match k, hk with
    | 0, _ => exact ⟨_, HBN.out.cell_some rfl, HCUT3.out.to hb34⟩
    | 1, _ => exact ⟨_, HBN.out.cell_some rfl, HSUM.out.to hb34⟩
  have HB34 : Hid (Below w.heap.size w (w3.alloc (.cells #[.slice ao d c, .slice sao s sc] 91))) := hb13.trans (hb34.mono hb13.size)
  have hfl : [ps, sums (facs d s) ps L].flatten.length = d + s := by simp [HL.out, HSL.out]
  have HFL : Hid ([ps, sums (facs d s) ps L].flatten.length = d + s) := hfl
  clear hb34 hfl
  go_wp2_with fail
  refine (concat_any _ _ _ HR.out (by simp) (by rw [HFL.out]; omega)).mono ?_
  rintro e w5 ⟨v5, rfl, hrows, hb5⟩
  have hb15 := HB34.out.trans (hb5.mono HB34.out.size)
  have HROWS : Hid (RowsAt w5 v5 [ps, sums (facs d s) ps L].flatten) := hrows
  clear hrows hb5 hb13
  go_wp2_with fail
  refine (asTexts_any _ v5 _ HROWS.out (by rw [HFL.out]; omega)).mono ?_
  rintro e w6 ⟨b, hb, rfl, hblk, hb6⟩
  rw [HFL.out]
  have HBLK : Hid (Blk w6 b 9 (strV (texts ps (sums (facs d s) ps L)))) := by
    have : [ps, sums (facs d s) ps L].flatten = ps ++ sums (facs d s) ps L := by simp
    rw [this] at hblk; exact hblk
  clear hblk
  go_wp2
  go_ret
  exact ⟨b, Nat.le_trans hb15.size hb, rfl, HBLK.out, hb15.trans (hb6.mono hb15.size)⟩

set_option maxRecDepth 100000 in
set_option maxHeartbeats 1000000 in
theorem pSpread_any (hS : SumsOk) (d s x : Nat) (str : ByteArray) (hd : 1 ≤ d) (hd2 : d ≤ 10) (hs : s ≤ 6) (hx : x ≤ 2) (hn : str.size ≤ 400) (w : World) (ht : Table w) :
    Calls Tryd.prog 41 #[.int .i64 d, .int .i64 s, .int .i64 x, .string str] w fun e w' =>
      ∃ b, w.heap.size ≤ b ∧ e = .returned (.slice (some ⟨b, 0, none⟩) (d + s) (d + s)) ∧ Blk w' b 9 (strV (pieces d s str)) ∧ Below w.heap.size w w' := by
  have hfit := fit d s str hd hd2 hs hn
  have HFIT : Hid (Fit (facs d s) (cuts (nums str) d ((str.size + d - 1) / d)) ((str.size + d - 1) / d)) := hfit
  clear hfit
  go_enter Tryd.func41, Tryd.ntmps41
  go_wp2_with fail
  refine (cut_any d str hd (by omega) (by omega) _ rfl _).mono ?_
  rintro e w1 ⟨cv, rfl, hcut, hb1⟩
  go_wp2_with fail
  refine (whole_any hS d s x (cuts (nums str) d ((str.size + d - 1) / d)) ((str.size + d - 1) / d) cv (by simp [cuts]) hd2 hs hx HFIT.out _ (table_to ht hb1) hcut).mono ?_
  rintro e w4 ⟨b, hb, rfl, hblk, hb4⟩
  have HBLK : Hid (Blk w4 b 9 (strV (pieces d s str))) := hblk
  clear hblk hcut
  go_wp2
  go_ret
  exact ⟨b, Nat.le_trans hb1.size hb, rfl, HBLK.out, hb1.trans (hb4.mono hb1.size)⟩

/-- What Spread answers with an error. -/
def spreadE (d s x : Int) (n : Nat) : Int := if okCounts d s = true then (if okWay x = true then (if 400 < n then 5 else 0) else 4) else 3

set_option maxRecDepth 100000 in
set_option maxHeartbeats 1000000 in
theorem wSpread_ok (hS : SumsOk) (d s x : Nat) (str : ByteArray) (hd : 1 ≤ d) (hd2 : d ≤ 10) (hs : s ≤ 6) (hx : x ≤ 2) (hn : str.size ≤ 400) (w : World) (ht : Table w) :
    Calls Tryd.prog 19 #[.int .i64 d, .int .i64 s, .int .i64 x, .string str] w fun e w' =>
      ∃ b, w.heap.size ≤ b ∧ e = .returned (.tuple #[.slice (some ⟨b, 0, none⟩) (d + s) (d + s), .int .i64 0]) ∧ Blk w' b 9 (strV (pieces d s str)) ∧ Below w.heap.size w w' := by
  have hok : okCounts d s = true := okCounts_yes _ _ (by omega)
  have how : okWay x = true := okWay_yes _ (by omega)
  go_enter Tryd.func19, Tryd.ntmps19
  go_wp2_with fail
  refine (areCounts_any _ _ _).mono ?_
  rintro e w' ⟨rfl, rfl⟩
  go_wp2_with fail
  refine (isWay_any _ _).mono ?_
  rintro e w' ⟨rfl, rfl⟩
  go_wp2_with fail
  refine (pSpread_any hS d s x str hd hd2 hs hx hn _ ht).mono ?_
  rintro e w1 ⟨b, hb, rfl, hblk, hb1⟩
  go_wp2
  go_ret2
  exact ⟨b, hb, rfl, hblk, hb1⟩
set_option maxRecDepth 100000 in
theorem wSpread_no (d s x : Int) (str : ByteArray) (hlen : str.size ≤ maxLen) (hE : spreadE d s x str.size ≠ 0) (w : World) :
    Calls Tryd.prog 19 #[.int .i64 d, .int .i64 s, .int .i64 x, .string str] w fun e w' =>
      e = .returned (.tuple #[.slice none 0 0, .int .i64 (spreadE d s x str.size)]) ∧ w' = w := by
  unfold maxLen at hlen
  cases hok : okCounts d s
  · rw [show spreadE d s x str.size = 3 by simp [spreadE, hok]]
    clear hE
    go_enter Tryd.func19, Tryd.ntmps19
    go_wp2_with fail
    refine (areCounts_any _ _ _).mono ?_
    rintro e w' ⟨rfl, rfl⟩
    go_wp2
    go_ret2
    exact ⟨rfl, rfl⟩
  · cases how : okWay x
    · rw [show spreadE d s x str.size = 4 by simp [spreadE, hok, how]]
      clear hE
      go_enter Tryd.func19, Tryd.ntmps19
      go_wp2_with fail
      refine (areCounts_any _ _ _).mono ?_
      rintro e w' ⟨rfl, rfl⟩
      go_wp2_with fail
      refine (isWay_any _ _).mono ?_
      rintro e w' ⟨rfl, rfl⟩
      go_wp2
      go_ret2
      exact ⟨rfl, rfl⟩
    · have hbig : 400 < str.size := by
        by_cases h : 400 < str.size
        · exact h
        · exact absurd (by simp [spreadE, hok, how, h]) hE
      rw [show spreadE d s x str.size = 5 by simp [spreadE, hok, how, hbig]]
      clear hE
      go_enter Tryd.func19, Tryd.ntmps19
      go_wp2_with fail
      refine (areCounts_any _ _ _).mono ?_
      rintro e w' ⟨rfl, rfl⟩
      go_wp2_with fail
      refine (isWay_any _ _).mono ?_
      rintro e w' ⟨rfl, rfl⟩
      go_wp2
      go_ret2
      exact ⟨rfl, rfl⟩
set_option maxRecDepth 100000 in
theorem rSpread_no (d s x : Int) (str : ByteArray) (hlen : str.size ≤ maxLen) (hE : spreadE d s x str.size ≠ 0) (w : World) :
    Calls Tryd.prog 43 #[.int .i64 d, .int .i64 s, .int .i64 x, .string str] w fun e w' =>
      e = .returned (.tuple #[.slice none 0 0, .int .i64 (spreadE d s x str.size)]) ∧ w' = w := by
  unfold maxLen at hlen
  cases hok : okCounts d s
  · rw [show spreadE d s x str.size = 3 by simp [spreadE, hok]]
    clear hE
    go_enter Tryd.func43, Tryd.ntmps43
    go_wp2_with fail
    refine (rCounts_any _ _ _).mono ?_
    rintro e w' ⟨rfl, rfl⟩
    go_wp2
    go_ret2
    exact ⟨rfl, rfl⟩
  · cases how : okWay x
    · rw [show spreadE d s x str.size = 4 by simp [spreadE, hok, how]]
      clear hE
      go_enter Tryd.func43, Tryd.ntmps43
      go_wp2_with fail
      refine (rCounts_any _ _ _).mono ?_
      rintro e w' ⟨rfl, rfl⟩
      go_wp2_with fail
      refine (rWay_any _ _).mono ?_
      rintro e w' ⟨rfl, rfl⟩
      go_wp2
      go_ret2
      exact ⟨rfl, rfl⟩
    · have hbig : 400 < str.size := by
        by_cases h : 400 < str.size
        · exact h
        · exact absurd (by simp [spreadE, hok, how, h]) hE
      rw [show spreadE d s x str.size = 5 by simp [spreadE, hok, how, hbig]]
      clear hE
      go_enter Tryd.func43, Tryd.ntmps43
      go_wp2_with fail
      refine (rCounts_any _ _ _).mono ?_
      rintro e w' ⟨rfl, rfl⟩
      go_wp2_with fail
      refine (rWay_any _ _).mono ?_
      rintro e w' ⟨rfl, rfl⟩
      go_wp2
      go_ret2
      exact ⟨rfl, rfl⟩
end Go.Proofs.YtlnpppdffhibjaaDoor.Top

/- What a writing makes of pieces, byte by byte. Nothing of the program. -/
namespace Go.Proofs.YtlnpppdffhibjaaDoor.Gf

/-- The data byte t of piece j, when the first k bytes of the writing stand. -/
def newD (L at_ : Nat) (text : List Nat) (k : Nat) (old : Nat → Nat → Nat) (j t : Nat) : Nat := if at_ ≤ j * L + t ∧ j * L + t < at_ + k then text.getD (j * L + t - at_) 0 else old j t
/-- The byte t of piece p. -/
def newP (d L at_ : Nat) (text : List Nat) (k : Nat) (old : Nat → Nat → Nat) (p t : Nat) : Nat :=
  if p < d then newD L at_ text k old p t else old p t ^^^ xs (fun j => times (inv (p ^^^ j)) (old j t ^^^ newD L at_ text k old j t)) d
theorem place_iff {L at_ k j t : Nat} (ht : t < L) : j * L + t = at_ + k ↔ j = (at_ + k) / L ∧ t = (at_ + k) % L := by
  constructor
  · intro h
    rw [← h]
    constructor
    · rw [Nat.add_comm, Nat.add_mul_div_right _ _ (by omega), Nat.div_eq_of_lt ht]; omega
    · rw [Nat.add_comm, Nat.add_mul_mod_self_right, Nat.mod_eq_of_lt ht]
  · rintro ⟨rfl, rfl⟩
    rw [Nat.mul_comm]; exact Nat.div_add_mod _ _
theorem newD_zero (L at_ : Nat) (text : List Nat) (old : Nat → Nat → Nat) (j t : Nat) : newD L at_ text 0 old j t = old j t := by unfold newD; rw [if_neg (by omega)]
theorem newP_zero (d L at_ : Nat) (text : List Nat) (old : Nat → Nat → Nat) (p t : Nat) : newP d L at_ text 0 old p t = old p t := by
  unfold newP
  rw [newD_zero]
  split
  · rfl
  · rw [xs_zero, Nat.xor_zero]
    intro j _
    rw [newD_zero, Nat.xor_self]
    have : ∀ a, times a 0 = 0 := fun a => by unfold times; simp [timesTo, dbl]
    exact this _
theorem newD_next {L at_ k j t : Nat} {text : List Nat} {old : Nat → Nat → Nat} (ht : t < L) : newD L at_ text (k + 1) old j t = if j = (at_ + k) / L ∧ t = (at_ + k) % L then text.getD k 0 else newD L at_ text k old j t := by
  unfold newD
  by_cases e : j * L + t = at_ + k
  · rw [if_pos ((place_iff ht).1 e), if_pos (by omega), show j * L + t - at_ = k by omega]
  · rw [if_neg (fun h => e ((place_iff ht).2 h))]
    by_cases h : at_ ≤ j * L + t ∧ j * L + t < at_ + k
    · rw [if_pos (by omega), if_pos h]
    · rw [if_neg (by omega), if_neg h]
theorem newD_here {L at_ k : Nat} {text : List Nat} {old : Nat → Nat → Nat} (hL : 0 < L) : newD L at_ text k old ((at_ + k) / L) ((at_ + k) % L) = old ((at_ + k) / L) ((at_ + k) % L) := by
  unfold newD
  have := (place_iff (L := L) (at_ := at_) (k := k) (j := (at_ + k) / L) (t := (at_ + k) % L) (Nat.mod_lt _ hL)).2 ⟨rfl, rfl⟩
  rw [if_neg (by omega)]
/-- A data piece: one byte is written. -/
theorem newP_data {d L at_ k p t : Nat} {text : List Nat} {old : Nat → Nat → Nat} (ht : t < L) (hp : p < d) : newP d L at_ text (k + 1) old p t = if p = (at_ + k) / L ∧ t = (at_ + k) % L then text.getD k 0 else newP d L at_ text k old p t := by
  unfold newP
  rw [if_pos hp, if_pos hp, newD_next ht]
/-- A spare piece: what was added to the data byte, times the factor, is added. -/
theorem newP_spare {d L at_ k p t : Nat} {text : List Nat} {old : Nat → Nat → Nat} (ht : t < L) (hp : ¬ p < d) (hp2 : p < 256) (hd : d ≤ 256) (hj : (at_ + k) / L < d) :
    newP d L at_ text (k + 1) old p t = if t = (at_ + k) % L then newP d L at_ text k old p t ^^^ times (inv (p ^^^ ((at_ + k) / L))) (newP d L at_ text k old ((at_ + k) / L) t ^^^ text.getD k 0) else newP d L at_ text k old p t := by
  have e0 : newP d L at_ text k old ((at_ + k) / L) t = newD L at_ text k old ((at_ + k) / L) t := by unfold newP; rw [if_pos hj]
  rw [e0]
  unfold newP
  rw [if_neg hp, if_neg hp]
  by_cases e : t = (at_ + k) % L
  · rw [if_pos e]
    have hF : ∀ j, j < d → inv (p ^^^ j) < 256 := fun j hj => inv_lt _ (xor_lt hp2 (by omega))
    have key : xs (fun j => times (inv (p ^^^ j)) (old j t ^^^ newD L at_ text (k + 1) old j t)) d =
        xs (fun j => times (inv (p ^^^ j)) (old j t ^^^ newD L at_ text k old j t)) d ^^^ times (inv (p ^^^ ((at_ + k) / L))) (newD L at_ text k old ((at_ + k) / L) t ^^^ text.getD k 0) := by
      have e2 : xs (fun j => if j = (at_ + k) / L then times (inv (p ^^^ ((at_ + k) / L))) (newD L at_ text k old ((at_ + k) / L) t ^^^ text.getD k 0) else 0) d = times (inv (p ^^^ ((at_ + k) / L))) (newD L at_ text k old ((at_ + k) / L) t ^^^ text.getD k 0) := by
        rw [xs_one _ d _ hj fun j _ hne => by rw [if_neg hne]]; rw [if_pos rfl]
      rw [← e2, ← xs_xor]
      refine xs_congr fun j hjd => ?_
      rw [newD_next ht]
      by_cases e3 : j = (at_ + k) / L
      · rw [if_pos ⟨e3, e⟩, if_pos e3, ← e3, ← times_xor_r _ _ _ (hF j hjd)]
        congr 1
        rw [Nat.xor_assoc, xcl]
      · rw [if_neg (fun h => e3 h.1), if_neg e3, Nat.xor_zero]
    rw [key, Nat.xor_assoc]
  · rw [if_neg e]
    congr 1
    refine xs_congr fun j _ => ?_
    rw [newD_next ht, if_neg (fun h => e h.2)]
theorem newP_lt {d L at_ k p t : Nat} {text : List Nat} {old : Nat → Nat → Nat} (hb : Bytes text) (ho : ∀ p t, old p t < 256) (hp : p < 256) (hd : d ≤ 256) : newP d L at_ text k old p t < 256 := by
  have hD : ∀ j t, newD L at_ text k old j t < 256 := fun j t => by
    unfold newD; split
    · exact hb.getD _
    · exact ho j t
  unfold newP
  split
  · exact hD p t
  · exact xor_lt (ho p t) (xs_lt _ _ fun j hj => times_lt _ _ (inv_lt _ (xor_lt hp (by omega))))
end Go.Proofs.YtlnpppdffhibjaaDoor.Gf

namespace Go.Proofs.YtlnpppdffhibjaaDoor.Ref
open Go.RowKit Parts
/-- The old byte. -/
def oldOf (pieces : List ByteArray) (p t : Nat) : Nat := (nums (pieces.getD p ByteArray.empty)).getD t 0
end Go.Proofs.YtlnpppdffhibjaaDoor.Ref

/- What follows (P12), in lists alone: pieces of a text fit it, and what Change makes of them are the changed text's. -/
namespace Go.Proofs.YtlnpppdffhibjaaDoor.Top
open Go.RowKit Mem FieldWalks Tab ByTab Parts Ref
open Gf (Bytes sumTo rowOf dot colOf Fits xs newP newD times inv)
open Plans (rowF)

theorem mkS_nums (s : ByteArray) : mkS (nums s) = s := by
  apply ByteArray.ext
  simp only [mkS, nums, List.map_map]
  have : (UInt8.ofNat ∘ UInt8.toNat) = id := by funext x; simp
  rw [this, List.map_id]
theorem nums_mkS (l : List Nat) (h : Bytes l) : nums (mkS l) = l := by
  simp only [mkS, nums, List.map_map]
  conv => rhs; rw [← List.map_id l]
  refine List.map_congr_left fun x hx => ?_
  have := h x hx
  simp [UInt8.toNat_ofNat']; omega
theorem cuts_length (l : List Nat) (d L : Nat) : (cuts l d L).length = d := by simp [cuts]
theorem cuts_size (l : List Nat) (d L j : Nat) (h : j < (cuts l d L).length) : (cuts l d L)[j].length = L := by simp [cuts, cutAt]
theorem colOf_cuts (l : List Nat) (d L t k : Nat) (ht : t < L) (hk : k < d) : colOf (cuts l d L) t k = l.getD (k * L + t) 0 := by
  unfold colOf cuts cutAt
  simp [hk, ht]
/-- The byte t of piece p of these data pieces. -/
theorem piece_dot (d s L : Nat) (ps : List (List Nat)) (hlen : ps.length = d) (hl : ∀ j, (h : j < ps.length) → ps[j].length = L) (hb : ∀ j, (h : j < ps.length) → Bytes ps[j]) (hds : d + s ≤ 256) (p : Nat) (hp : p < d + s) (t : Nat) (ht : t < L) :
    (nums ((texts ps (sums (facs d s) ps L)).getD p ByteArray.empty)).getD t 0 = dot d (rowOf d p) (colOf ps t) := by
  have hx := Gf.colOf_lt hb t
  by_cases hpd : p < d
  · have hpl : p < ps.length := by omega
    rw [Gf.dot_unit d p hpd _ fun k _ => hx k]
    have e : (texts ps (sums (facs d s) ps L)).getD p ByteArray.empty = mkS ps[p] := by
      unfold texts
      rw [List.getD_eq_getElem?_getD, List.getElem?_map, List.getElem?_append_left hpl, List.getElem?_eq_getElem hpl]; rfl
    rw [e, nums_mkS _ (hb p hpl)]
    simp [colOf, hpl]
  · obtain ⟨i, rfl⟩ : ∃ i, p = d + i := ⟨p - d, by omega⟩
    have hi : i < s := by omega
    have e : (texts ps (sums (facs d s) ps L)).getD (d + i) ByteArray.empty = mkS (sumTo (facRow d i) ps L ps.length) := by
      unfold texts
      rw [List.getD_eq_getElem?_getD, List.getElem?_map, List.getElem?_append_right (by omega), hlen]
      simp [sums, facs, hi, hlen]
    rw [e, nums_mkS _ (Gf.sumTo_bytes _ ps L (facRow_bytes d i (by omega)) _), Gf.sumTo_dot _ ps L t hl ht _ (Nat.le_refl _), hlen]
    refine Gf.xs_congr fun k hk => ?_
    rw [show rowOf d (d + i) k = inv ((d + i) ^^^ k) by unfold rowOf; rw [if_neg (by omega)]]
    simp [facRow, hk]
/-- Pieces of a text, some of them spoilt: the text's data pieces fit those that are left. -/
theorem pieces_fit (d s : Nat) (str : ByteArray) (lost : List Int) (spoilt : List ByteArray) (hds : d + s ≤ 256) (hsp : ∀ p, p < d + s → (p : Int) ∉ lost → spoilt.getD p ByteArray.empty = (pieces d s str).getD p ByteArray.empty) :
    Fits d ((str.size + d - 1) / d) (Gf.chosen (Gf.left_ lost) d s) (fun p => nums (spoilt.getD p ByteArray.empty)) (cuts (nums str) d ((str.size + d - 1) / d)) := by
  have hb : ∀ j, (h : j < (cuts (nums str) d ((str.size + d - 1) / d)).length) → Bytes (cuts (nums str) d ((str.size + d - 1) / d))[j] := fun j h => cuts_bytes _ _ _ _ (nums_bytes _) _
  refine ⟨cuts_length _ _ _, cuts_size _ _ _, hb, fun p hp t ht => ?_⟩
  have h1 := Gf.chosen_lt _ _ _ _ hp
  rw [hsp p h1.1 (by simpa [Gf.left_] using h1.2)]
  exact (piece_dot d s _ _ (cuts_length _ _ _) (cuts_size _ _ _) hb hds p h1.1 t ht).symm
theorem flatten_cuts (l : List Nat) (L : Nat) : ∀ d, (cuts l d L).flatten = (List.range (d * L)).map fun i => l.getD i 0 := by
  intro d
  induction d with
  | zero => simp [cuts]
  | succ d ih =>
    have e : cuts l (d + 1) L = cuts l d L ++ [cutAt l L d] := by simp [cuts, List.range_succ]
    rw [e, List.flatten_append, ih, Nat.add_mul, Nat.one_mul, List.range_add, List.map_append]
    simp [cutAt]
theorem flatten_take (l : List Nat) (d L n : Nat) (hn : l.length = n) (h : n ≤ d * L) : (cuts l d L).flatten.take n = l := by
  rw [flatten_cuts]
  apply List.ext_getElem
  · simp; omega
  · intro i h1 h2
    simp [h2]
theorem pieces_sizes (d s : Nat) (str : ByteArray) (p : Nat) (hp : p < (pieces d s str).length) : (pieces d s str)[p].size = (str.size + d - 1) / d := by
  rw [pieces_length] at hp
  have key : ∀ (ps : List (List Nat)) (L : Nat) (hl : ∀ j, (h : j < ps.length) → ps[j].length = L), ps.length = d → ∀ q, (h : q < (texts ps (sums (facs d s) ps L)).length) → ((texts ps (sums (facs d s) ps L))[q]).size = L := by
    intro ps L hl hlen q h
    have hq : q < d + s := by simpa [texts, sums, facs, hlen] using h
    have h' : q < (ps ++ sums (facs d s) ps L).length := by simpa [texts] using h
    have e0 : (texts ps (sums (facs d s) ps L))[q] = mkS (ps ++ sums (facs d s) ps L)[q] := List.getElem_map _
    rw [e0, mkS_size]
    by_cases e : q < ps.length
    · rw [List.getElem_append_left e]; exact hl q e
    · rw [List.getElem_append_right (by omega)]
      simp only [sums, List.getElem_map]
      exact Gf.sumTo_length _ ps L hl _ (Nat.le_refl _)
  exact key _ _ (cuts_size _ _ _) (cuts_length _ _ _) p _

/-- A text, written over. -/
def overL (l : List Nat) (at_ : Nat) (t : List Nat) : List Nat := l.take at_ ++ t ++ l.drop (at_ + t.length)
theorem overL_length (l : List Nat) (at_ : Nat) (t : List Nat) (h : at_ + t.length ≤ l.length) : (overL l at_ t).length = l.length := by simp [overL]; omega
theorem overL_getD (l : List Nat) (at_ : Nat) (t : List Nat) (h : at_ + t.length ≤ l.length) (i : Nat) : (overL l at_ t).getD i 0 = if at_ ≤ i ∧ i < at_ + t.length then t.getD (i - at_) 0 else l.getD i 0 := by
  unfold overL
  simp only [List.getD_eq_getElem?_getD, List.append_assoc]
  by_cases h1 : i < at_
  · rw [List.getElem?_append_left (by simp; omega), if_neg (by omega), List.getElem?_take_of_lt h1]
  · rw [List.getElem?_append_right (by simp; omega)]
    have e : (l.take at_).length = at_ := by simp; omega
    rw [e]
    by_cases h2 : i < at_ + t.length
    · rw [List.getElem?_append_left (by omega), if_pos (by omega)]
    · rw [List.getElem?_append_right (by omega), if_neg (by omega), List.getElem?_drop, show at_ + t.length + (i - at_ - t.length) = i by omega]
theorem newD_cuts (d L at_ : Nat) (str str2 t : ByteArray) (old : Nat → Nat → Nat) (h : at_ + t.size ≤ str.size) (h2 : nums str2 = overL (nums str) at_ (nums t)) (j : Nat) (hj : j < d) (u : Nat) (hu : u < L) (ho : old j u = colOf (cuts (nums str) d L) u j) :
    newD L at_ (nums t) t.size old j u = colOf (cuts (nums str2) d L) u j := by
  rw [colOf_cuts _ _ _ _ _ hu hj] at ho ⊢
  rw [h2, overL_getD _ _ _ (by rw [nums_length, nums_length]; exact h), nums_length]
  unfold newD
  rw [ho]
/-- ████ What Change makes of a text's pieces are the changed text's. ████ -/
theorem change_pieces (d s at_ : Nat) (str str2 t : ByteArray) (hds : d + s ≤ 256) (h : at_ + t.size ≤ str.size) (h2 : nums str2 = overL (nums str) at_ (nums t)) :
    ((List.range (d + s)).map fun p => mkS (rowF ((str.size + d - 1) / d) (newP d ((str.size + d - 1) / d) at_ (nums t) t.size (oldOf (pieces d s str)) p))) = pieces d s str2 := by
  have hsz : str2.size = str.size := by rw [← nums_length, h2, overL_length _ _ _ (by rw [nums_length, nums_length]; exact h), nums_length]
  obtain ⟨L, hL⟩ : ∃ L, L = (str.size + d - 1) / d := ⟨_, rfl⟩
  have hL2 : (str2.size + d - 1) / d = L := by rw [hsz, hL]
  have hb : ∀ (l : List Nat), Bytes l → ∀ j, (h : j < (cuts l d L).length) → Bytes (cuts l d L)[j] := fun l hl j h => cuts_bytes _ _ _ _ hl _
  have dot1 : ∀ p, p < d + s → ∀ u, u < L → oldOf (pieces d s str) p u = dot d (rowOf d p) (colOf (cuts (nums str) d L) u) := fun p hp u hu => by
    unfold oldOf pieces
    rw [← hL]
    exact piece_dot d s L _ (cuts_length _ _ _) (cuts_size _ _ _) (hb _ (nums_bytes _)) hds p hp u hu
  have dot2 : ∀ p, p < d + s → ∀ u, u < L → (nums ((pieces d s str2).getD p ByteArray.empty)).getD u 0 = dot d (rowOf d p) (colOf (cuts (nums str2) d L) u) := fun p hp u hu => by
    unfold pieces
    rw [hL2]
    exact piece_dot d s L _ (cuts_length _ _ _) (cuts_size _ _ _) (hb _ (nums_bytes _)) hds p hp u hu
  have old1 : ∀ j, j < d → ∀ u, u < L → oldOf (pieces d s str) j u = colOf (cuts (nums str) d L) u j := fun j hj u hu => by
    rw [dot1 j (by omega) u hu, Gf.dot_unit d j hj _ fun k _ => Gf.colOf_lt (hb _ (nums_bytes _)) u k]
  rw [← hL]
  apply List.ext_getElem
  · rw [pieces_length]; simp
  · intro p h1 h3
    have hp : p < d + s := by rw [pieces_length] at h3; exact h3
    have e3 : (pieces d s str2).getD p ByteArray.empty = (pieces d s str2)[p] := by simp [h3]
    rw [List.getElem_map, List.getElem_range, ← mkS_nums (pieces d s str2)[p]]
    congr 1
    apply List.ext_getElem
    · rw [nums_length, pieces_sizes, hL2]; simp
    · intro u h4 h5
      have hu : u < L := by simpa using h4
      have e4 := dot2 p hp u hu
      rw [e3, List.getD_eq_getElem?_getD, List.getElem?_eq_getElem h5, Option.getD_some] at e4
      rw [e4]
      simp only [rowF, List.getElem_map, List.getElem_range]
      unfold newP
      by_cases hpd : p < d
      · rw [if_pos hpd, newD_cuts d L at_ str str2 t _ h h2 p hpd u hu (old1 p hpd u hu), Gf.dot_unit d p hpd _ fun k _ => Gf.colOf_lt (hb _ (nums_bytes _)) u k]
      · rw [if_neg hpd, dot1 p hp u hu]
        unfold dot
        rw [← Gf.xs_xor]
        refine Gf.xs_congr fun j hj => ?_
        rw [old1 j hj u hu, newD_cuts d L at_ str str2 t _ h h2 j hj u hu (old1 j hj u hu)]
        have hF : inv (p ^^^ j) < 256 := Gf.inv_lt _ (Gf.xor_lt (by omega) (by omega))
        rw [show rowOf d p j = inv (p ^^^ j) by simp [rowOf, hpd], ← Gf.times_xor_r _ _ _ hF, Gf.xcl]
end Go.Proofs.YtlnpppdffhibjaaDoor.Top

/- The owner's book of lists: what it holds. -/
namespace Go.Proofs.YtlnpppdffhibjaaDoor.Book
open Go.RowKit Mem FieldWalks Tab ByTab Parts

/-- The slice v reads as these strings, in a row of strings below block number N. -/
def StrsIn (w : World) (N : Nat) (v : Value) (ss : List ByteArray) : Prop :=
  ∃ ao cap, v = .slice ao ss.length cap ∧ (ss = [] ∨ ∃ g off cur, ao = some ⟨g, off, none⟩ ∧ g < N ∧ w.heap[g]? = some (.cells cur 9 (0, 0)) ∧ ∀ k, (h : k < ss.length) → cur[off + k]? = some (.string ss[k]))
theorem StrsIn.at {w : World} {N : Nat} {v : Value} {ss : List ByteArray} (h : StrsIn w N v ss) : StrsAt w v ss := by
  obtain ⟨ao, cap, rfl, h⟩ := h
  refine ⟨ao, cap, rfl, ?_⟩
  rcases h with h | ⟨g, off, cur, rfl, _, hg, hc⟩
  · exact .inl h
  · exact .inr ⟨g, off, rfl, lt_of_block hg, fun k hk => by rw [cell_of_row w g _ cur _ _ hg]; exact hc k hk⟩
theorem StrsIn.mono {w : World} {N M : Nat} {v : Value} {ss : List ByteArray} (h : StrsIn w N v ss) (hM : N ≤ M) : StrsIn w M v ss := by
  obtain ⟨ao, cap, rfl, h⟩ := h
  refine ⟨ao, cap, rfl, ?_⟩
  rcases h with h | ⟨g, off, cur, rfl, hN, r⟩
  · exact .inl h
  · exact .inr ⟨g, off, cur, rfl, Nat.lt_of_lt_of_le hN hM, r⟩
/-- It stays so where every row of strings below N stays. -/
theorem StrsIn.keep {w w' : World} {N : Nat} {v : Value} {ss : List ByteArray} (h : StrsIn w N v ss) (hk : ∀ (g : Nat) (cur : Array Value), g < N → w.heap[g]? = some (.cells cur 9 (0, 0)) → w'.heap[g]? = w.heap[g]?) : StrsIn w' N v ss := by
  obtain ⟨ao, cap, rfl, h⟩ := h
  refine ⟨ao, cap, rfl, ?_⟩
  rcases h with h | ⟨g, off, cur, rfl, hN, hg, r⟩
  · exact .inl h
  · exact .inr ⟨g, off, cur, rfl, hN, (hk g cur hN hg).trans hg, r⟩
/-- An entry: its number, its length, its list. -/
structure Ent where
  n : Nat
  size : Nat
  t : Value
def Ent.cells (e : Ent) : List Value := [.int .i64 e.n, .int .i64 e.size, e.t, .slice none 0 0, .slice none 0 0]
def Ent.ok (w : World) (N : Nat) (e : Ent) : Prop := 1 ≤ e.n ∧ e.n ≤ 9 ∧ e.size ≤ 100 ∧ StrsIn w N e.t (List.replicate e.size (markS e.n))
/-- The book at block b: c lists are in it, each with those that are longer. -/
def BookAt (w : World) (B b c N : Nat) : Prop :=
  B ≤ b ∧ ∃ (kv : Value) (es : List Ent), es.length = 4 * c ∧ Blk w b 37 [.int .i64 c, kv] ∧ w.ownsRow B 72 5 kv (4 * c) (es.flatMap Ent.cells) ∧ ∀ e, e ∈ es → e.ok w N
theorem BookAt.start (w : World) (B : Nat) (hB : B ≤ w.heap.size) (N : Nat) : BookAt (w.alloc (.cells #[.int .i64 0, .slice none 0 0] 37)) B w.heap.size 0 N :=
  ⟨hB, .slice none 0 0, [], rfl, Blk.new w _ _, World.ownsRow_nil _ _ _ _, fun e he => by cases he⟩
theorem ownsRow_kept {w w' : World} {base : Nat} {e : TypeId} {size : Nat} {v : Value} {n : Nat} {xs : List Value} (h : w.ownsRow base e size v n xs) (hk : ∀ (g : Nat) (cur : Array Value), w.heap[g]? = some (.cells cur e (0, 0)) → w'.heap[g]? = w.heap[g]?) : w'.ownsRow base e size v n xs := by
  obtain ⟨h1, h2⟩ := h
  refine ⟨h1, ?_⟩
  rcases h2 with h2 | ⟨g, cap, cur, hv, hg, hh, r⟩
  · exact Or.inl h2
  · exact Or.inr ⟨g, cap, cur, hv, hg, (hk g cur hh).trans hh, r⟩
theorem BookAt.to {w w' : World} {B b c N : Nat} (h : BookAt w B b c N) (hb : Below w.heap.size w w') : BookAt w' B b c N := by
  obtain ⟨hB, kv, es, hl, hblk, hown, hes⟩ := h
  refine ⟨hB, kv, es, hl, hblk.to hb, ownsRow_to hown hb, fun e he => ?_⟩
  obtain ⟨h1, h2, h3, h4⟩ := hes e he
  exact ⟨h1, h2, h3, h4.keep fun g cur _ hg => hb.block g (lt_of_block hg)⟩
theorem BookAt.mono {w : World} {B b c N M : Nat} (h : BookAt w B b c N) (hM : N ≤ M) : BookAt w B b c M := by
  obtain ⟨hB, kv, es, hl, hblk, hown, hes⟩ := h
  refine ⟨hB, kv, es, hl, hblk, hown, fun e he => ?_⟩
  obtain ⟨h1, h2, h3, h4⟩ := hes e he
  exact ⟨h1, h2, h3, h4.mono hM⟩
end Go.Proofs.YtlnpppdffhibjaaDoor.Book

/- The book while a list is being written into it. -/
namespace Go.Proofs.YtlnpppdffhibjaaDoor.Book
open Go.RowKit Mem FieldWalks Tab ByTab Parts

/-- The book with its number raised and its lists as they were. -/
structure St (w0 w : World) (B b c lb : Nat) (kv : Value) (es : List Ent) : Prop where
  low : B ≤ b
  high : B ≤ lb
  blk : Blk w b 37 [.int .i64 (c + 1 : Nat), kv]
  own : w.ownsRow B 72 5 kv (4 * c) (es.flatMap Ent.cells)
  ok : ∀ e, e ∈ es → e.ok w lb
  below : Below B w0 w
theorem St.to {w0 w w' : World} {B b c lb : Nat} {kv : Value} {es : List Ent} (h : St w0 w B b c lb kv es) (hb : Below w.heap.size w w') : St w0 w' B b c lb kv es :=
  ⟨h.low, h.high, h.blk.to hb, ownsRow_to h.own hb, fun e he => by
    obtain ⟨h1, h2, h3, h4⟩ := h.ok e he
    exact ⟨h1, h2, h3, h4.keep fun g cur _ hg => hb.block g (lt_of_block hg)⟩, h.below.trans (hb.mono (by have := h.blk.lt; have := h.low; omega))⟩
theorem St.set {w0 w : World} {B b c lb : Nat} {kv : Value} {es : List Ent} {us : List Value} (h : St w0 w B b c lb kv es) (hl : Blk w lb 9 us) (k : Nat) (v : Value) : St w0 (w.setCell ⟨lb, k, none⟩ v) B b c lb kv es := by
  refine ⟨h.low, h.high, h.blk.other (h.blk.type_ne hl (by decide)) _, ownsRow_kept h.own fun g cur hg => ?_, fun e he => ?_, h.below.setCell h.high _⟩
  · exact Below.heap_setCell _ _ _ _ (Blk.type_ne (w := w) (vs := cur.toList) (by unfold Blk; rw [hg]) hl (by decide))
  · obtain ⟨h1, h2, h3, h4⟩ := h.ok e he
    exact ⟨h1, h2, h3, h4.keep fun g cur hlt _ => Below.heap_setCell _ _ _ _ (show g ≠ lb by omega)⟩
theorem St.start {w : World} {B b c lb : Nat} {kv : Value} {es : List Ent} (hB : B ≤ b) (hlb : B ≤ lb) (hblk : Blk w b 37 [.int .i64 c, kv]) (hown : w.ownsRow B 72 5 kv (4 * c) (es.flatMap Ent.cells)) (hes : ∀ e, e ∈ es → e.ok w lb) :
    St w (w.setCell ⟨b, 0, none⟩ (.int .i64 ((c : Int) + 1))) B b c lb kv es := by
  refine ⟨hB, hlb, ?_, ownsRow_kept hown fun g cur hg => ?_, fun e he => ?_, (Below.refl _ _).setCell hB _⟩
  · have := hblk.set 0 (.int .i64 ((c : Int) + 1))
    simpa using this
  · exact Below.heap_setCell _ _ _ _ (Blk.type_ne (w := w) (vs := cur.toList) (by unfold Blk; rw [hg]) hblk (by decide))
  · obtain ⟨h1, h2, h3, h4⟩ := hes e he
    exact ⟨h1, h2, h3, h4.keep fun g cur _ hg => Below.heap_setCell _ _ _ _ (Blk.type_ne (w := w) (b := g) (t := 9) (vs := cur.toList) (by unfold Blk; rw [hg]) hblk (by decide))⟩

theorem StrsIn.of_owns {w : World} {base : Nat} {v : Value} {n : Nat} {ss : List ByteArray} (h : w.ownsRow base 9 1 v n (ss.map Value.string)) : StrsIn w w.heap.size v ss := by
  obtain ⟨hl, h2⟩ := h
  simp only [List.length_map, Nat.mul_one] at hl
  rcases h2 with ⟨rfl, h0⟩ | ⟨g, cap, cur, rfl, hg, hh, _, _, _, ht⟩
  · exact ⟨none, 0, by rw [hl, h0], .inl (List.eq_nil_of_length_eq_zero (by omega))⟩
  · refine ⟨_, cap, by rw [hl], .inr ⟨g, 0, cur, rfl, lt_of_block hh, hh, fun k hk => ?_⟩⟩
    rw [Nat.zero_add]
    rw [Nat.mul_one] at ht
    have : (cur.toList.take n)[k]? = some (.string ss[k]) := by rw [ht]; simp [hk]
    rw [List.getElem?_take_of_lt (by omega)] at this
    simpa using this
theorem StrsIn.of_blk {w : World} {lb : Nat} {ss : List ByteArray} (h : Blk w lb 9 (ss.map Value.string)) (n : Nat) (hn : ss.length = n) : StrsIn w w.heap.size (.slice (some ⟨lb, 0, none⟩) n n) ss := by
  subst hn
  exact ⟨_, _, rfl, .inr ⟨lb, 0, _, rfl, h.lt, h, fun k hk => by simp [hk]⟩⟩

/-- append of marks onto a list that is full of them: a new list. -/
theorem wpList_append_marks {P : Program} (w : World) {ops : Array Oper} {rest : List Oper} {o : Oper} {a : Act} {Q : Exit → Act → World → Prop}
    (hgd : o.guard = none) (s x : Operand) (t : TypeId) (hop : o.op = Op.call { callee := Callee.builtin Builtin.append, args := #[s, x], argTypes := #[t, t] })
    (ht : P.underlying t = some (.slice 9)) (hinfo : (P.info? 9).map (fun i => (i.zero, i.size, i.bytes)) = some (some (.string ByteArray.empty), 1, 16))
    (ao : Option Addr) (n m : Nat) (q : ByteArray) (hs : a.eval s = .slice ao n n) (hn : n ≤ 1000) (hm : 0 < m) (hm2 : m ≤ 10)
    (hnone : ao = none → n = 0) (holds : ∀ b, ao = some b → ∀ j, j < n → w.cell? (b.add j) = some (.string q))
    (ad : Addr) (c : Nat) (hx : a.eval x = .slice (some ad) m c) (hc : ∀ j, j < m → w.cell? (ad.add j) = some (.string q))
    (hK : ∀ ao' c' w', StrsIn w' w'.heap.size (.slice ao' (n + m) c') (List.replicate (n + m) q) → Below w.heap.size w w' → wpList P ops Q rest (a.put o.dst (.slice ao' (n + m) c')) w') :
    wpList P ops Q (o :: rest) a w := by
  obtain ⟨i0, hi, hz0, hz1, hz2⟩ := info_parts hinfo
  refine wpList_append_grows _ hgd s x t hop 9 i0 _ 1 16 ht hi hz0 hz1 hz2 rfl (by decide) ao n n (List.replicate n (.string q)) hs (fun h => ⟨hnone h, hnone h⟩) (by simp) (fun b hb j u hu => ?_) ad m c (List.replicate m (.string q)) hx (by simp) (fun j u hu => ?_) (fun u hu => ?_) (by omega) (by unfold maxLen; omega) (by omega) (fun v' w' ho hg => ?_)
  · have hj : j < n := by have := (List.getElem?_eq_some_iff.1 hu).1; simpa using this
    rw [List.getElem?_replicate, if_pos hj] at hu
    rw [holds b hb j hj]; exact hu
  · have hj : j < m := by have := (List.getElem?_eq_some_iff.1 hu).1; simpa using this
    rw [List.getElem?_replicate, if_pos hj] at hu
    rw [hc j hj]; exact hu
  · have := List.eq_of_mem_replicate hu; subst this; rfl
  · obtain ⟨ao', c', rfl⟩ := Ref.owns_slice ho
    have e : List.replicate n (Value.string q) ++ List.replicate m (.string q) = (List.replicate (n + m) q).map Value.string := by simp [List.replicate_append_replicate]
    rw [e] at ho
    exact hK _ _ _ (StrsIn.of_owns ho) ((Below.refl _ _).grown hg (Nat.le_refl _) (fun k hk => by cases hk))

/-- append of several elements onto a row of the call's own, as one step of a region that draws its order. -/
theorem step_append_many {P : Program} {w : World} {ops : Array Oper} {o : Oper} {a : Act} {K : Act → World → Prop} {Q : Exit → Act → World → Prop} {E : Prop}
    (hgd : o.guard = none) (s x : Operand) (t : TypeId) (hop : o.op = Op.call { callee := Callee.builtin Builtin.append, args := #[s, x], argTypes := #[t, t] })
    (base : Nat) (e : TypeId) (z : Value) (size bytes : Nat) (ht : P.underlying t = some (.slice e)) (hinfo : (P.info? e).map (fun i => (i.zero, i.size, i.bytes)) = some (some z, size, bytes)) (hz : z.cells.size = size) (hsz : 0 < size)
    (v : Value) (n : Nat) (xs : List Value) (hs : a.eval s = v) (hown : w.ownsRow base e size v n xs) (ad : Addr) (m c : Nat) (news : List Value) (hx : a.eval x = .slice (some ad) m c) (hl : news.length = m * size) (hu : ∀ j u, news[j]? = some u → w.cell? (ad.add j) = some u) (h1 : ∀ u ∈ news, u.oneCell' = true)
    (b1 : n + m ≤ maxLen) (b2 : (n + m) * bytes ≤ 140737488355328) (hbase : base ≤ w.heap.size)
    (hK : ∀ v' w', w'.ownsRow base e size v' (n + m) (xs ++ news) → w.grownBy w' v.ownBlock → K (a.put o.dst v') w') :
    if Region.wanted o (yielded ops a.tmps) = true then Oper.wp P o a w K Q else E := by
  have hw : Region.wanted o (yielded ops a.tmps) = true := by simp [Region.wanted, hgd]
  rw [if_pos hw]
  obtain ⟨i0, hi, hz0, hz1, hz2⟩ := info_parts hinfo
  obtain ⟨v', w', hrun, ho, hg, _⟩ := run_append_own (P := P) w base t o.type e i0 z size bytes ht hi hz0 hz1 hz2 hz hsz v n xs hown ad m c news hl hu h1 b1 b2 hbase
  unfold Oper.wp
  simp [execOp, hop, resolve, invoke, builtin, hs, hx, hrun, Result.andThen]
  exact hK v' w' ho hg
theorem infoKept : (Tryd.prog.info? 72).map (fun i => (i.zero, i.size, i.bytes)) = some (some (.agg #[.int .i64 0, .int .i64 0, .slice none 0 0, .slice none 0 0, .slice none 0 0]), 5, 88) := by kernel_rfl
/-- Behind the append and the store the book holds four more. -/
theorem St.book {w0 w w1 w2 : World} {B b c lb : Nat} {kv kv' : Value} {es news : List Ent} (h : St w0 w B b c lb kv es) (hb : Below w.heap.size w w1) (hel : es.length = 4 * c) (hnl : news.length = 4)
    (ho : w2.ownsRow B 72 5 kv' (4 * c + 4) (es.flatMap Ent.cells ++ news.flatMap Ent.cells)) (hg : w1.grownBy w2 kv.ownBlock)
    (hnew : ∀ e, e ∈ news → e.ok w1 w1.heap.size) : BookAt (w2.setCell ⟨b, 1, none⟩ kv') B b (c + 1) (w2.setCell ⟨b, 1, none⟩ kv').heap.size ∧ Below B w0 (w2.setCell ⟨b, 1, none⟩ kv') := by
  have h1 := h.to hb
  have hsz1 := h1.blk.lt
  have hlow := h1.low
  -- a row of another type is kept by the append
  have keep : ∀ (g : Nat) (t : TypeId) (cur : Array Value), t ≠ 72 → w1.heap[g]? = some (.cells cur t (0, 0)) → w2.heap[g]? = w1.heap[g]? := by
    intro g t cur ht hg1
    refine hg.block g (lt_of_block hg1) (fun e => ?_)
    rcases h1.own.2 with ⟨rfl, _⟩ | ⟨g', cap, cur', rfl, _, hh, _⟩
    · simp [Value.ownBlock] at e
    · simp [Value.ownBlock] at e
      subst e
      rw [hg1] at hh
      simp at hh
      exact ht hh.2
  have hblk2 : Blk w2 b 37 [.int .i64 (c + 1 : Nat), kv] := by
    unfold Blk; rw [keep b 37 _ (by decide) h1.blk]; exact h1.blk
  have hB2 : Below B w0 w2 := h1.below.grown hg (by omega) (fun k hk => (h1.own.lt k hk).1)
  have hset := hblk2.set 1 kv'
  refine ⟨⟨h.low, kv', es ++ news, by simp [hel, hnl]; omega, by simpa using hset, ?_, fun e he => ?_⟩, hB2.setCell h.low _⟩
  · have e1 : 4 * (c + 1) = 4 * c + 4 := by omega
    rw [e1, List.flatMap_append]
    exact ownsRow_kept ho fun g cur hgg => Below.heap_setCell _ _ _ _ (Blk.type_ne (w := w2) (b := g) (t := 72) (vs := cur.toList) (by unfold Blk; rw [hgg]) hblk2 (by decide))
  · have hok : e.ok w1 w1.heap.size := by
      rcases List.mem_append.1 he with he | he
      · obtain ⟨x1, x2, x3, x4⟩ := h1.ok e he
        obtain ⟨ao, cap, ht, hx⟩ := x4
        refine ⟨x1, x2, x3, ao, cap, ht, ?_⟩
        rcases hx with hx | ⟨g, off, cur, h1', _, hg', r⟩
        · exact .inl hx
        · exact .inr ⟨g, off, cur, h1', lt_of_block hg', hg', r⟩
      · exact hnew e he
    obtain ⟨x1, x2, x3, x4⟩ := hok
    refine ⟨x1, x2, x3, (x4.keep (w' := w2.setCell ⟨b, 1, none⟩ kv') fun g cur _ hgg => ?_).mono (by rw [size_setCell]; exact hg.size)⟩
    rw [Below.heap_setCell _ _ _ _ (Blk.type_ne (w := w1) (b := g) (t := 9) (vs := cur.toList) (by unfold Blk; rw [hgg]) h1.blk (by decide))]
    exact keep g 9 cur (by decide) hgg
end Go.Proofs.YtlnpppdffhibjaaDoor.Book

namespace Go.Proofs.YtlnpppdffhibjaaDoor.Book
open Go.RowKit Mem FieldWalks Tab ByTab Parts

theorem marks_len (n : Nat) (q : ByteArray) (us : List Value) (hl : us.length = n) (k : Nat) : (mix (List.replicate n (.string q)) us k).length = n := by
  rw [mix_length (by simp [hl])]; exact hl

theorem old_cell {w : World} {a : Addr} {v : Value} (h : w.cell? a = some v) (o : Obj) : (w.alloc o).cell? a = some v := by
  rw [World.cell?_of_block (w := w) (Below.heap_alloc w o a.block (block_lt_of_cell h))]; exact h
theorem new_cells (w : World) (i : Nat) (q : ByteArray) (j : Nat) (hj : j < i) : (w.alloc (.cells (List.replicate i (Value.string q)).toArray 9)).cell? ((⟨w.heap.size, 0, none⟩ : Addr).add j) = some (.string q) := by
  rw [Addr.add_lit, Nat.zero_add]
  exact (Blk.new w _ _).cell_some (by simp [hj])
theorem old_cells {w w' : World} {lo : Option Addr} {k : Nat} {q : ByteArray} (h : ∀ b, lo = some b → ∀ j, j < k → w.cell? (b.add j) = some (.string q)) (hb : Below w.heap.size w w') (b : Addr) (e : lo = some b) (j : Nat) (hj : j < k) : w'.cell? (b.add j) = some (.string q) := by
  have h0 := h b e j hj
  rw [hb.cell (p := b.add j) (block_lt_of_cell h0)]; exact h0
theorem below_alloc (w : World) (o : Obj) : Below w.heap.size w (w.alloc o) := (Below.refl _ _).alloc (Nat.le_refl _) o

theorem StrsIn.later {w w' : World} {v : Value} {ss : List ByteArray} (h : StrsIn w w.heap.size v ss) (hb : Below w.heap.size w w') : StrsIn w' w'.heap.size v ss :=
  (h.keep fun g _ _ hg => hb.block g (lt_of_block hg)).mono hb.size
/-- The four that come into the book with a list of k. -/
def newsOf (c k : Nat) (l a1 a2 a3 : Value) : List Ent := [⟨c + 1, k, l⟩, ⟨c + 1, k + 1, a1⟩, ⟨c + 1, k + 2, a2⟩, ⟨c + 1, k + 3, a3⟩]
theorem newsOf_ok (c k : Nat) (hc : c ≤ 8) (hk : k ≤ 90) (w : World) (q : ByteArray) (hq : q = markS (c + 1)) {l a1 a2 a3 : Value} (h0 : StrsIn w w.heap.size l (List.replicate k q)) (h1 : StrsIn w w.heap.size a1 (List.replicate (k + 1) q))
    (h2 : StrsIn w w.heap.size a2 (List.replicate (k + 2) q)) (h3 : StrsIn w w.heap.size a3 (List.replicate (k + 3) q)) : ∀ e, e ∈ newsOf c k l a1 a2 a3 → e.ok w w.heap.size := by
  subst hq
  intro e he
  simp only [newsOf, List.mem_cons, List.not_mem_nil, or_false] at he
  rcases he with rfl | rfl | rfl | rfl
  · exact ⟨by show 1 ≤ c + 1; omega, by show c + 1 ≤ 9; omega, by show k ≤ 100; omega, h0⟩
  · exact ⟨by show 1 ≤ c + 1; omega, by show c + 1 ≤ 9; omega, by show k + 1 ≤ 100; omega, h1⟩
  · exact ⟨by show 1 ≤ c + 1; omega, by show c + 1 ≤ 9; omega, by show k + 2 ≤ 100; omega, h2⟩
  · exact ⟨by show 1 ≤ c + 1; omega, by show c + 1 ≤ 9; omega, by show k + 3 ≤ 100; omega, h3⟩
theorem newsOf_cells (c k : Nat) (l a1 a2 a3 : Value) : (newsOf c k l a1 a2 a3).flatMap Ent.cells =
    [.int .i64 ((c : Int) + 1), .int .i64 (k : Int), l, .slice none 0 0, .slice none 0 0, .int .i64 ((c : Int) + 1), .int .i64 ((k : Int) + 1), a1, .slice none 0 0, .slice none 0 0,
     .int .i64 ((c : Int) + 1), .int .i64 ((k : Int) + 2), a2, .slice none 0 0, .slice none 0 0, .int .i64 ((c : Int) + 1), .int .i64 ((k : Int) + 3), a3, .slice none 0 0, .slice none 0 0] := rfl
theorem many_cells (w : World) (t : TypeId) (news : List Value) (j : Nat) (u : Value) (h : news[j]? = some u) : (w.alloc (.cells news.toArray t)).drew.cell? ((⟨w.heap.size, 0, none⟩ : Addr).add j) = some u := by
  rw [Addr.add_lit, Nat.zero_add]
  exact (Blk.new w news.toArray t).cell_some (by simpa using h)

theorem St.after {w0 w w1 w2 : World} {B b c lb : Nat} {kv : Value} {es : List Ent} (h : St w0 w B b c lb kv es) (hb : Below w.heap.size w w1) (hg : w1.grownBy w2 kv.ownBlock) : Blk w2 b 37 [.int .i64 ((c : Int) + 1), kv] := by
  have h1 := h.to hb
  have e : w2.heap[b]? = w1.heap[b]? := by
    refine hg.block b h1.blk.lt (fun e => ?_)
    rcases h1.own.2 with ⟨rfl, _⟩ | ⟨g', cap, cur', rfl, _, hh, _⟩
    · simp [Value.ownBlock] at e
    · simp [Value.ownBlock] at e
      subst e
      have := h1.blk
      unfold Blk at this
      rw [this] at hh
      simp at hh
  unfold Blk; rw [e]; exact h1.blk
theorem owns_slice' {w : World} {base size : Nat} {e : TypeId} {v : Value} {n : Nat} {xs : List Value} (h : w.ownsRow base e size v n xs) : ∃ ao c, v = .slice ao n c := by
  rcases h.2 with ⟨rfl, rfl⟩ | ⟨g, cap, cur, rfl, _⟩
  · exact ⟨_, _, rfl⟩
  · exact ⟨_, _, rfl⟩

set_option maxRecDepth 100000 in
set_option maxHeartbeats 2000000 in
theorem texts_any (B b c lb n : Nat) (lo : Option Addr) (us : List Value) (w : World) (hbook : BookAt w B b c lb) (hc : c ≤ 8) (hn : n ≤ 90) (hlb : B ≤ lb) (hl : us.length = n) (hL : (n = 0 ∧ lo = none) ∨ (lo = some ⟨lb, 0, none⟩ ∧ Blk w lb 9 us)) :
    Calls Tryd.prog 21 #[.pointer (some ⟨b, 0, none⟩), .slice lo n n] w fun e w' => e = .returned (.tuple #[]) ∧ BookAt w' B b (c + 1) w'.heap.size ∧ Below B w w' := by
  obtain ⟨hB, kv, es, hel, hblk, hown, hes⟩ := hbook
  have c0 := hblk.cell_some (k := 0) rfl
  have f0 := hblk.free 0
  have hblt := hblk.lt
  have ST0 : Hid (St w (w.setCell ⟨b, 0, none⟩ (.int .i64 ((c : Int) + 1))) B b c lb kv es) := St.start hB hlb hblk hown hes
  have HL0 : Hid ((n = 0 ∧ lo = none) ∨ (lo = some ⟨lb, 0, none⟩ ∧ Blk (w.setCell ⟨b, 0, none⟩ (.int .i64 ((c : Int) + 1))) lb 9 us)) := by
    rcases hL with h | ⟨h1, h2⟩
    · exact .inl h
    · exact .inr ⟨h1, h2.other (by exact Ne.symm (hblk.type_ne h2 (by decide))) _⟩
  have hput : (w.setCell ⟨b, 0, none⟩ (.int .i64 ((c : Int) + 1))).cell? ⟨b, 0, none⟩ = some (.int .i64 ((c : Int) + 1)) := (hblk.set 0 _).cell_some rfl
  clear hblk hown hes hL
  have hmk := mark_any (c + 1) (by omega) (by omega) (w.setCell ⟨b, 0, none⟩ (.int .i64 ((c : Int) + 1)))
  rw [show ((c + 1 : Nat) : Int) = (c : Int) + 1 by omega] at hmk
  have HMK : Hid (Calls Tryd.prog 42 #[.int .i64 ((c : Int) + 1)] (w.setCell ⟨b, 0, none⟩ (.int .i64 ((c : Int) + 1))) fun e w' => e = .returned (.string (markS (c + 1))) ∧ Below (w.setCell ⟨b, 0, none⟩ (.int .i64 ((c : Int) + 1))).heap.size (w.setCell ⟨b, 0, none⟩ (.int .i64 ((c : Int) + 1))) w') := hmk
  obtain ⟨q, hq⟩ : ∃ q, q = markS (c + 1) := ⟨_, rfl⟩
  have HQ : Hid (q = markS (c + 1)) := hq
  clear hmk hq
  go_enter Tryd.func21, Tryd.ntmps21
  go_wp2_with fail
  refine Calls.mono HMK.out ?_
  rintro e w1 ⟨rfl, hw1⟩
  rw [← HQ.out]
  have hs1 := ST0.out.to hw1
  have hl1 : (n = 0 ∧ lo = none) ∨ (lo = some ⟨lb, 0, none⟩ ∧ Blk w1 lb 9 us) := HL0.out.imp id (fun h => ⟨h.1, h.2.to hw1⟩)
  have HL1 : Hid ((n = 0 ∧ lo = none) ∨ (lo = some ⟨lb, 0, none⟩ ∧ Blk w1 lb 9 us)) := hl1
  clear hl1
  clear c0 f0 hput
  go_wp2
  go_loopw [5] (fun i wr => ∃ k : Nat, k ≤ n ∧ i = .int .i64 k ∧ St w wr B b c lb kv es ∧ ((n = 0 ∧ lo = none) ∨ (lo = some ⟨lb, 0, none⟩ ∧ Blk wr lb 9 (mix (List.replicate n (.string q)) us k)))) (fun i _ => n - (intOf i).toNat)
  case atStart => exact ⟨0, Nat.zero_le _, rfl, hs1, by rw [mix_zero]; exact HL1.out⟩
  case round =>
    clear hs1
    obtain ⟨k, hk, rfl, hst, hLk⟩ := hrel
    by_cases hlt : k < n
    · obtain ⟨rfl, hLq⟩ : lo = some ⟨lb, 0, none⟩ ∧ Blk wr lb 9 (mix (List.replicate n (.string q)) us k) := by
        rcases hLk with h | h
        · omega
        · exact h
      have hc1 := hLq.cell_some (List.getElem?_eq_getElem (show k < (mix (List.replicate n (.string q)) us k).length by rw [marks_len n q us hl]; exact hlt))
      generalize (mix (List.replicate n (Value.string q)) us k)[k]'(by rw [marks_len n q us hl]; exact hlt) = old at hc1
      have hf1 := hLq.free k
      have HS : Hid (St w wr B b c lb kv es) := hst
      have HLK : Hid (Blk wr lb 9 (mix (List.replicate n (.string q)) us k)) := hLq
      clear hst hLk hLq
      go_wp2
      go_roundw
      case rel =>
        refine ⟨k + 1, by omega, by go_num, HS.out.set HLK.out k _, .inr ⟨by trivial, (HLK.out.set k _).eq ?_⟩⟩
        have e := mix_set (new := List.replicate n (Value.string q)) (old := us) (k := k) (by simp [hl]) (by omega)
        rw [← e]; simp
      case measure => simp [intOf]; omega
    · obtain rfl : k = n := by omega
      have e : mix (List.replicate k (.string q)) us k = List.replicate k (.string q) := by
        have := mix_all (new := List.replicate k (Value.string q)) (old := us) (by simp [hl])
        rw [hl] at this; exact this
      rw [e] at hLk
      obtain ⟨wo, rfl⟩ : ∃ wo, wo = wr := ⟨_, rfl⟩
      have hcl : ∀ b, lo = some b → ∀ j, j < k → wo.cell? (b.add j) = some (.string q) := fun b hb j hj => by
        rcases hLk with h | ⟨h1, h2⟩
        · omega
        · rw [h1] at hb; cases hb
          rw [Addr.add_lit, Nat.zero_add]; exact h2.cell_some (by simp [hj])
      have HNO : Hid (lo = none → k = 0) := fun h => by
        rcases hLk with h0 | ⟨h1, _⟩
        · exact h0.1
        · rw [h1] at h; cases h
      have hln : StrsIn wo wo.heap.size (.slice lo k k) (List.replicate k q) := by
        rcases hLk with ⟨h0, h1⟩ | ⟨h1, h2⟩
        · subst h0; exact ⟨lo, 0, rfl, .inl rfl⟩
        · rw [h1]; exact StrsIn.of_blk (by simpa using h2) k (by simp)
      have HCL : Hid (∀ b, lo = some b → ∀ j, j < k → wo.cell? (b.add j) = some (.string q)) := hcl
      have HS : Hid (St w wo B b c lb kv es) := hst
      have HLN : Hid (StrsIn wo wo.heap.size (.slice lo k k) (List.replicate k q)) := hln
      clear hst hLk hcl e hln
      go_wp2_with (first | (at_builtin; refine wpList_append_marks _ rfl (.tmp 34) (.tmp 36) 38 rfl Tryd.underlying38 infoStr lo k 1 q rfl (by omega) (by decide) (by decide) HNO.out (old_cells HCL.out (below_alloc _ _)) ⟨wo.heap.size, 0, none⟩ 1 rfl (by exact new_cells wo 1 q) ?_; intro a1 p1 w2 hone hb2; have HB2 : Hid (Below wo.heap.size wo w2) := (below_alloc wo _).trans (Below.mono hb2 (by simp)); have HONE : Hid (StrsIn w2 w2.heap.size (.slice a1 (k + 1) p1) (List.replicate (k + 1) q)) := hone; clear hb2 hone) | (at_builtin; refine wpList_append_marks _ rfl (.tmp 38) (.tmp 41) 38 rfl Tryd.underlying38 infoStr lo k 2 q rfl (by omega) (by decide) (by decide) HNO.out (old_cells HCL.out (HB2.out.trans ((below_alloc _ _).mono HB2.out.size))) ⟨w2.heap.size, 0, none⟩ 2 rfl (by exact new_cells w2 2 q) ?_; intro a2 p2 w3 htwo hb3; have HB3 : Hid (Below w2.heap.size w2 w3) := (below_alloc w2 _).trans (Below.mono hb3 (by simp)); have HTWO : Hid (StrsIn w3 w3.heap.size (.slice a2 (k + 2) p2) (List.replicate (k + 2) q)) := htwo; clear hb3 htwo) | (at_builtin; refine wpList_append_marks _ rfl (.tmp 43) (.tmp 47) 38 rfl Tryd.underlying38 infoStr lo k 3 q rfl (by omega) (by decide) (by decide) HNO.out (old_cells HCL.out ((HB2.out.trans (HB3.out.mono HB2.out.size)).trans ((below_alloc _ _).mono (Nat.le_trans HB2.out.size HB3.out.size)))) ⟨w3.heap.size, 0, none⟩ 3 rfl (by exact new_cells w3 3 q) ?_; intro a3 p3 w4 hthree hb4; have HB4 : Hid (Below w3.heap.size w3 w4) := (below_alloc w3 _).trans (Below.mono hb4 (by simp)); have HTHREE : Hid (StrsIn w4 w4.heap.size (.slice a3 (k + 3) p3) (List.replicate (k + 3) q)) := hthree; clear hb4 hthree))
      have S4 : St w w4 B b c lb kv es := HS.out.to (HB2.out.trans ((HB3.out.mono HB2.out.size).trans (HB4.out.mono (Nat.le_trans HB2.out.size HB3.out.size))))
      have hc0 := S4.blk.cell_some (k := 0) rfl
      have hc1 := S4.blk.cell_some (k := 1) rfl
      have hf1 := S4.blk.free 1
      rw [show ((c + 1 : Nat) : Int) = (c : Int) + 1 by omega] at hc0
      have HC0 : Hid (w4.drew.cell? ⟨b, 0, none⟩ = some (.int .i64 ((c : Int) + 1))) := hc0
      have hb4lt := S4.blk.lt
      have HS4 : Hid (St w w4 B b c lb kv es) := S4
      have hk1 : IntKind.i64.wrap ((k : Int) + 1) = (k : Int) + 1 := by rw [IntKind.wrap_i64]; omega
      have hk2 : IntKind.i64.wrap ((k : Int) + 2) = (k : Int) + 2 := by rw [IntKind.wrap_i64]; omega
      have hk3 : IntKind.i64.wrap ((k : Int) + 3) = (k : Int) + 3 := by rw [IntKind.wrap_i64]; omega
      obtain ⟨ka, kc, rfl⟩ : ∃ ao c', kv = .slice ao (4 * c) c' := by
        rcases S4.own.2 with ⟨rfl, h0⟩ | ⟨g, cap, cur, rfl, _⟩
        · rw [h0]; exact ⟨_, _, rfl⟩
        · exact ⟨_, _, rfl⟩
      have hnew : ∀ e, e ∈ newsOf c k (.slice lo k k) (.slice a1 (k + 1) p1) (.slice a2 (k + 2) p2) (.slice a3 (k + 3) p3) → e.ok w4 w4.heap.size := by
        have b24 := HB3.out.trans (HB4.out.mono HB3.out.size)
        have bo4 := HB2.out.trans (b24.mono HB2.out.size)
        exact newsOf_ok c k (by omega) (by omega) w4 q HQ.out (HLN.out.later bo4) (HONE.out.later b24) (HTWO.out.later HB4.out) HTHREE.out
      have HNEW : Hid (∀ e, e ∈ newsOf c k (.slice lo k k) (.slice a1 (k + 1) p1) (.slice a2 (k + 2) p2) (.slice a3 (k + 3) p3) → e.ok w4 w4.heap.size) := hnew
      clear S4 hc0 hnew
      refine wp_region_held (S := fun wx => wx.cell? ⟨b, 0, none⟩ = some (.int .i64 ((c : Int) + 1))) rfl ?_
      refine wpAnyH_take (i := 0) (v := (.pointer (some ⟨b, 0, none⟩))) rfl (by kernel_rfl) (by kernel_rfl) (by kernel_rfl) (fun _ _ _ h => h) (Or.inl ⟨by rfl, fun w hw => by go_simp⟩) HC0.out ?_
      refine wpAnyH_take (i := 1) (v := (.pointer (some ⟨b, 0, none⟩))) rfl (by kernel_rfl) (by kernel_rfl) (by kernel_rfl) (fun _ _ _ h => h) (Or.inl ⟨by rfl, fun w hw => by go_simp⟩) HC0.out ?_
      refine wpAnyH_take (i := 2) (v := (.pointer (some ⟨b, 0, none⟩))) rfl (by kernel_rfl) (by kernel_rfl) (by kernel_rfl) (fun _ _ _ h => h) (Or.inl ⟨by rfl, fun w hw => by go_simp⟩) HC0.out ?_
      refine wpAnyH_take (i := 3) (v := (.pointer (some ⟨b, 1, none⟩))) rfl (by kernel_rfl) (by kernel_rfl) (by kernel_rfl) (fun _ _ _ h => h) (Or.inl ⟨by rfl, fun w hw => by go_simp⟩) HC0.out ?_
      refine wpAnyH_take (i := 5) (v := (.pointer (some ⟨b, 0, none⟩))) rfl (by kernel_rfl) (by kernel_rfl) (by kernel_rfl) (fun _ _ _ h => h) (Or.inl ⟨by rfl, fun w hw => by go_simp⟩) HC0.out ?_
      simp only [Act.put]
      refine wpAnyH_take (i := 6) (v := (.pointer (some ⟨b, 0, none⟩))) rfl (by kernel_rfl) (by kernel_rfl) (by kernel_rfl) (fun _ _ _ h => h) (Or.inl ⟨by rfl, fun w hw => by go_simp⟩) HC0.out ?_
      refine wpAnyH_take (i := 7) (v := (.pointer (some ⟨b, 0, none⟩))) rfl (by kernel_rfl) (by kernel_rfl) (by kernel_rfl) (fun _ _ _ h => h) (Or.inl ⟨by rfl, fun w hw => by go_simp⟩) HC0.out ?_
      refine wpAnyH_take (i := 8) (v := (.int .i64 ((c : Int) + 1))) rfl (by kernel_rfl) (by kernel_rfl) (by kernel_rfl) (fun _ _ _ h => h) (Or.inl ⟨by rfl, fun w hw => by go_simp⟩) HC0.out ?_
      refine wpAnyH_take (i := 9) (v := (.int .i64 (k : Int))) rfl (by kernel_rfl) (by kernel_rfl) (by kernel_rfl) (fun _ _ _ h => h) (Or.inl ⟨by rfl, fun w hw => by go_simp⟩) HC0.out ?_
      refine wpAnyH_take (i := 10) (v := (.slice lo k k)) rfl (by kernel_rfl) (by kernel_rfl) (by kernel_rfl) (fun _ _ _ h => h) (Or.inl ⟨by rfl, fun w hw => by go_simp⟩) HC0.out ?_
      refine wpAnyH_take (i := 11) (v := (.agg #[.int .i64 ((c : Int) + 1), .int .i64 (k : Int), .slice lo k k, .slice none 0 0, .slice none 0 0])) rfl (by kernel_rfl) (by kernel_rfl) (by kernel_rfl) (fun _ _ _ h => h) (Or.inl ⟨by rfl, fun w hw => by go_simp⟩) HC0.out ?_
      simp only [Act.put]
      refine wpAnyH_take (i := 12) (v := (.pointer (some ⟨b, 0, none⟩))) rfl (by kernel_rfl) (by kernel_rfl) (by kernel_rfl) (fun _ _ _ h => h) (Or.inl ⟨by rfl, fun w hw => by go_simp⟩) HC0.out ?_
      refine wpAnyH_take (i := 13) (v := (.pointer (some ⟨b, 0, none⟩))) rfl (by kernel_rfl) (by kernel_rfl) (by kernel_rfl) (fun _ _ _ h => h) (Or.inl ⟨by rfl, fun w hw => by go_simp⟩) HC0.out ?_
      refine wpAnyH_take (i := 14) (v := (.pointer (some ⟨b, 0, none⟩))) rfl (by kernel_rfl) (by kernel_rfl) (by kernel_rfl) (fun _ _ _ h => h) (Or.inl ⟨by rfl, fun w hw => by go_simp⟩) HC0.out ?_
      refine wpAnyH_take (i := 15) (v := (.int .i64 ((c : Int) + 1))) rfl (by kernel_rfl) (by kernel_rfl) (by kernel_rfl) (fun _ _ _ h => h) (Or.inl ⟨by rfl, fun w hw => by go_simp⟩) HC0.out ?_
      refine wpAnyH_take (i := 16) (v := (.int .i64 (k : Int))) rfl (by kernel_rfl) (by kernel_rfl) (by kernel_rfl) (fun _ _ _ h => h) (Or.inl ⟨by rfl, fun w hw => by go_simp⟩) HC0.out ?_
      refine wpAnyH_take (i := 17) (v := (.int .i64 ((k : Int) + 1))) rfl (by kernel_rfl) (by kernel_rfl) (by kernel_rfl) (fun _ _ _ h => h) (Or.inl ⟨by rfl, fun w hw => by go_simp⟩) HC0.out ?_
      simp only [Act.put]
      refine wpAnyH_take (i := 18) (v := (.slice a1 (k + 1) p1)) rfl (by kernel_rfl) (by kernel_rfl) (by kernel_rfl) (fun _ _ _ h => h) (Or.inl ⟨by rfl, fun w hw => by go_simp⟩) HC0.out ?_
      refine wpAnyH_take (i := 19) (v := (.agg #[.int .i64 ((c : Int) + 1), .int .i64 ((k : Int) + 1), .slice a1 (k + 1) p1, .slice none 0 0, .slice none 0 0])) rfl (by kernel_rfl) (by kernel_rfl) (by kernel_rfl) (fun _ _ _ h => h) (Or.inl ⟨by rfl, fun w hw => by go_simp⟩) HC0.out ?_
      refine wpAnyH_take (i := 20) (v := (.pointer (some ⟨b, 0, none⟩))) rfl (by kernel_rfl) (by kernel_rfl) (by kernel_rfl) (fun _ _ _ h => h) (Or.inl ⟨by rfl, fun w hw => by go_simp⟩) HC0.out ?_
      refine wpAnyH_take (i := 21) (v := (.pointer (some ⟨b, 0, none⟩))) rfl (by kernel_rfl) (by kernel_rfl) (by kernel_rfl) (fun _ _ _ h => h) (Or.inl ⟨by rfl, fun w hw => by go_simp⟩) HC0.out ?_
      refine wpAnyH_take (i := 22) (v := (.pointer (some ⟨b, 0, none⟩))) rfl (by kernel_rfl) (by kernel_rfl) (by kernel_rfl) (fun _ _ _ h => h) (Or.inl ⟨by rfl, fun w hw => by go_simp⟩) HC0.out ?_
      refine wpAnyH_take (i := 23) (v := (.int .i64 ((c : Int) + 1))) rfl (by kernel_rfl) (by kernel_rfl) (by kernel_rfl) (fun _ _ _ h => h) (Or.inl ⟨by rfl, fun w hw => by go_simp⟩) HC0.out ?_
      simp only [Act.put]
      refine wpAnyH_take (i := 24) (v := (.int .i64 (k : Int))) rfl (by kernel_rfl) (by kernel_rfl) (by kernel_rfl) (fun _ _ _ h => h) (Or.inl ⟨by rfl, fun w hw => by go_simp⟩) HC0.out ?_
      refine wpAnyH_take (i := 25) (v := (.int .i64 ((k : Int) + 2))) rfl (by kernel_rfl) (by kernel_rfl) (by kernel_rfl) (fun _ _ _ h => h) (Or.inl ⟨by rfl, fun w hw => by go_simp⟩) HC0.out ?_
      refine wpAnyH_take (i := 26) (v := (.slice a2 (k + 2) p2)) rfl (by kernel_rfl) (by kernel_rfl) (by kernel_rfl) (fun _ _ _ h => h) (Or.inl ⟨by rfl, fun w hw => by go_simp⟩) HC0.out ?_
      refine wpAnyH_take (i := 27) (v := (.agg #[.int .i64 ((c : Int) + 1), .int .i64 ((k : Int) + 2), .slice a2 (k + 2) p2, .slice none 0 0, .slice none 0 0])) rfl (by kernel_rfl) (by kernel_rfl) (by kernel_rfl) (fun _ _ _ h => h) (Or.inl ⟨by rfl, fun w hw => by go_simp⟩) HC0.out ?_
      refine wpAnyH_take (i := 28) (v := (.pointer (some ⟨b, 0, none⟩))) rfl (by kernel_rfl) (by kernel_rfl) (by kernel_rfl) (fun _ _ _ h => h) (Or.inl ⟨by rfl, fun w hw => by go_simp⟩) HC0.out ?_
      refine wpAnyH_take (i := 29) (v := (.pointer (some ⟨b, 0, none⟩))) rfl (by kernel_rfl) (by kernel_rfl) (by kernel_rfl) (fun _ _ _ h => h) (Or.inl ⟨by rfl, fun w hw => by go_simp⟩) HC0.out ?_
      simp only [Act.put]
      refine wpAnyH_take (i := 30) (v := (.pointer (some ⟨b, 0, none⟩))) rfl (by kernel_rfl) (by kernel_rfl) (by kernel_rfl) (fun _ _ _ h => h) (Or.inl ⟨by rfl, fun w hw => by go_simp⟩) HC0.out ?_
      refine wpAnyH_take (i := 31) (v := (.int .i64 ((c : Int) + 1))) rfl (by kernel_rfl) (by kernel_rfl) (by kernel_rfl) (fun _ _ _ h => h) (Or.inl ⟨by rfl, fun w hw => by go_simp⟩) HC0.out ?_
      refine wpAnyH_take (i := 32) (v := (.int .i64 (k : Int))) rfl (by kernel_rfl) (by kernel_rfl) (by kernel_rfl) (fun _ _ _ h => h) (Or.inl ⟨by rfl, fun w hw => by go_simp⟩) HC0.out ?_
      refine wpAnyH_take (i := 33) (v := (.int .i64 ((k : Int) + 3))) rfl (by kernel_rfl) (by kernel_rfl) (by kernel_rfl) (fun _ _ _ h => h) (Or.inl ⟨by rfl, fun w hw => by go_simp⟩) HC0.out ?_
      refine wpAnyH_take (i := 34) (v := (.slice a3 (k + 3) p3)) rfl (by kernel_rfl) (by kernel_rfl) (by kernel_rfl) (fun _ _ _ h => h) (Or.inl ⟨by rfl, fun w hw => by go_simp⟩) HC0.out ?_
      refine wpAnyH_take (i := 35) (v := (.agg #[.int .i64 ((c : Int) + 1), .int .i64 ((k : Int) + 3), .slice a3 (k + 3) p3, .slice none 0 0, .slice none 0 0])) rfl (by kernel_rfl) (by kernel_rfl) (by kernel_rfl) (fun _ _ _ h => h) (Or.inl ⟨by rfl, fun w hw => by go_simp⟩) HC0.out ?_
      simp only [Act.put]
      refine wpAnyH_ready (rs := [4, 36]) (by kernel_rfl) (by simp) ?_
      refine AllReadyH.cons rfl (fun K hK => ?_) (AllReadyH.cons rfl (fun K hK => ?_) AllReadyH.nil)
      · go_simp
        refine hK.out _ _ HC0.out (fun _ => ?_)
        clear hK K
        refine wpAnyH_ready (rs := [36]) (by kernel_rfl) (by simp) ?_
        refine AllReadyH.cons rfl (fun K hK => ?_) AllReadyH.nil
        go_simp
        refine hK.out _ _ (by exact old_cell (w := w4) HC0.out _) (fun _ => ?_)
        clear hK K
        refine wpAnyH_ready (rs := [37]) (by kernel_rfl) (by simp) ?_
        refine AllReadyH.cons rfl (fun K hK => ?_) AllReadyH.nil
        refine step_append_many rfl (.tmp 53) (.tmp 85) 35 rfl B 72 _ 5 88 Tryd.underlying35 infoKept rfl (by decide) (.slice ka (4 * c) kc) (4 * c) (es.flatMap Ent.cells) rfl (by exact (HS4.out.own.alloc _).drew) ⟨w4.heap.size, 0, none⟩ 4 4 [.int .i64 ((c : Int) + 1), .int .i64 (k : Int), .slice lo k k, .slice none 0 0, .slice none 0 0, .int .i64 ((c : Int) + 1), .int .i64 ((k : Int) + 1), .slice a1 (k + 1) p1, .slice none 0 0, .slice none 0 0, .int .i64 ((c : Int) + 1), .int .i64 ((k : Int) + 2), .slice a2 (k + 2) p2, .slice none 0 0, .slice none 0 0, .int .i64 ((c : Int) + 1), .int .i64 ((k : Int) + 3), .slice a3 (k + 3) p3, .slice none 0 0, .slice none 0 0] rfl rfl (many_cells w4 72 _) (by intro u hu; simp only [List.mem_cons, List.not_mem_nil, or_false] at hu; rcases hu with h | h | h | h | h | h | h | h | h | h | h | h | h | h | h | h | h | h | h | h <;> (rw [h]; rfl)) (by unfold maxLen; omega) (by omega) (by simp; omega) ?_
        intro kv' w5 ho hg
        have hb41 : Below w4.heap.size w4 ((w4.alloc (.cells ([.int .i64 ((c : Int) + 1), .int .i64 (k : Int), .slice lo k k, .slice none 0 0, .slice none 0 0, .int .i64 ((c : Int) + 1), .int .i64 ((k : Int) + 1), .slice a1 (k + 1) p1, .slice none 0 0, .slice none 0 0, .int .i64 ((c : Int) + 1), .int .i64 ((k : Int) + 2), .slice a2 (k + 2) p2, .slice none 0 0, .slice none 0 0, .int .i64 ((c : Int) + 1), .int .i64 ((k : Int) + 3), .slice a3 (k + 3) p3, .slice none 0 0, .slice none 0 0] : List Value).toArray 72)).drew) := (below_alloc w4 _).drew
        have hblk5 := HS4.out.after hb41 hg
        obtain ⟨va, vc, rfl⟩ := owns_slice' ho
        have c05 := hblk5.cell_some (k := 0) rfl
        have c15 := hblk5.cell_some (k := 1) rfl
        have f15 := hblk5.free 1
        rw [← newsOf_cells] at ho
        have R := HS4.out.book hb41 hel rfl ho hg (fun e he => by
          obtain ⟨x1, x2, x3, x4⟩ := HNEW.out e he
          exact ⟨x1, x2, x3, x4.later hb41⟩)
        have HR : Hid _ := R
        have HC5 : Hid (w5.cell? ⟨b, 0, none⟩ = some (.int .i64 ((c : Int) + 1))) := c05
        have c06 : Hid ((w5.setCell ⟨b, 1, none⟩ (.slice va (4 * c + 4) vc)).cell? ⟨b, 0, none⟩ = some (.int .i64 ((c : Int) + 1))) := (hblk5.set 1 _).cell_some rfl
        clear R hblk5 hb41 hg ho c05
        refine hK.out _ _ HC5.out (fun _ => ?_)
        clear hK K
        refine wpAnyH_take (i := 38) (v := .pointer (some ⟨b, 0, none⟩)) rfl (by kernel_rfl) (by kernel_rfl) (by kernel_rfl) (fun _ _ _ h => h) (Or.inl ⟨by rfl, fun w hw => by go_simp⟩) HC5.out ?_
        refine wpAnyH_take (i := 39) (v := .pointer (some ⟨b, 1, none⟩)) rfl (by kernel_rfl) (by kernel_rfl) (by kernel_rfl) (fun _ _ _ h => h) (Or.inl ⟨by rfl, fun w hw => by go_simp⟩) HC5.out ?_
        simp only [Act.put]
        refine wpAnyH_ready (rs := [40]) (by kernel_rfl) (by simp) ?_
        refine AllReadyH.cons rfl (fun K hK => ?_) AllReadyH.nil
        go_simp
        refine hK.out _ _ c06.out (fun _ => ?_)
        clear hK K
        refine wpAnyH_done (by kernel_rfl) ?_ _
        go_wp2
        go_end0
        exact ⟨rfl, HR.out⟩
      · go_simp
        refine hK.out _ _ (by exact old_cell (w := w4) HC0.out _) (fun _ => ?_)
        clear hK K
        refine wpAnyH_ready (rs := [4]) (by kernel_rfl) (by simp) ?_
        refine AllReadyH.cons rfl (fun K hK => ?_) AllReadyH.nil
        go_simp
        refine hK.out _ _ (by exact old_cell (w := w4) HC0.out _) (fun _ => ?_)
        clear hK K
        refine wpAnyH_ready (rs := [37]) (by kernel_rfl) (by simp) ?_
        refine AllReadyH.cons rfl (fun K hK => ?_) AllReadyH.nil
        refine step_append_many rfl (.tmp 53) (.tmp 85) 35 rfl B 72 _ 5 88 Tryd.underlying35 infoKept rfl (by decide) (.slice ka (4 * c) kc) (4 * c) (es.flatMap Ent.cells) rfl (by exact (HS4.out.own.alloc _).drew) ⟨w4.heap.size, 0, none⟩ 4 4 [.int .i64 ((c : Int) + 1), .int .i64 (k : Int), .slice lo k k, .slice none 0 0, .slice none 0 0, .int .i64 ((c : Int) + 1), .int .i64 ((k : Int) + 1), .slice a1 (k + 1) p1, .slice none 0 0, .slice none 0 0, .int .i64 ((c : Int) + 1), .int .i64 ((k : Int) + 2), .slice a2 (k + 2) p2, .slice none 0 0, .slice none 0 0, .int .i64 ((c : Int) + 1), .int .i64 ((k : Int) + 3), .slice a3 (k + 3) p3, .slice none 0 0, .slice none 0 0] rfl rfl (many_cells w4 72 _) (by intro u hu; simp only [List.mem_cons, List.not_mem_nil, or_false] at hu; rcases hu with h | h | h | h | h | h | h | h | h | h | h | h | h | h | h | h | h | h | h | h <;> (rw [h]; rfl)) (by unfold maxLen; omega) (by omega) (by simp; omega) ?_
        intro kv' w5 ho hg
        have hb41 : Below w4.heap.size w4 ((w4.alloc (.cells ([.int .i64 ((c : Int) + 1), .int .i64 (k : Int), .slice lo k k, .slice none 0 0, .slice none 0 0, .int .i64 ((c : Int) + 1), .int .i64 ((k : Int) + 1), .slice a1 (k + 1) p1, .slice none 0 0, .slice none 0 0, .int .i64 ((c : Int) + 1), .int .i64 ((k : Int) + 2), .slice a2 (k + 2) p2, .slice none 0 0, .slice none 0 0, .int .i64 ((c : Int) + 1), .int .i64 ((k : Int) + 3), .slice a3 (k + 3) p3, .slice none 0 0, .slice none 0 0] : List Value).toArray 72)).drew) := (below_alloc w4 _).drew
        have hblk5 := HS4.out.after hb41 hg
        obtain ⟨va, vc, rfl⟩ := owns_slice' ho
        have c05 := hblk5.cell_some (k := 0) rfl
        have c15 := hblk5.cell_some (k := 1) rfl
        have f15 := hblk5.free 1
        rw [← newsOf_cells] at ho
        have R := HS4.out.book hb41 hel rfl ho hg (fun e he => by
          obtain ⟨x1, x2, x3, x4⟩ := HNEW.out e he
          exact ⟨x1, x2, x3, x4.later hb41⟩)
        have HR : Hid _ := R
        have HC5 : Hid (w5.cell? ⟨b, 0, none⟩ = some (.int .i64 ((c : Int) + 1))) := c05
        have c06 : Hid ((w5.setCell ⟨b, 1, none⟩ (.slice va (4 * c + 4) vc)).cell? ⟨b, 0, none⟩ = some (.int .i64 ((c : Int) + 1))) := (hblk5.set 1 _).cell_some rfl
        clear R hblk5 hb41 hg ho c05
        refine hK.out _ _ HC5.out (fun _ => ?_)
        clear hK K
        refine wpAnyH_take (i := 38) (v := .pointer (some ⟨b, 0, none⟩)) rfl (by kernel_rfl) (by kernel_rfl) (by kernel_rfl) (fun _ _ _ h => h) (Or.inl ⟨by rfl, fun w hw => by go_simp⟩) HC5.out ?_
        refine wpAnyH_take (i := 39) (v := .pointer (some ⟨b, 1, none⟩)) rfl (by kernel_rfl) (by kernel_rfl) (by kernel_rfl) (fun _ _ _ h => h) (Or.inl ⟨by rfl, fun w hw => by go_simp⟩) HC5.out ?_
        simp only [Act.put]
        refine wpAnyH_ready (rs := [40]) (by kernel_rfl) (by simp) ?_
        refine AllReadyH.cons rfl (fun K hK => ?_) AllReadyH.nil
        go_simp
        refine hK.out _ _ c06.out (fun _ => ?_)
        clear hK K
        refine wpAnyH_done (by kernel_rfl) ?_ _
        go_wp2
        go_end0
        exact ⟨rfl, HR.out⟩
end Go.Proofs.YtlnpppdffhibjaaDoor.Book

namespace Go.Proofs.YtlnpppdffhibjaaDoor.Book
open Go.RowKit Mem FieldWalks Tab ByTab Parts

set_option maxRecDepth 100000 in
set_option maxHeartbeats 1000000 in
theorem full_any (n size N : Nat) (tv : Value) (w : World) (h : Ent.ok w N ⟨n, size, tv⟩) :
    Calls Tryd.prog 44 #[.agg #[.int .i64 n, .int .i64 size, tv, .slice none 0 0, .slice none 0 0]] w fun e w' => e = .returned (.bool true) ∧ Below w.heap.size w w' := by
  have h1 : 1 ≤ n := h.1
  have h2 : n ≤ 9 := h.2.1
  have h3 : size ≤ 100 := h.2.2.1
  have h5 : StrsAt w tv (List.replicate size (markS n)) := h.2.2.2.at
  obtain ⟨ao, cap, htv, hcell⟩ := h5
  rw [List.length_replicate] at htv
  subst htv
  have hne : ((size : Int) != (size : Int)) = false := by simp
  have HC : Hid (List.replicate size (markS n) = [] ∨ ∃ b off, ao = some ⟨b, off, none⟩ ∧ b < w.heap.size ∧ ∀ k, (h : k < (List.replicate size (markS n)).length) → w.cell? ⟨b, off + k, none⟩ = some (.string (List.replicate size (markS n))[k])) := hcell
  clear h hcell
  go_enter Tryd.func44, Tryd.ntmps44
  go_wp2_with fail
  refine (mark_any n h1 h2 _).mono ?_
  rintro e w1 ⟨rfl, hw1⟩
  obtain ⟨q, hq⟩ : ∃ q, q = markS n := ⟨_, rfl⟩
  rw [← hq]
  rw [← hq] at HC
  clear hq
  have hK0 := (Blk.new w #[.int .i64 n, .int .i64 size, .slice ao size cap, .slice none 0 0, .slice none 0 0] 72).to hw1
  have hbel : Below w.heap.size w w1 := (((Below.refl _ _).alloc (Nat.le_refl _) _)).trans (hw1.mono (by simp))
  have k2 := hK0.cell_some (k := 2) rfl
  have k3 := hK0.cell_some (k := 3) rfl
  have k4 := hK0.cell_some (k := 4) rfl
  clear hK0 hw1
  go_wp2
  go_loop [4, 5] (fun o i => ∃ k : Nat, k ≤ size ∧ i = .int .i64 k ∧ o = .bool true) (fun _ i => size - (intOf i).toNat)
  case atStart => exact ⟨0, Nat.zero_le _, rfl, rfl⟩
  case round =>
    obtain ⟨k, hk, rfl, rfl⟩ := hrel
    by_cases hlt : k < size
    · obtain ⟨b, off, rfl, hb, hc⟩ : ∃ b off, ao = some ⟨b, off, none⟩ ∧ b < w.heap.size ∧ ∀ k, (h : k < (List.replicate size q).length) → w.cell? ⟨b, off + k, none⟩ = some (.string (List.replicate size q)[k]) := by
        rcases HC.out with h | h
        · have := congrArg List.length h; simp at this; omega
        · exact h
      have c1 := hc k (by simpa using hlt)
      rw [List.getElem_replicate, ← hbel.cell (p := ⟨b, off + k, none⟩) hb] at c1
      clear hc
      go_wp2
      go_round
      case rel => exact ⟨k + 1, by omega, by go_num, rfl⟩
      case measure => simp [intOf]; omega
    · obtain rfl : k = size := by omega
      go_wp2
      refine wp_loop_rounds 1 ?_
      rw [rounds_succ]
      go_wp2
      refine wp_loop_rounds 1 ?_
      rw [rounds_succ]
      go_wp2
      go_ret
      exact ⟨rfl, hbel⟩

theorem flat_get (es : List Ent) : ∀ (k r : Nat) (h : k < es.length), r < 5 → (es.flatMap Ent.cells)[k * 5 + r]? = (es[k].cells)[r]? := by
  induction es with
  | nil => intro k r h; simp at h
  | cons e es ih =>
    intro k r h hr
    have hl : e.cells.length = 5 := rfl
    rw [List.flatMap_cons]
    cases k with
    | zero => rw [Nat.zero_mul, Nat.zero_add, List.getElem?_append_left (by omega)]; rfl
    | succ k =>
      rw [List.getElem?_append_right (by omega), show (k + 1) * 5 + r - e.cells.length = k * 5 + r by omega]
      exact ih k r (by simpa using h) hr
/-- The five cells of an entry. -/
theorem ent_cells {w : World} {B c : Nat} {ka : Option Addr} {kc : Nat} {es : List Ent} (hown : w.ownsRow B 72 5 (.slice ka (4 * c) kc) (4 * c) (es.flatMap Ent.cells)) (hel : es.length = 4 * c) (k : Nat) (hk : k < 4 * c) :
    ∃ g, ka = some ⟨g, 0, none⟩ ∧ g < w.heap.size ∧ ∀ r, r < 5 → w.cell? ⟨g, k * 5 + r, none⟩ = ((es[k]'(by omega)).cells)[r]? := by
  rcases hown.2 with ⟨_, h0⟩ | ⟨g, cap, cur, hv, hg, hh, _, _, _, ht⟩
  · omega
  · injection hv with h1 h2 h3
    refine ⟨g, h1, lt_of_block hh, fun r hr => ?_⟩
    rw [cell_of_row w g _ cur _ _ hh, ← flat_get es k r (by omega) hr, ← ht, List.getElem?_take_of_lt (by omega)]
    simp

set_option maxRecDepth 100000 in
set_option maxHeartbeats 1000000 in
theorem looks_any (B b c N : Nat) (w : World) (h : BookAt w B b c N) (hc : c ≤ 9) :
    Calls Tryd.prog 23 #[.pointer (some ⟨b, 0, none⟩)] w fun e w' => e = .returned (.bool true) ∧ Below w.heap.size w w' := by
  obtain ⟨hB, kv, es, hel, hblk, hown, hes⟩ := h
  obtain ⟨ka, kc, rfl⟩ : ∃ ao c', kv = .slice ao (4 * c) c' := by
    rcases hown.2 with ⟨rfl, h0⟩ | ⟨g, cap, cur, rfl, _⟩
    · rw [h0]; exact ⟨_, _, rfl⟩
    · exact ⟨_, _, rfl⟩
  have HBLK : Hid (Blk w b 37 [.int .i64 c, .slice ka (4 * c) kc]) := hblk
  have HOWN : Hid (w.ownsRow B 72 5 (.slice ka (4 * c) kc) (4 * c) (es.flatMap Ent.cells)) := hown
  have HES : Hid (∀ e, e ∈ es → e.ok w N) := hes
  clear hblk hown hes
  go_enter Tryd.func23, Tryd.ntmps23
  go_wp2
  go_loopw [3] (fun i wr => ∃ k : Nat, k ≤ 4 * c ∧ i = .int .i64 k ∧ Below w.heap.size w wr) (fun i _ => 4 * c - (intOf i).toNat)
  case atStart => exact ⟨0, Nat.zero_le _, rfl, Below.refl _ _⟩
  case round =>
    obtain ⟨k, hk, rfl, hbel⟩ := hrel
    have hb1 := HBLK.out.to hbel
    have c1 := hb1.cell_some (k := 1) rfl
    clear hb1
    have e4 : ((4 * c : Nat) : Int) = 4 * (c : Int) := by omega
    by_cases hlt : k < 4 * c
    · obtain ⟨g, rfl, hglt, hce⟩ := ent_cells HOWN.out hel k hlt
      have hok := HES.out (es[k]'(by omega)) (List.getElem_mem _)
      generalize es[k]'(by omega) = en at hce hok
      obtain ⟨n, size, tv⟩ := en
      have d0 := (hbel.cell (p := ⟨g, k * 5 + 0, none⟩) hglt).trans (hce 0 (by decide))
      have d1 := (hbel.cell (p := ⟨g, k * 5 + 1, none⟩) hglt).trans (hce 1 (by decide))
      have d2 := (hbel.cell (p := ⟨g, k * 5 + 2, none⟩) hglt).trans (hce 2 (by decide))
      have d3 := (hbel.cell (p := ⟨g, k * 5 + 3, none⟩) hglt).trans (hce 3 (by decide))
      have d4 := (hbel.cell (p := ⟨g, k * 5 + 4, none⟩) hglt).trans (hce 4 (by decide))
      simp only [Ent.cells, List.getElem?_cons_zero, List.getElem?_cons_succ, Nat.add_zero] at d0 d1 d2 d3 d4
      have hok1 : Ent.ok wr wr.heap.size ⟨n, size, tv⟩ := by
        obtain ⟨x1, x2, x3, x4⟩ := hok
        refine ⟨x1, x2, x3, ?_⟩
        obtain ⟨ao, cap, h, hx⟩ := x4
        refine ⟨ao, cap, h, ?_⟩
        rcases hx with hx | ⟨g', off, cur, h1', _, hg', r⟩
        · exact .inl hx
        · exact .inr ⟨g', off, cur, h1', Nat.lt_of_lt_of_le (lt_of_block hg') hbel.size, (hbel.block g' (lt_of_block hg')).trans hg', r⟩
      have HOK : Hid (Ent.ok wr wr.heap.size ⟨n, size, tv⟩) := hok1
      clear hok hok1 hce
      go_wp2_with fail
      refine (full_any n size _ tv _ HOK.out).mono ?_
      rintro e w2 ⟨rfl, hw2⟩
      go_wp2
      go_roundw
      case rel => exact ⟨k + 1, by omega, by go_num, hbel.trans (hw2.mono hbel.size)⟩
      case measure => simp [intOf]; omega
    · have hge : 4 * (c : Int) ≤ (k : Int) := by omega
      go_wp2
      go_ret
      exact ⟨rfl, hbel⟩
end Go.Proofs.YtlnpppdffhibjaaDoor.Book

namespace Go.Proofs.YtlnpppdffhibjaaDoor.Top
open Go.RowKit Mem FieldWalks Tab ByTab Parts Book

theorem StrsAt.of_blk {w : World} {b : Nat} {ss : List ByteArray} (h : Blk w b 9 (strV ss)) (n cap : Nat) (hn : n = ss.length) : StrsAt w (.slice (some ⟨b, 0, none⟩) n cap) ss := by
  subst hn
  exact ⟨_, _, rfl, .inr ⟨b, 0, rfl, h.lt, fun k hk => by rw [Nat.zero_add]; exact h.cell_some (by simp [strV, hk])⟩⟩
theorem below_drew {w : World} (n : Nat) : Below w.heap.size w (w.drewN n) := below_drewN (Below.refl _ _) n
theorem table_below {w w' : World} {B : Nat} (h : Table w) (hb : Below B w w') (hB : 0 < B) : Table w' := by
  intro k hk
  rw [hb.cell (p := ⟨0, k, none⟩) hB]; exact h k hk

set_option maxRecDepth 100000 in
set_option maxHeartbeats 1000000 in
theorem bspread_ok (hS : SumsOk) (B b c : Nat) (d s x : Nat) (str : ByteArray) (hd : 1 ≤ d) (hd2 : d ≤ 10) (hs : s ≤ 6) (hx : x ≤ 2) (hn : str.size ≤ 400) (w : World) (ht : Table w) (hbook : BookAt w B b c w.heap.size) (hc : c ≤ 8) :
    Calls Tryd.prog 22 #[.pointer (some ⟨b, 0, none⟩), .int .i64 d, .int .i64 s, .int .i64 x, .string str] w fun e w' => e = .returned (.bool true) ∧ BookAt w' B b (c + 1) w'.heap.size ∧ Below B w w' := by
  have HB : Hid (BookAt w B b c w.heap.size) := hbook
  have hBb := hbook.1
  have hblt : b < w.heap.size := by obtain ⟨_, kv, es, _, h, _⟩ := hbook; exact h.lt
  clear hbook
  go_enter Tryd.func22, Tryd.ntmps22
  go_wp2_with fail
  refine (wSpread_ok hS d s x str hd hd2 hs hx hn _ ht).mono ?_
  rintro e w1 ⟨lb, hlb, rfl, hblk, hb1⟩
  go_wp2_with fail
  refine (Ref.rSpread_ok d s x str _ hd hd2 hs hx hn rfl _).mono ?_
  rintro e w2 ⟨v, rfl, hst, hb2⟩
  have hblk2 := hblk.to hb2
  have hst1 := StrsAt.of_blk hblk2 (d + s) (d + s) (by rw [pieces_length])
  have hst2 : StrsAt w2 v (pieces d s str) := hst
  clear hblk hst
  go_wp2_with fail
  refine (sameT_yes (pieces d s str) _ _ _ hst1 hst2 (by rw [pieces_length]; omega)).mono ?_
  rintro e w3 ⟨rfl, nq, rfl⟩
  have hb02 := hb1.trans (hb2.mono hb1.size)
  have hb3 : Below w.heap.size w (w2.drewN nq) := below_drewN hb02 nq
  have hbk3 := (HB.out.to hb3).mono (M := lb) hlb
  clear hst1 hst2
  have htx := texts_any B b c lb (d + s) (some ⟨lb, 0, none⟩) (strV (pieces d s str)) (w2.drewN nq) hbk3 hc (by omega) (by omega) (by simp [strV, pieces_length]) (.inr ⟨rfl, hblk2⟩)
  clear hbk3 hblk2
  go_wp2_with fail
  refine Calls.mono htx ?_
  rintro e w4 ⟨rfl, hbk4, hb4⟩
  have hB : B ≤ w.heap.size := by omega
  have hb04 := (hb3.mono hB).trans hb4
  clear htx
  go_wp2_with fail
  refine (num_any _ _).mono ?_
  rintro e w' ⟨rfl, rfl⟩
  go_wp2
  go_ret
  exact ⟨rfl, hbk4, hb04⟩

set_option maxRecDepth 100000 in
set_option maxHeartbeats 1000000 in
theorem bspread_no (B b c : Nat) (d s x : Int) (str : ByteArray) (hlen : str.size ≤ maxLen) (hE : spreadE d s x str.size ≠ 0) (w : World) (hbook : BookAt w B b c w.heap.size) (hc : c ≤ 8) :
    Calls Tryd.prog 22 #[.pointer (some ⟨b, 0, none⟩), .int .i64 d, .int .i64 s, .int .i64 x, .string str] w fun e w' => e = .returned (.bool true) ∧ BookAt w' B b (c + 1) w'.heap.size ∧ Below B w w' := by
  have hblt : b < w.heap.size := by obtain ⟨_, kv, es, _, h, _⟩ := hbook; exact h.lt
  have hBb := hbook.1
  have HB : Hid (BookAt w B b c w.heap.size) := hbook
  have HL : Hid (str.size ≤ maxLen) := hlen
  have HE : Hid (spreadE d s x str.size ≠ 0) := hE
  obtain ⟨er, her⟩ : ∃ er, er = spreadE d s x str.size := ⟨_, rfl⟩
  have w1 := wSpread_no d s x str hlen hE
  have w2 := rSpread_no d s x str hlen hE
  rw [← her] at w1 w2
  have W1 : Hid _ := w1
  have W2 : Hid _ := w2
  clear hbook hlen hE her w1 w2
  go_enter Tryd.func22, Tryd.ntmps22
  go_wp2_with fail
  refine Calls.mono (W1.out _) ?_
  rintro e w' ⟨rfl, rfl⟩
  go_wp2_with fail
  refine Calls.mono (W2.out _) ?_
  rintro e w' ⟨rfl, rfl⟩
  have hs0 : StrsAt w' (.slice none 0 0) [] := ⟨none, 0, rfl, .inl rfl⟩
  go_wp2_with fail
  refine (sameT_yes [] _ _ _ hs0 hs0 (by simp)).mono ?_
  rintro e w3 ⟨rfl, nq, rfl⟩
  have hb3 : Below w'.heap.size w' (w'.drewN nq) := below_drew nq
  have hbk3 := HB.out.to hb3
  clear hs0
  have htx := texts_any B b c w'.heap.size 0 none [] (w'.drewN nq) hbk3 hc (by omega) (by omega) rfl (.inl ⟨rfl, rfl⟩)
  clear hbk3
  go_wp2_with fail
  refine Calls.mono htx ?_
  rintro e w4 ⟨rfl, hbk4, hb4⟩
  have hb04 := (hb3.mono (by omega)).trans hb4
  clear htx
  go_wp2_with fail
  refine (num_any _ _).mono ?_
  rintro e w' ⟨rfl, rfl⟩
  go_wp2
  go_ret
  exact ⟨rfl, hbk4, hb04⟩
theorem bspread_any (hS : SumsOk) (B b c : Nat) (d s x : Int) (str : ByteArray) (hlen : str.size ≤ maxLen) (w : World) (ht : Table w) (hbook : BookAt w B b c w.heap.size) (hc : c ≤ 8) :
    Calls Tryd.prog 22 #[.pointer (some ⟨b, 0, none⟩), .int .i64 d, .int .i64 s, .int .i64 x, .string str] w fun e w' => e = .returned (.bool true) ∧ BookAt w' B b (c + 1) w'.heap.size ∧ Below B w w' := by
  by_cases hE : spreadE d s x str.size = 0
  · have h1 : okCounts d s = true := by
      cases h : okCounts d s
      · simp [spreadE, h] at hE
      · rfl
    have h2 : okWay x = true := by
      cases h : okWay x
      · simp [spreadE, h1, h] at hE
      · rfl
    have h3 : str.size ≤ 400 := by
      by_cases h : 400 < str.size
      · simp [spreadE, h1, h2, h] at hE
      · omega
    have h1' := of_decide_eq_true h1
    have h2' := of_decide_eq_true h2
    obtain ⟨d, rfl⟩ := Int.eq_ofNat_of_zero_le (show 0 ≤ d by omega)
    obtain ⟨s, rfl⟩ := Int.eq_ofNat_of_zero_le (show 0 ≤ s by omega)
    obtain ⟨x, rfl⟩ := Int.eq_ofNat_of_zero_le (show 0 ≤ x by omega)
    exact bspread_ok hS B b c d s x str (by omega) (by omega) (by omega) (by omega) h3 w ht hbook hc
  · exact bspread_no B b c d s x str hlen hE w hbook hc

theorem pieces_ex : pieces 2 1 ⟨#[1, 1]⟩ = [⟨#[1]⟩, ⟨#[1]⟩, ⟨#[122]⟩] := by decide +kernel

set_option maxRecDepth 100000 in
set_option maxHeartbeats 1000000 in
theorem spreads_any (hS : SumsOk) (d s x : Int) (str : ByteArray) (hlen : str.size ≤ maxLen) (w : World) (ht : Table w) (h0 : 0 < w.heap.size) :
    Calls Tryd.prog 5 #[.int .i64 d, .int .i64 s, .int .i64 x, .string str] w fun e w' => e = .returned (.bool true) ∧ Below w.heap.size w w' := by
  have HL : Hid (str.size ≤ maxLen) := hlen
  clear hlen
  go_enter Tryd.func5, Tryd.ntmps5
  have hb0 : BookAt (w.alloc (.cells #[.int .i64 0, .slice none 0 0] 37)) w.heap.size w.heap.size 0 (w.alloc (.cells #[.int .i64 0, .slice none 0 0] 37)).heap.size := BookAt.start w _ (Nat.le_refl _) _
  have ht1 := table_to ht (below_alloc w (.cells #[.int .i64 0, .slice none 0 0] 37))
  have hw0 : Below w.heap.size w (w.alloc (.cells #[.int .i64 0, .slice none 0 0] 37)) := below_alloc w _
  have hex := wSpread_ok hS 2 1 0 ⟨#[1, 1]⟩ (by omega) (by omega) (by omega) (by omega) (by decide) (w.alloc (.cells #[.int .i64 0, .slice none 0 0] 37)) ht1
  have HB0 : Hid _ := hb0
  have HW0 : Hid _ := hw0
  have HT : Hid (Table w) := ht
  clear hb0 ht1 hw0 ht
  go_wp2_with fail
  refine Calls.mono hex ?_
  rintro e w1 ⟨lb, hlb, rfl, hblk, hb1⟩
  have hbk1 := BookAt.to HB0.out hb1
  have hb01 := HW0.out.trans (hb1.mono HW0.out.size)
  have hpx : pieces 2 1 ⟨#[1, 1]⟩ = [⟨#[1]⟩, ⟨#[1]⟩, ⟨#[122]⟩] := pieces_ex
  rw [hpx] at hblk
  clear hex hpx
  have hbA : Below w1.heap.size w1 (w1.alloc (.cells #[.string ⟨#[1]⟩, .string ⟨#[1]⟩, .string ⟨#[122]⟩] 9)) := below_alloc w1 _
  have hsA : StrsAt (w1.alloc (.cells #[.string ⟨#[1]⟩, .string ⟨#[1]⟩, .string ⟨#[122]⟩] 9)) (.slice (some ⟨lb, 0, none⟩) 3 3) [⟨#[1]⟩, ⟨#[1]⟩, ⟨#[122]⟩] := (StrsAt.of_blk (w := w1) hblk 3 3 rfl).to hbA
  have hsB : StrsAt (w1.alloc (.cells #[.string ⟨#[1]⟩, .string ⟨#[1]⟩, .string ⟨#[122]⟩] 9)) (.slice (some ⟨w1.heap.size, 0, none⟩) 3 3) [⟨#[1]⟩, ⟨#[1]⟩, ⟨#[122]⟩] := StrsAt.of_blk (Blk.new w1 _ _) 3 3 rfl
  have hsame := sameT_yes [⟨#[1]⟩, ⟨#[1]⟩, ⟨#[122]⟩] _ _ _ hsA hsB (by decide)
  have HBA : Hid (Below w1.heap.size w1 (w1.alloc (.cells #[.string ⟨#[1]⟩, .string ⟨#[1]⟩, .string ⟨#[122]⟩] 9))) := hbA
  have HBL : Hid (Blk w1 lb 9 (strV [⟨#[1]⟩, ⟨#[1]⟩, ⟨#[122]⟩])) := hblk
  have HBK : Hid (BookAt w1 w.heap.size w.heap.size 0 (w.alloc (.cells #[.int .i64 0, .slice none 0 0] 37)).heap.size) := hbk1
  clear hsA hsB hbA hblk hbk1
  go_wp2_with fail
  refine Calls.mono hsame ?_
  rintro e w2 ⟨rfl, nq, rfl⟩
  clear hsame
  have hb12 : Below w1.heap.size w1 ((w1.alloc (.cells #[.string ⟨#[1]⟩, .string ⟨#[1]⟩, .string ⟨#[122]⟩] 9)).drewN nq) := below_drewN HBA.out nq
  have hblk2 := HBL.out.to hb12
  have hbk2 := HBK.out.to hb12
  have hb02 := hb01.trans (hb12.mono hb01.size)
  generalize (w1.alloc (.cells #[.string ⟨#[1]⟩, .string ⟨#[1]⟩, .string ⟨#[122]⟩] 9)).drewN nq = w2 at *
  clear hb12
  go_wp2_with fail
  refine (num_any _ _).mono ?_
  rintro e w' ⟨rfl, rfl⟩
  have hlb' : w.heap.size + 1 ≤ lb := by simpa using hlb
  have htx := texts_any w.heap.size w.heap.size 0 lb 3 (some ⟨lb, 0, none⟩) _ w' (hbk2.mono (M := lb) (by simpa using hlb)) (by omega) (by omega) (by omega) rfl (.inr ⟨rfl, hblk2⟩)
  clear hbk2 hblk2
  go_wp2_with fail
  refine Calls.mono htx ?_
  rintro e w3 ⟨rfl, hbk3, hb3⟩
  have hb03 := hb02.trans hb3
  clear htx
  have hT3 := table_below HT.out hb03 h0
  have hs1 := bspread_any hS w.heap.size w.heap.size 1 d s x str HL.out w3 hT3 hbk3 (by omega)
  clear hbk3
  go_wp2_with fail
  refine Calls.mono hs1 ?_
  rintro e w4 ⟨rfl, hbk4, hb4⟩
  have hb04 := hb03.trans hb4
  clear hs1 hT3
  have hT4 := table_below HT.out hb04 h0
  have hs2 := bspread_any hS w.heap.size w.heap.size 2 d s x str HL.out w4 hT4 hbk4 (by omega)
  clear hbk4
  go_wp2_with fail
  refine Calls.mono hs2 ?_
  rintro e w5 ⟨rfl, hbk5, hb5⟩
  have hb05 := hb04.trans hb5
  clear hs2 hT4
  have hlk := looks_any _ _ _ _ w5 hbk5 (by omega)
  clear hbk5
  go_wp2_with fail
  refine Calls.mono hlk ?_
  rintro e w6 ⟨rfl, hb6⟩
  have hb06 := hb05.trans (hb6.mono hb05.size)
  clear hlk
  go_wp2
  go_ret
  exact ⟨rfl, hb06⟩
end Go.Proofs.YtlnpppdffhibjaaDoor.Top

namespace Go.Proofs.YtlnpppdffhibjaaDoor.KeepW
open Go.RowKit Mem FieldWalks Tab ByTab Parts Ref Top

/-- A text of at most MaxText bytes. -/
def shortS (s : ByteArray) : ByteArray := if 400 < s.size then s.extract 0 400 else s
theorem shortS_size (s : ByteArray) : (shortS s).size ≤ 400 := by
  unfold shortS
  split
  · rw [ByteArray.size_extract]; omega
  · omega
set_option maxRecDepth 100000 in
theorem short_any (s : ByteArray) (w : World) : Calls Tryd.prog 55 #[.string s] w fun e w' => e = .returned (.string (shortS s)) ∧ w' = w := by
  by_cases h : 400 < s.size
  · have e0 : Hid (shortS s = s.extract 0 400) := if_pos h
    have e1 : decide ((400 : Int) < (s.size : Int)) = true := decide_eq_true (by omega)
    have e2 : (400 : Int) ≤ (s.size : Int) := by omega
    go_enter Tryd.func55, Tryd.ntmps55
    go_wp2
    go_ret
    exact ⟨by rw [e0.out]; rfl, rfl⟩
  · have e0 : Hid (shortS s = s) := if_neg h
    have e1 : decide ((400 : Int) < (s.size : Int)) = false := decide_eq_false (by omega)
    go_enter Tryd.func55, Tryd.ntmps55
    go_wp2
    go_ret
    exact ⟨by rw [e0.out]; rfl, rfl⟩

/-- What spread answers: counts, a text, its pieces. -/
structure Spr (w : World) (base b d s : Nat) (T : ByteArray) (lb : Nat) : Prop where
  obj : Blk w b 55 [.int .i64 (d : Nat), .int .i64 (s : Nat), .string T, .slice (some ⟨lb, 0, none⟩) (d + s) (d + s)]
  list : Blk w lb 9 (strV (pieces d s T))
  bb : base ≤ b
  bl : base ≤ lb
theorem Spr.to {w w' : World} {base b d s lb : Nat} {T : ByteArray} (h : Spr w base b d s T lb) (hb : Below w.heap.size w w') : Spr w' base b d s T lb := ⟨h.obj.to hb, h.list.to hb, h.bb, h.bl⟩

set_option maxRecDepth 100000 in
set_option maxHeartbeats 2000000 in
theorem kspread_any (hS : SumsOk) (data spare way : Int) (text : ByteArray) (w : World) (ht : Table w) (hw0 : 0 < w.heap.size) (hd1 : -9223372036854775808 ≤ data) (hd2 : data ≤ 9223372036854775807) (hs1 : -9223372036854775808 ≤ spare) (hs2 : spare ≤ 9223372036854775807) (hx1 : -9223372036854775808 ≤ way) (hx2 : way ≤ 9223372036854775807) :
    Calls Tryd.prog 28 #[.int .i64 data, .int .i64 spare, .int .i64 way, .string text] w fun e w' =>
      ∃ b lb, e = .returned (.pointer (some ⟨b, 0, none⟩)) ∧ Spr w' w.heap.size b (1 + pickI data 10) (pickI spare 7) (shortS text) lb ∧ Below w.heap.size w w' := by
  obtain ⟨d, hd⟩ : ∃ d, d = 1 + pickI data 10 := ⟨_, rfl⟩
  obtain ⟨d', hd'⟩ : ∃ d', d' = pickI data 10 := ⟨_, rfl⟩
  obtain ⟨s, hs⟩ : ∃ s, s = pickI spare 7 := ⟨_, rfl⟩
  obtain ⟨x, hx⟩ : ∃ x, x = pickI way 3 := ⟨_, rfl⟩
  obtain ⟨T, hT⟩ : ∃ T, T = shortS text := ⟨_, rfl⟩
  have b1 := pickI_lt data 10 (by omega)
  have b2 := pickI_lt spare 7 (by omega)
  have b3 := pickI_lt way 3 (by omega)
  have hTs : T.size ≤ 400 := by rw [hT]; exact shortS_size _
  have P1 : Hid (∀ W, Calls Tryd.prog 16 #[.int .i64 data, .int .i64 10] W fun e w' => e = .returned (.int .i64 (d' : Nat)) ∧ w' = W) := by
    intro W; rw [hd']; exact kpick_any data 10 W (by omega) (by omega) hd1 hd2
  have P2 : Hid (∀ W, Calls Tryd.prog 16 #[.int .i64 spare, .int .i64 7] W fun e w' => e = .returned (.int .i64 (s : Nat)) ∧ w' = W) := by
    intro W; rw [hs]; exact kpick_any spare 7 W (by omega) (by omega) hs1 hs2
  have P3 : Hid (∀ W, Calls Tryd.prog 16 #[.int .i64 way, .int .i64 3] W fun e w' => e = .returned (.int .i64 (x : Nat)) ∧ w' = W) := by
    intro W; rw [hx]; exact kpick_any way 3 W (by omega) (by omega) hx1 hx2
  have P4 : Hid (∀ W, Calls Tryd.prog 55 #[.string text] W fun e w' => e = .returned (.string T) ∧ w' = W) := by
    intro W; rw [hT]; exact short_any text W
  rw [← hd, ← hs, ← hT]
  have hd10 : d ≤ 10 := by omega
  have hd0 : 1 ≤ d := by omega
  have hs6 : s ≤ 6 := by omega
  have hx2' : x ≤ 2 := by omega
  have hdd : 1 + (d' : Int) = (d : Int) := by omega
  have hd'10 : d' ≤ 10 := by omega
  clear hd hs hx hT b1 b2 b3 hd'
  go_enter Tryd.func28, Tryd.ntmps28
  go_wp2_with fail
  refine (P1.out _).mono ?_
  rintro e w' ⟨rfl, rfl⟩
  go_wp2_with fail
  refine (P2.out _).mono ?_
  rintro e w' ⟨rfl, rfl⟩
  go_wp2_with fail
  refine (P4.out _).mono ?_
  rintro e w' ⟨rfl, rfl⟩
  go_wp2_with fail
  obtain ⟨w1, hw1⟩ : ∃ w1, w1 = w'.alloc (.cells #[.int .i64 (d : Int), .int .i64 (s : Int), .string T, .slice none 0 0] 55) := ⟨_, rfl⟩
  have hobj : Blk w1 w'.heap.size 55 [.int .i64 (d : Int), .int .i64 (s : Int), .string T, .slice none 0 0] := by rw [hw1]; exact Blk.new w' _ _
  have hb1 : Below w'.heap.size w' w1 := by rw [hw1]; exact (Below.refl _ _).alloc (Nat.le_refl _) _
  rw [← hw1]
  have s0 := hobj.cell_some (k := 0) rfl
  have s1 := hobj.cell_some (k := 1) rfl
  have s2 := hobj.cell_some (k := 2) rfl
  have hwl : w'.heap.size < w1.heap.size := hobj.lt
  have HOBJ : Hid (Blk w1 w'.heap.size 55 [.int .i64 (d : Int), .int .i64 (s : Int), .string T, .slice none 0 0]) := hobj
  have HB1 : Hid (Below w'.heap.size w' w1) := hb1
  have ht1 : Table w1 := table_below ht hb1 hw0
  have HSP : Hid (Calls Tryd.prog 19 #[.int .i64 d, .int .i64 s, .int .i64 x, .string T] w1.drew fun e w2 => ∃ b, w1.heap.size ≤ b ∧ e = .returned (.tuple #[.slice (some ⟨b, 0, none⟩) (d + s) (d + s), .int .i64 0]) ∧ Blk w2 b 9 (strV (pieces d s T)) ∧ Below w1.heap.size w1.drew w2) := wSpread_ok hS d s x T hd0 hd10 hs6 hx2' hTs w1.drew ht1
  clear hw1 hobj hb1
  obtain ⟨B, hBe⟩ : ∃ B, B = w'.heap.size := ⟨_, rfl⟩
  rw [← hBe] at s0 s1 s2 hwl HOBJ ⊢
  have HBE : Hid (B = w'.heap.size) := hBe
  clear hBe
  go_region_held3 (fun wx => wx.cell? ⟨B, 0, none⟩ = some (.int .i64 (d : Int)) ∧ wx.cell? ⟨B, 1, none⟩ = some (.int .i64 (s : Int)) ∧ wx.cell? ⟨B, 2, none⟩ = some (.string T)) (go_keep) (first | (go_at_call 16; refine (P3.out _).mono ?_; rintro e w2 ⟨rfl, rfl⟩) | (go_at_call 19; refine Calls.mono HSP.out ?_; rintro e w2 ⟨lb, hlb, rfl, hlist, hb2⟩; have t0 := (hb2.cell (p := ⟨B, 0, none⟩) hwl).trans s0; have t1 := (hb2.cell (p := ⟨B, 1, none⟩) hwl).trans s1; have t2 := (hb2.cell (p := ⟨B, 2, none⟩) hwl).trans s2))
  obtain ⟨ps, hps⟩ : ∃ ps, ps = cuts (nums T) d ((T.size + d - 1) / d) := ⟨_, rfl⟩
  obtain ⟨L, hL⟩ : ∃ L, L = (T.size + d - 1) / d := ⟨_, rfl⟩
  have hLs : L ≤ 400 := by have := ceil_le T.size d hd0; omega
  have hTL : T.size ≤ d * L := by rw [hL]; exact ceil_mul T.size d (by omega)
  have eL : ((T.size : Int) + (d : Int) - 1) / (d : Int) = (L : Int) := by rw [hL]; exact ceil_cast T.size d hd0
  have HPL : Hid ((pieces d s T).length = d + s) := pieces_length d s T
  have HPZ : Hid (∀ p, (h : p < (pieces d s T).length) → (pieces d s T)[p].size = L) := fun p h => by rw [hL]; exact pieces_sizes d s T p h
  have HPD : Hid (∀ p, (h : p < (pieces d s T).length) → (h2 : p < ps.length) → (pieces d s T)[p] = mkS ps[p]) := fun p h h2 => by
    have : (pieces d s T).getD p ByteArray.empty = mkS ps[p] := by
      unfold pieces texts
      rw [← hps, List.getD_eq_getElem?_getD, List.getElem?_map, List.getElem?_append_left h2, List.getElem?_eq_getElem h2]; rfl
    rw [← this]; simp [h]
  have HPSL : Hid (ps.length = d) := by show _ = _; rw [hps]; exact cuts_length _ _ _
  have HPSZ : Hid (∀ j, (h : j < ps.length) → ps[j].length = L) := fun j h => by
    have := cuts_size (nums T) d ((T.size + d - 1) / d) j (by rw [← hps]; exact h)
    rw [hL, ← this]; congr 1; simp [hps]
  have HFL : Hid (ps.flatten = (List.range (d * L)).map fun i => (nums T).getD i 0) := by show _ = _; rw [hps, hL]; exact flatten_cuts _ _ _
  have HLI : Hid (Blk w2 lb 9 (strV (pieces d s T))) := hlist
  have hlblt := hlist.lt
  have hBl : B ≠ lb := by omega
  have HB2 : Hid (Below w1.heap.size w1.drew w2) := hb2
  have HOB2 : Hid (Blk w2 B 55 [.int .i64 (d : Int), .int .i64 (s : Int), .string T, .slice none 0 0]) := Blk.below (w := w1.drew) HOBJ.out hb2 hwl
  have g3 := HOB2.out.cell_some (k := 3) rfl
  have gf := HOB2.out.free 3
  have hne1 : (((d + s : Nat) : Int) != (d : Int) + (s : Int)) = false := by simp
  have hne2 : ((d : Int) + (s : Int) != (d : Int) + (s : Int)) = false := by simp
  have q7 : ¬ (d : Int) = 0 := by omega
  have q8 : ¬ d = 0 := by omega
  have q9 : ((d : Int) == 0) = false := by simp; omega
  clear hps hL hlist hb2 HOBJ s0 s1 s2 hdd hd'10
  go_wp2
  go_quiet (fail)
  have D1 : Drew w2 (w2.drewN nq) := ⟨nq, rfl⟩
  revert D1
  generalize w2.drewN nq = wa
  intro D1
  have a0 := (D1.cell _).trans t0
  have a2 := (D1.cell _).trans t2
  have HD1 : Hid (Drew w2 wa) := D1
  clear D1
  go_wp2
  go_quiet (fail)
  rw [eL]
  have D2 : Drew w2 (wa.drewN nq) := HD1.out.more nq
  revert D2
  generalize wa.drewN nq = w3
  intro D2
  have hlb3 := HLI.out.to D2.below
  have hob3 := HOB2.out.to D2.below
  have HLI3 : Hid (Blk w3 lb 9 (strV (pieces d s T))) := hlb3
  have HOB3 : Hid (Blk w3 B 55 [.int .i64 (d : Int), .int .i64 (s : Int), .string T, .slice none 0 0]) := hob3
  have HB3 : Hid (Below w'.heap.size w' w3) := (HB1.out.drew.trans (HB2.out.mono HB1.out.size)).trans (D2.below.mono (Nat.le_trans (HB1.out.size) HB2.out.size))
  have r0 := hob3.cell_some (k := 0) rfl
  have r2 := hob3.cell_some (k := 2) rfl
  clear hlb3 hob3 D2 HD1 HLI HOB2 HB2 a0 a2 t0 t1 t2 g3 gf HB1
  have e0 : (ByteArray.mk #[]) = mkS (ps.take (min 0 d)).flatten := by simp [mkS]
  go_wp2
  go_loop [12, 14] (fun t pv => ∃ p : Nat, p ≤ d + s ∧ pv = .int .i64 p ∧ t = .string (mkS (ps.take (min p d)).flatten)) (fun _ pv => d + s - (intOf pv).toNat)
  case atStart => exact ⟨0, Nat.zero_le _, rfl, by rw [← e0]⟩
  case round =>
    clear e0
    obtain ⟨p, hp, rfl, rfl⟩ := hrel
    by_cases hpd : p < d + s
    · have hpl : p < (pieces d s T).length := by rw [HPL.out]; exact hpd
      have c1 := HLI3.out.cell_some (k := p) (v := .string (pieces d s T)[p]) (by simp [strV, hpl])
      have hzz := HPZ.out p hpl
      obtain ⟨x1, hx1⟩ : ∃ x1, x1 = (pieces d s T)[p] := ⟨_, rfl⟩
      rw [← hx1] at c1 hzz
      have hneL : ((x1.size : Int) != (L : Int)) = false := by simp; omega
      have hA : (mkS (ps.take (min p d)).flatten).size ≤ 4000 := by
        rw [mkS_size, flatten_length (ps.take (min p d)) L (fun i hi => by rw [List.getElem_take]; exact HPSZ.out i (by simp at hi; omega))]
        have h1 : (ps.take (min p d)).length ≤ 10 := by rw [List.length_take]; omega
        exact Nat.le_trans (Nat.mul_le_mul h1 hLs) (by decide)
      by_cases hpdd : p < d
      · have e1 : decide ((p : Int) < (d : Int)) = true := decide_eq_true (by omega)
        have hpp : p < ps.length := by rw [HPSL.out]; exact hpdd
        have HNX : Hid (mkS (ps.take (min p d)).flatten ++ x1 = mkS (ps.take (min (p + 1) d)).flatten) := by
          show _ = _
          rw [hx1, HPD.out p hpl hpp, mkS_append, show min p d = p by omega, show min (p + 1) d = p + 1 by omega, ← flatten_next ps p hpp]
        generalize mkS (ps.take (min p d)).flatten = A0 at hA HNX ⊢
        clear hx1
        go_wp2
        go_round
        case rel => exact ⟨p + 1, by omega, by go_num, by rw [← HNX.out]⟩
        case measure => simp [intOf]; omega
      · have e1 : decide ((p : Int) < (d : Int)) = false := decide_eq_false (by omega)
        have HNX : Hid (mkS (ps.take (min p d)).flatten = mkS (ps.take (min (p + 1) d)).flatten) := by
          show _ = _
          rw [show min (p + 1) d = min p d by omega]
        generalize mkS (ps.take (min p d)).flatten = A0 at hA HNX ⊢
        clear hx1
        go_wp2
        go_round
        case rel => exact ⟨p + 1, by omega, by go_num, by rw [← HNX.out]⟩
        case measure => simp [intOf]; omega
    · obtain rfl : p = d + s := by omega
      obtain ⟨W, hW⟩ : ∃ W, W = mkS (ps.take (min (d + s) d)).flatten := ⟨_, rfl⟩
      rw [← hW]
      have hWf : nums W = (List.range (d * L)).map fun i => (nums T).getD i 0 := by
        have h1 : ps.take (min (d + s) d) = ps := List.take_of_length_le (by have := HPSL.out; omega)
        rw [hW, h1, HFL.out, nums_mkS]
        intro y hy
        simp only [List.mem_map, List.mem_range] at hy
        obtain ⟨i, _, rfl⟩ := hy
        exact (nums_bytes T).getD i
      have hWs : W.size = d * L := by rw [← nums_length, hWf]; simp
      have HWB : Hid (∀ i, (h : i < W.size) → (W[i]'h).toNat = (nums T).getD i 0) := fun i h => by
        rw [← nums_get W i h, hWf]
        simp [show i < d * L by omega]
      have hW4 : W.size ≤ 4000 := by rw [hWs]; exact Nat.le_trans (Nat.mul_le_mul hd10 hLs) (by decide)
      have HWS : Hid (W.size = d * L) := hWs
      clear hW hWf hWs
      go_wp2
      go_loopw [15] (fun iv wr => ∃ i : Nat, i ≤ W.size ∧ iv = .int .i64 i ∧ Drew w3 wr) (fun iv _ => W.size - (intOf iv).toNat)
      case atStart => exact ⟨0, Nat.zero_le _, rfl, ⟨0, rfl⟩⟩
      case round =>
        obtain ⟨i, hi, rfl, hdr⟩ := hrel
        have HDR : Hid (Drew w3 wr) := hdr
        have v2 := (hdr.cell _).trans r2
        by_cases hiW : i < W.size
        · have hwi := HWB.out i hiW
          have j1 : (i : Int) < (W.size : Int) := by omega
          by_cases hiT : i < T.size
          · have e1 : decide ((i : Int) < (T.size : Int)) = true := decide_eq_true (by omega)
            have j2 : (i : Int) < (T.size : Int) := by omega
            have e2 : decide ((T.size : Int) ≤ (i : Int)) = false := decide_eq_false (by omega)
            have e1n : decide (i < T.size) = true := decide_eq_true hiT
            have e2n : decide (T.size ≤ i) = false := decide_eq_false (by omega)
            rw [nums_get T i hiT] at hwi
            have hne : (((W[i]'hiW).toNat : Int) != ((T[i]'hiT).toNat : Int)) = false := by rw [hwi]; simp
            clear hdr hwi
            go_wp2
            go_quiet (fail)
            have HDR2 : Hid (Drew w3 (wr.drewN nq)) := HDR.out.more nq
            go_wp2
            go_roundw
            case rel => exact ⟨i + 1, by omega, by go_num, HDR2.out⟩
            case measure => simp [intOf]; omega
          · have e1 : decide ((i : Int) < (T.size : Int)) = false := decide_eq_false (by omega)
            have e2 : decide ((T.size : Int) ≤ (i : Int)) = true := decide_eq_true (by omega)
            have e1n : decide (i < T.size) = false := decide_eq_false hiT
            have e2n : decide (T.size ≤ i) = true := decide_eq_true (by omega)
            have hz : (W[i]'hiW).toNat = 0 := by
              rw [hwi, List.getD_eq_getElem?_getD, List.getElem?_eq_none (by rw [nums_length]; omega)]; rfl
            have hne : (((W[i]'hiW).toNat : Int) != 0) = false := by rw [hz]; simp
            clear hdr hwi hz
            go_wp2
            go_quiet (fail)
            have HDR2 : Hid (Drew w3 (wr.drewN nq)) := HDR.out.more nq
            go_wp2
            go_roundw
            case rel => exact ⟨i + 1, by omega, by go_num, HDR2.out⟩
            case measure => simp [intOf]; omega
        · obtain rfl : i = W.size := by omega
          have hob := HOB3.out.to hdr.below
          have hli := HLI3.out.to hdr.below
          have v3 := hob.cell_some (k := 3) rfl
          have vf := hob.free 3
          have HOB4 : Hid (Blk wr B 55 [.int .i64 (d : Int), .int .i64 (s : Int), .string T, .slice none 0 0]) := hob
          have HLI4 : Hid (Blk wr lb 9 (strV (pieces d s T))) := hli
          have HB4 : Hid (Below w'.heap.size w' wr) := HB3.out.trans (hdr.below.mono HB3.out.size)
          clear hob hli hdr
          go_wp2
          go_ret
          refine ⟨B, lb, rfl, ⟨(HOB4.out.set 3 _).eq rfl, HLI4.out.other (Ne.symm hBl) _, by rw [HBE.out]; exact Nat.le_refl _, by have := HBE.out; omega⟩, HB4.out.setCell (by show w'.heap.size ≤ B; rw [HBE.out]; exact Nat.le_refl _) _⟩
end Go.Proofs.YtlnpppdffhibjaaDoor.KeepW

namespace Go.Proofs.YtlnpppdffhibjaaDoor.KeepW
open Go.RowKit Mem FieldWalks Tab ByTab Parts Ref Top
open Gf (chosen left_ Fits)
open Plans (infoInt intsV)

/-- The program's Gather answers as it must. -/
def GatherYes : Prop := ∀ (d s x n L : Nat) (pieces : List ByteArray) (lost : List Int) (pv lv : Value) (w : World), Table w → StrsAt w pv pieces → IsC w lv lost → 1 ≤ d → d ≤ 10 → s ≤ 6 → x ≤ 2 → n ≤ 400 → L = (n + d - 1) / d →
  (∀ p, (h : p < pieces.length) → pieces[p].size < 2 ^ 62) → ShapeOk d s L pieces lost → lost.length ≤ s →
  Calls Tryd.prog 24 #[.int .i64 d, .int .i64 s, .int .i64 x, .int .i64 n, pv, lv] w fun e w' => ∃ v ps, e = .returned (.tuple #[.string (mkS (ps.flatten.take n)), v, .int .i64 0]) ∧
    Fits d L (chosen (left_ lost) d s) (fun p => nums (pieces.getD p ByteArray.empty)) ps ∧ StrsAt w' v (texts ps (sums (facs d s) ps L)) ∧ Below w.heap.size w w'
/-- It says when too many are lost. -/
def GatherFew : Prop := ∀ (d s x n L : Nat) (pieces : List ByteArray) (lost : List Int) (pv lv : Value) (w : World), Table w → StrsAt w pv pieces → IsC w lv lost → 1 ≤ d → d ≤ 10 → s ≤ 6 → x ≤ 2 → n ≤ 400 → L = (n + d - 1) / d →
  (∀ p, (h : p < pieces.length) → pieces[p].size < 2 ^ 62) → ShapeOk d s L pieces lost → s < lost.length → lost.length ≤ 100 →
  Calls Tryd.prog 24 #[.int .i64 d, .int .i64 s, .int .i64 x, .int .i64 n, pv, lv] w fun e w' => e = .returned (.tuple #[.string ByteArray.empty, .slice none 0 0, .int .i64 7]) ∧ Below w.heap.size w w'

/-- Pieces of a text, junk in the place of those that are lost. -/
def spoilTo (ss : List ByteArray) (l : List Nat) (junk : ByteArray) : Nat → List ByteArray
  | 0 => ss
  | i + 1 => (spoilTo ss l junk i).set (l.getD i 0) junk
theorem spoilTo_length (ss : List ByteArray) (l : List Nat) (junk : ByteArray) (i : Nat) : (spoilTo ss l junk i).length = ss.length := by
  induction i with
  | zero => rfl
  | succ i ih => rw [spoilTo, List.length_set, ih]
theorem spoilTo_other (ss : List ByteArray) (l : List Nat) (junk : ByteArray) (p : Nat) (hp : p ∉ l) : ∀ i, i ≤ l.length → (spoilTo ss l junk i).getD p ByteArray.empty = ss.getD p ByteArray.empty := by
  intro i
  induction i with
  | zero => intro _; rfl
  | succ i ih =>
    intro hi
    have hne : l.getD i 0 ≠ p := fun e => hp (by rw [← e]; simp [show i < l.length by omega])
    rw [spoilTo, List.getD_eq_getElem?_getD, List.getElem?_set_ne hne, ← List.getD_eq_getElem?_getD]
    exact ih (by omega)
theorem spoilTo_small (ss : List ByteArray) (l : List Nat) (junk : ByteArray) (N : Nat) (hj : junk.size < N) (hs : ∀ p, (h : p < ss.length) → ss[p].size < N) : ∀ i p, (h : p < (spoilTo ss l junk i).length) → (spoilTo ss l junk i)[p].size < N := by
  intro i
  induction i with
  | zero => exact hs
  | succ i ih =>
    intro p h
    simp only [spoilTo, List.getElem_set]
    split
    · exact hj
    · exact ih p (by simpa [spoilTo] using h)
theorem spoilt_shape {d s L : Nat} {ss : List ByteArray} {l : List Nat} {junk : ByteArray} (hlen : ss.length = d + s) (hsz : ∀ p, (h : p < ss.length) → ss[p].size = L) (hnd : l.Nodup) (hlt : ∀ x, x ∈ l → x < d + s) : ShapeOk d s L (spoilTo ss l junk l.length) (l.map Int.ofNat) := by
  refine ⟨by rw [spoilTo_length, hlen], fun k hk => ?_, fun p hp hno => ?_⟩
  · have hk' : k < l.length := by simpa using hk
    have h1 := hlt _ (List.getElem_mem hk')
    simp only [List.getElem_map]
    refine ⟨by show (0 : Int) ≤ (l[k] : Nat); omega, by show ((l[k] : Nat) : Int) < ((d + s : Nat) : Int); omega, fun hm => ?_⟩
    obtain ⟨q, hq, e⟩ := List.mem_iff_getElem.1 hm
    simp only [List.length_take, List.length_map] at hq
    rw [List.getElem_take, List.getElem_map] at e
    have e' : l[q]'(by omega) = l[k] := by
      have : ((l[q]'(by omega) : Nat) : Int) = ((l[k] : Nat) : Int) := e
      omega
    rw [List.Nodup, List.pairwise_iff_getElem] at hnd
    exact hnd q k (by omega) hk' (by omega) e'
  · have hp' : p < ss.length := by rw [spoilTo_length] at hp; exact hp
    have hpl : p ∉ l := fun hm => hno (List.mem_map.2 ⟨p, hm, rfl⟩)
    have := spoilTo_other ss l junk p hpl l.length (Nat.le_refl _)
    rw [List.getD_eq_getElem?_getD, List.getElem?_eq_getElem hp, Option.getD_some, List.getD_eq_getElem?_getD, List.getElem?_eq_getElem hp', Option.getD_some] at this
    rw [this]; exact hsz p hp'
/-- A row of one's own, one cell of it written. -/
theorem owns_set {w : World} {base g n cap : Nat} {e : TypeId} {xs : List Value} (h : w.ownsRow base e 1 (.slice (some ⟨g, 0, none⟩) n cap) n xs) (k : Nat) (hk : k < n) (u : Value) :
    (w.setCell ⟨g, k, none⟩ u).ownsRow base e 1 (.slice (some ⟨g, 0, none⟩) n cap) n (xs.set k u) ∧ (∃ o, w.cell? ⟨g, k, none⟩ = some o) ∧ w.frozen? ⟨g, k, none⟩ = false ∧ base ≤ g := by
  obtain ⟨hl, h2⟩ := h
  rcases h2 with ⟨h0, h1⟩ | ⟨g', cap', cur, hv, hg, hh, hle, hmx, hsz, ht⟩
  · omega
  · injection hv with hv _ hc
    injection hv with hv
    injection hv with hv
    subst hv hc
    rw [Nat.mul_one] at hsz ht
    have hB : Blk w g e cur.toList := by unfold Blk; rw [hh]
    have hkc : k < cur.toList.length := by simp; omega
    refine ⟨⟨by simpa using hl, .inr ⟨g, cap, (cur.toList.set k u).toArray, rfl, hg, ?_, hle, hmx, by simp; omega, ?_⟩⟩, ⟨cur.toList[k], hB.cell_some (by simp)⟩, hB.free k, hg⟩
    · exact hB.set k u
    · rw [Nat.mul_one, List.toList_toArray, List.take_set, ht]
end Go.Proofs.YtlnpppdffhibjaaDoor.KeepW

namespace Go.Proofs.YtlnpppdffhibjaaDoor.KeepW
open Go.RowKit Mem FieldWalks Tab ByTab Parts Ref Top
open Gf (chosen left_ Fits)
open Plans (infoInt intsV)

theorem shape_all {d s L : Nat} {ss : List ByteArray} {l : List Nat} (hlen : ss.length = d + s) (hsz : ∀ p, (h : p < ss.length) → ss[p].size = L) (hnd : l.Nodup) (hlt : ∀ x, x ∈ l → x < d + s) : ShapeOk d s L ss (l.map Int.ofNat) := by
  have h := spoilt_shape (L := L) (junk := ByteArray.empty) hlen hsz hnd hlt
  exact ⟨hlen, h.nums, fun p hp _ => hsz p hp⟩
theorem all_in (m : List Nat) (k : Nat) (h : ∀ i, i < k → i ∈ m) : k ≤ m.length := by
  have h1 := Gf.filter_mem_le (m.map Int.ofNat) (List.range k) List.nodup_range
  rw [List.filter_eq_self.2 (fun i hi => by
    have := h i (List.mem_range.1 hi)
    simp only [decide_eq_true_eq]
    exact List.mem_map.2 ⟨i, this, rfl⟩)] at h1
  simpa using h1
theorem owns_low {w : World} {base base' n : Nat} {e : TypeId} {v : Value} {xs : List Value} (h : w.ownsRow base e 1 v n xs) (hb : base' ≤ base) : w.ownsRow base' e 1 v n xs := by
  obtain ⟨h1, h2⟩ := h
  refine ⟨h1, ?_⟩
  rcases h2 with h2 | ⟨g, cap, cur, hv, hg, r⟩
  · exact Or.inl h2
  · exact Or.inr ⟨g, cap, cur, hv, Nat.le_trans hb hg, r⟩
/-- The lost numbers while one more is sought. -/
structure More (d s k : Nat) (m : List Nat) : Prop where
  nodup : m.Nodup
  low : ∀ x, x ∈ m → x < d + s
  len : m.length ≤ s + 1
  all : ∀ i, i < k → i ∈ m
theorem More.next {d s k : Nat} {m : List Nat} (h : More d s k m) (hm : m.length ≤ s) (hd : 1 ≤ d) : More d s (k + 1) (if k ∈ m then m else m ++ [k]) ∧ k < d + s := by
  have hk := all_in m k h.all
  refine ⟨?_, by omega⟩
  by_cases e : k ∈ m
  · rw [if_pos e]
    refine ⟨h.nodup, h.low, h.len, fun i hi => ?_⟩
    by_cases e2 : i = k
    · rw [e2]; exact e
    · exact h.all i (by omega)
  · rw [if_neg e]
    refine ⟨?_, fun x hx => ?_, by simp; omega, fun i hi => ?_⟩
    · rw [List.nodup_append]
      refine ⟨h.nodup, by simp, fun a ha x hx e2 => ?_⟩
      rw [List.mem_singleton] at hx
      exact e (by rw [← hx, ← e2]; exact ha)
    · rcases List.mem_append.1 hx with hx | hx
      · exact h.low x hx
      · rw [List.mem_singleton] at hx; omega
    · by_cases e2 : i = k
      · rw [e2]; simp
      · exact List.mem_append_left _ (h.all i (by omega))

set_option maxRecDepth 100000 in
set_option maxHeartbeats 4000000 in
theorem krestored_any (hS : SumsOk) (hY : GatherYes) (hF : GatherFew) (data spare way : Int) (text junk : ByteArray) (lost : List Int) (lv : Value) (w : World) (ht : Table w) (hw0 : 0 < w.heap.size) (hl : IsC w lv lost) (hll : lost.length < 2 ^ 62) (hlb : ∀ x, x ∈ lost → -9223372036854775808 ≤ x ∧ x ≤ 9223372036854775807) (hjs : junk.size < 2 ^ 62)
    (hd1 : -9223372036854775808 ≤ data) (hd2 : data ≤ 9223372036854775807) (hs1 : -9223372036854775808 ≤ spare) (hs2 : spare ≤ 9223372036854775807) (hx1 : -9223372036854775808 ≤ way) (hx2 : way ≤ 9223372036854775807) :
    Calls Tryd.prog 8 #[.int .i64 data, .int .i64 spare, .int .i64 way, .string text, lv, .string junk] w fun e w' => e = .returned (.bool true) ∧ Below w.heap.size w w' := by
  have HS0 := kspread_any hS data spare way text w ht hw0 hd1 hd2 hs1 hs2 hx1 hx2
  have HLV : Hid (IsC w lv lost) := hl
  obtain ⟨d, hd⟩ : ∃ d, d = 1 + pickI data 10 := ⟨_, rfl⟩
  obtain ⟨s, hs⟩ : ∃ s, s = pickI spare 7 := ⟨_, rfl⟩
  obtain ⟨T, hT⟩ : ∃ T, T = shortS text := ⟨_, rfl⟩
  have b1 := pickI_lt data 10 (by omega)
  have b2 := pickI_lt spare 7 (by omega)
  have hTs : T.size ≤ 400 := by rw [hT]; exact shortS_size _
  rw [← hd, ← hs, ← hT] at HS0
  have hd0 : 1 ≤ d := by omega
  have hd10 : d ≤ 10 := by omega
  have hs6 : s ≤ 6 := by omega
  have HSP : Hid (Calls Tryd.prog 28 #[.int .i64 data, .int .i64 spare, .int .i64 way, .string text] w fun e w' => ∃ b lb, e = .returned (.pointer (some ⟨b, 0, none⟩)) ∧ Spr w' w.heap.size b d s T lb ∧ Below w.heap.size w w') := HS0
  have HLB : Hid (∀ x, x ∈ lost → -9223372036854775808 ≤ x ∧ x ≤ 9223372036854775807) := hlb
  obtain ⟨lao, lex, rfl, _⟩ := hl
  clear hd hs hT b1 b2 HS0 hlb
  go_enter Tryd.func8, Tryd.ntmps8
  go_wp2_with fail
  refine Calls.mono HSP.out ?_
  rintro e w1 ⟨b, lb, rfl, hspr, hb1⟩
  have c0 := hspr.obj.cell_some (k := 0) rfl
  have c1 := hspr.obj.cell_some (k := 1) rfl
  have hbl := hspr.obj.lt
  have hlbl := hspr.list.lt
  have HSPR : Hid (Spr w1 w.heap.size b d s T lb) := hspr
  have HSPW : Hid (Spr w1 w.heap.size b d s T lb) := hspr
  have HW01 : Hid (Below w.heap.size w w1) := hb1
  have HB1 : Hid (Below w.heap.size w w1) := hb1
  obtain ⟨l, hl⟩ : ∃ l, l = goneTo lost (d + s) s lost.length := ⟨_, rfl⟩
  have HG : Hid (Calls Tryd.prog 29 #[.slice lao lost.length (lost.length + lex), .int .i64 ((d : Int) + (s : Int)), .int .i64 s] w1.drew fun e w' => ∃ v, e = .returned v ∧ w'.ownsRow w1.heap.size 3 1 v l.length (intsV l) ∧ Below w1.heap.size w1 w') := by
    have := kgone_any lost (d + s) s (.slice lao lost.length (lost.length + lex)) w1.drew (HLV.out.to hb1.drew) hll HLB.out (by omega) (by omega) (by omega)
    rw [← hl, show ((d + s : Nat) : Int) = (d : Int) + (s : Int) by omega] at this
    refine Calls.mono this ?_
    rintro e w' ⟨v, he, h1, h2⟩
    exact ⟨v, he, h1, (Below.refl _ _).drew.trans h2⟩
  have HLL : Hid (l.Nodup ∧ (∀ x, x ∈ l → x < d + s) ∧ l.length ≤ s) := by
    rw [hl]; exact ⟨goneTo_nodup _ _ _ _, goneTo_lt _ _ _ _ (by omega), goneTo_le _ _ _ _⟩
  have y5 : IntKind.i64.wrap ((d : Int) + (s : Int)) = (d : Int) + (s : Int) := by rw [IntKind.wrap_i64]; omega
  clear hspr hb1 hl hll HSP
  go_wp2_with fail
  go_region_held3 (fun wx => wx.cell? ⟨b, 0, none⟩ = some (.int .i64 (d : Int)) ∧ wx.cell? ⟨b, 1, none⟩ = some (.int .i64 (s : Int))) (go_keep) (first | (go_at_call 29; refine Calls.mono HG.out ?_; rintro e w2 ⟨lv2, rfl, hlown, hb2⟩; have t0 := (hb2.cell (p := ⟨b, 0, none⟩) hbl).trans c0; have t1 := (hb2.cell (p := ⟨b, 1, none⟩) hbl).trans c1))
  have HSP2 : Hid (Spr w2 w.heap.size b d s T lb) := HSPR.out.to hb2
  have HB12 : Hid (Below w1.heap.size w1 w2) := hb2
  have HB2 : Hid (Below w.heap.size w w2) := HB1.out.trans (hb2.mono HB1.out.size)
  obtain ⟨la, lc, rfl⟩ := Plans.owns_form hlown
  have HLO : Hid (w2.ownsRow w1.heap.size 3 1 (.slice la l.length lc) l.length (intsV l)) := hlown
  have HSZ12 : Hid (w1.heap.size ≤ w2.heap.size ∧ w.heap.size ≤ w1.heap.size) := ⟨hb2.size, HB1.out.size⟩
  have g2 := HSP2.out.obj.cell_some (k := 2) rfl
  have g3 := HSP2.out.obj.cell_some (k := 3) rfl
  have hbl2 : b < w2.heap.size := HSP2.out.obj.lt
  obtain ⟨pcs, hpcs⟩ : ∃ pcs, pcs = pieces d s T := ⟨_, rfl⟩
  have hpl : pcs.length = d + s := by rw [hpcs]; exact pieces_length d s T
  have hlist2 : Blk w2 lb 9 (strV pcs) := by rw [hpcs]; exact HSP2.out.list
  have HPC : Hid (pcs = pieces d s T) := hpcs
  have HPL : Hid (pcs.length = d + s) := hpl
  have HLI2 : Hid (Blk w2 lb 9 (strV pcs)) := hlist2
  have HCE : Hid (∀ j u, (strV pcs)[j]? = some u → w2.cell? ((⟨lb, 0, none⟩ : Addr).add j) = some u) := fun j u hu => by rw [Addr.add_lit, Nat.zero_add]; exact hlist2.cell_some hu
  have HON : Hid (∀ u ∈ strV pcs, u.oneCell' = true) := fun u hu => by simp [strV] at hu; obtain ⟨q, _, rfl⟩ := hu; rfl
  have HLE : Hid ((strV pcs).length = (d + s) * 1) := by show _ = _; simp [strV, hpl]
  obtain ⟨i0, hi0, hz0, hz1, hz2⟩ := info_parts infoStr
  have HI0 : Hid (Tryd.prog.info? 9 = some i0 ∧ i0.zero = some (.string ByteArray.empty) ∧ i0.size = 1 ∧ i0.bytes = 16) := ⟨hi0, hz0, hz1, hz2⟩
  clear hlown hb2 hpcs hpl hlist2 hi0 hz0 hz1 hz2 c0 c1 HG HSPR HB1 hbl hlbl
  obtain ⟨svs, hsvs⟩ : ∃ svs, svs = strV pcs := ⟨_, rfl⟩
  rw [← hsvs] at HCE HON HLE
  have HSV : Hid (svs = strV pcs) := hsvs
  clear hsvs
  go_wp2_with ((refine wpList_append_own _ rfl _ _ 38 rfl w2.heap.size 9 i0 (.string ByteArray.empty) 1 16 Tryd.underlying38 HI0.out.1 HI0.out.2.1 HI0.out.2.2.1 HI0.out.2.2.2 rfl (by decide) (.slice none 0 0) 0 [] rfl (World.ownsRow_nil _ _ _ _) ⟨lb, 0, none⟩ (d + s) (d + s) svs rfl HLE.out HCE.out HON.out (by unfold maxLen; omega) (by omega) (Nat.le_refl _) ?_); intro v' w3 hown3 hg3 _)
  have hb3 : Below w2.heap.size w2 w3 := ⟨hg3.os, hg3.tape, hg3.output, hg3.size, fun k hk => hg3.block k hk (by simp [Value.ownBlock])⟩
  rw [Nat.zero_add, List.nil_append, HSV.out] at hown3
  obtain ⟨g, cap, hve⟩ : ∃ g c, v' = .slice (some ⟨g, 0, none⟩) (d + s) c := by
    rcases hown3.2 with ⟨h0, h1⟩ | ⟨g, cap, cur, h0, _⟩
    · omega
    · exact ⟨_, _, h0⟩
  subst hve
  have HO3 : Hid (w3.ownsRow w2.heap.size 9 1 (.slice (some ⟨g, 0, none⟩) (d + s) cap) (d + s) (strV (spoilTo pcs l junk 0))) := hown3
  have HB3 : Hid (Below w2.heap.size w2 w3) := hb3
  have HLC : Hid (∀ i, (h : i < l.length) → ∃ gb, la = some ⟨gb, 0, none⟩ ∧ gb < w2.heap.size ∧ w2.cell? ⟨gb, i, none⟩ = some (.int .i64 (l[i] : Nat))) := by
    intro i h
    rcases HLO.out.2 with ⟨h0, h1⟩ | ⟨gb, c', cur, h0, _, hh, _, _, _, hta⟩
    · omega
    · injection h0 with h0 _ _
      refine ⟨gb, h0, lt_of_block hh, ?_⟩
      rw [cell_of_row w2 gb i cur 3 (0, 0) hh]
      rw [Nat.mul_one] at hta
      have : (cur.toList.take l.length)[i]? = some (.int .i64 (l[i] : Nat)) := by rw [hta]; simp [intsV, h]
      rw [List.getElem?_take_of_lt h] at this
      simpa using this
  clear hown3 hb3 hg3 HCE HON HLE HI0 HSV
  have hl6 : l.length ≤ 6 := Nat.le_trans HLL.out.2.2 hs6
  go_loopw [16] (fun iv wr => ∃ i : Nat, i ≤ l.length ∧ iv = .int .i64 i ∧ wr.ownsRow w2.heap.size 9 1 (.slice (some ⟨g, 0, none⟩) (d + s) cap) (d + s) (strV (spoilTo pcs l junk i)) ∧ Below w2.heap.size w2 wr) (fun iv _ => l.length - (intOf iv).toNat)
  case atStart => exact ⟨0, Nat.zero_le _, rfl, HO3.out, HB3.out⟩
  case round =>
    clear HO3 HB3
    obtain ⟨i, hi, rfl, hown, hbel⟩ := hrel
    by_cases hil : i < l.length
    · obtain ⟨gb, rfl, hgbl, hgc⟩ := HLC.out i hil
      rw [← hbel.cell (p := ⟨gb, i, none⟩) hgbl] at hgc
      have hyl := HLL.out.2.1 _ (List.getElem_mem hil)
      obtain ⟨y, hy⟩ : ∃ y, y = l[i] := ⟨_, rfl⟩
      rw [← hy] at hgc hyl
      obtain ⟨hown', ⟨o, ho⟩, hfr, hgb⟩ := owns_set hown y hyl (.string junk)
      have HO' : Hid ((wr.setCell ⟨g, y, none⟩ (.string junk)).ownsRow w2.heap.size 9 1 (.slice (some ⟨g, 0, none⟩) (d + s) cap) (d + s) (strV (spoilTo pcs l junk (i + 1)))) := by
        have e : strV (spoilTo pcs l junk (i + 1)) = (strV (spoilTo pcs l junk i)).set y (.string junk) := by
          rw [spoilTo, show l.getD i 0 = y by rw [hy]; simp [hil]]
          simp [strV, List.map_set]
        show (wr.setCell _ _).ownsRow _ _ _ _ _ _
        rw [e]; exact hown'
      have j1 : (y : Int) < (d : Int) + (s : Int) := by omega
      clear hown hown' hy
      go_wp2
      go_roundw
      case rel => exact ⟨i + 1, by omega, by go_num, HO'.out, hbel.setCell hgb _⟩
      case measure => simp [intOf]; omega
    · obtain rfl : i = l.length := by omega
      obtain ⟨w4, rfl⟩ : ∃ w4, w4 = wr := ⟨_, rfl⟩
      obtain ⟨L, hL⟩ : ∃ L, L = (T.size + d - 1) / d := ⟨_, rfl⟩
      have ht4 : Table w4 := table_below ht (HB2.out.trans (hbel.mono HB2.out.size)) hw0
      have hTL : T.size ≤ d * L := by rw [hL]; exact ceil_mul T.size d (by omega)
      have hpz : ∀ p, (h : p < pcs.length) → pcs[p].size = L := fun p h => by
        have := pieces_sizes d s T p (by rw [← HPC.out]; exact h)
        simp only [HPC.out]; rw [this, hL]
      have hLs : L ≤ 400 := by have := ceil_le T.size d hd0; omega
      have hsh : ShapeOk d s L (spoilTo pcs l junk l.length) (l.map Int.ofNat) := spoilt_shape HPL.out hpz HLL.out.1 HLL.out.2.1
      have hsm : ∀ p, (h : p < (spoilTo pcs l junk l.length).length) → (spoilTo pcs l junk l.length)[p].size < 2 ^ 62 := spoilTo_small pcs l junk _ hjs (fun p h => by rw [hpz p h]; omega) _
      have hsa : StrsAt w4 (.slice (some ⟨g, 0, none⟩) (d + s) cap) (spoilTo pcs l junk l.length) := StrsAt.of_owns (base := w2.heap.size) (t := 9) (n := d + s) hown
      have hla : IsC w4 (.slice la l.length lc) (l.map Int.ofNat) := (IsC.of_owns HLO.out).to hbel
      obtain ⟨c', hc'⟩ : ∃ c', c' = IntKind.i64.wrap (way + 1) := ⟨_, rfl⟩
      have hcb : -9223372036854775808 ≤ c' ∧ c' ≤ 9223372036854775807 := by rw [hc', IntKind.wrap_i64]; omega
      obtain ⟨x1, hx1e⟩ : ∃ x1, x1 = pickI c' 3 := ⟨_, rfl⟩
      have hx1b : x1 ≤ 2 := by rw [hx1e]; have := pickI_lt c' 3 (by omega); omega
      have HP1 : Hid (∀ W, Calls Tryd.prog 16 #[.int .i64 (IntKind.i64.wrap (way + 1)), .int .i64 3] W fun e w' => e = .returned (.int .i64 (x1 : Nat)) ∧ w' = W) := by
        intro W; rw [← hc', hx1e]; exact kpick_any c' 3 W (by omega) (by omega) hcb.1 hcb.2
      have HGA : Hid (Calls Tryd.prog 24 #[.int .i64 d, .int .i64 s, .int .i64 x1, .int .i64 (T.size : Nat), .slice (some ⟨g, 0, none⟩) (d + s) cap, .slice la l.length lc] w4.drew fun e w' => ∃ v, e = .returned (.tuple #[.string T, v, .int .i64 0]) ∧ StrsAt w' v pcs ∧ Below w4.heap.size w4 w') := by
        have hlen : (l.map Int.ofNat).length ≤ s := by simpa using HLL.out.2.2
        refine Calls.mono (hY d s x1 T.size L _ _ _ _ w4.drew ht4 (hsa.to (Below.refl _ _).drew) (hla.to (Below.refl _ _).drew) hd0 hd10 hs6 hx1b hTs hL hsm hsh hlen) ?_
        rintro e w5 ⟨v, ps, rfl, hfit, hst, hb5⟩
        have hfit2 := pieces_fit d s T (l.map Int.ofNat) (spoilTo pcs l junk l.length) (by omega) (fun p hp hno => by
          rw [← HPC.out]
          exact spoilTo_other pcs l junk p (fun hm => hno (List.mem_map.2 ⟨p, hm, rfl⟩)) l.length (Nat.le_refl _))
        rw [← hL] at hfit2
        have e1 : ps = cuts (nums T) d L := Gf.Fits.sole (by omega) (Gf.enough d s _ hlen) hfit hfit2
        refine ⟨v, ?_, ?_, (Below.refl _ _).drew.trans hb5⟩
        · rw [e1, flatten_take (nums T) d L T.size (nums_length T) hTL, mkS_nums]
        · have : texts ps (sums (facs d s) ps L) = pcs := by rw [e1, HPC.out, hL]; rfl
          rw [this] at hst; exact hst
      have HB14 : Hid (Below w1.heap.size w1 w4) := HB12.out.trans (hbel.mono HB12.out.size)
      have k0 := (hbel.cell (p := ⟨b, 0, none⟩) hbl2).trans t0
      have k1 := (hbel.cell (p := ⟨b, 1, none⟩) hbl2).trans t1
      have k2 := (hbel.cell (p := ⟨b, 2, none⟩) hbl2).trans g2
      have k3 := (hbel.cell (p := ⟨b, 3, none⟩) hbl2).trans g3
      have hbl4 : b < w4.heap.size := Nat.lt_of_lt_of_le hbl2 hbel.size
      have HB4 : Hid (Below w.heap.size w w4) := HB2.out.trans (hbel.mono HB2.out.size)
      have HLI4 : Hid (Blk w4 lb 9 (strV pcs)) := HLI2.out.to hbel
      have HLO4 : Hid (w4.ownsRow w1.heap.size 3 1 (.slice la l.length lc) l.length (intsV l)) := ownsRow_to HLO.out hbel
      have HPZ : Hid (∀ p, (h : p < pcs.length) → pcs[p].size = L) := hpz
      have HLE : Hid (L = (T.size + d - 1) / d) := hL
      have HSZ4 : Hid (w1.heap.size ≤ w4.heap.size) := Nat.le_trans HSZ12.out.1 hbel.size
      have HT4 : Hid (Table w4) := ht4
      clear hown hbel hsh hsm hsa hla hc' hcb hx1e hpz hL HLO HLI2 HLC HSP2 HB2 t0 t1 g2 g3 hbl2
      go_wp2_with fail
      go_region_held3 (fun wx => wx.cell? ⟨b, 0, none⟩ = some (.int .i64 (d : Int)) ∧ wx.cell? ⟨b, 1, none⟩ = some (.int .i64 (s : Int)) ∧ wx.cell? ⟨b, 2, none⟩ = some (.string T)) (go_keep) (first | (go_at_call 16; refine (HP1.out _).mono ?_; rintro e w5 ⟨rfl, rfl⟩) | (go_at_call 24; refine Calls.mono HGA.out ?_; rintro e w5 ⟨v5, rfl, hst5, hb5⟩; have u0 := (hb5.cell (p := ⟨b, 0, none⟩) hbl4).trans k0; have u1 := (hb5.cell (p := ⟨b, 1, none⟩) hbl4).trans k1; have u2 := (hb5.cell (p := ⟨b, 2, none⟩) hbl4).trans k2; have u3 := (hb5.cell (p := ⟨b, 3, none⟩) hbl4).trans k3))
      have HB15 : Hid (Below w1.heap.size w1 w5) := HB14.out.trans (hb5.mono HSZ4.out)
      have hlist5 : StrsAt w5 (.slice (some ⟨lb, 0, none⟩) (d + s) (d + s)) pcs := StrsAt.of_blk (HLI4.out.to hb5) _ _ HPL.out.symm
      have HSA : Hid (Calls Tryd.prog 30 #[v5, .slice (some ⟨lb, 0, none⟩) (d + s) (d + s)] w5 fun e w' => e = .returned (.bool true) ∧ ∃ n, w' = w5.drewN n) := ksame_yes pcs _ _ w5 hst5 hlist5 (by have := HPL.out; omega)
      have HLO5 : Hid (w5.ownsRow w1.heap.size 3 1 (.slice la l.length lc) l.length (intsV l)) := ownsRow_to HLO4.out hb5
      obtain ⟨va5, vc5, rfl⟩ : ∃ ao c, v5 = .slice ao pcs.length c := by obtain ⟨ao, c, h, _⟩ := hst5; exact ⟨ao, c, h⟩
      clear hst5 hb5 hlist5 HLI4 HLO4 k0 k1 k2 k3 HGA HP1
      go_wp2_with fail
      refine Calls.mono HSA.out ?_
      rintro e w6 ⟨rfl, n6, rfl⟩
      have D6 : Drew w5 (w5.drewN n6) := ⟨n6, rfl⟩
      revert D6
      generalize w5.drewN n6 = w6
      intro D6
      have p2 := (D6.cell _).trans u2
      have HB16 : Hid (Below w1.heap.size w1 w6) := HB15.out.trans (D6.below.mono HB15.out.size)
      have HLO6 : Hid (w6.ownsRow w1.heap.size 3 1 (.slice la l.length lc) l.length (intsV l)) := ownsRow_to HLO5.out D6.below
      clear D6 u0 u1 u2 u3 HSA HLO5 HB15 HB14
      go_wp2
      go_loopw [14, 21] (fun lv kv wr => ∃ (k : Nat) (m : List Nat), k ≤ s + 1 ∧ kv = .int .i64 k ∧ wr.ownsRow w1.heap.size 3 1 lv m.length (intsV m) ∧ More d s k m ∧ Below w1.heap.size w1 wr) (fun _ kv _ => s + 2 - (intOf kv).toNat)
      case atStart => exact ⟨0, l, Nat.zero_le _, rfl, HLO6.out, ⟨HLL.out.1, HLL.out.2.1, by have := HLL.out.2.2; omega, fun i hi => by omega⟩, HB16.out⟩
      case round =>
        clear HLO6 HB16 p2
        obtain ⟨k, m, hk, rfl, hown, hmore, hbel⟩ := hrel
        obtain ⟨ma, mc, rfl⟩ := Plans.owns_form hown
        have hbl1 : b < w1.heap.size := HSPW.out.obj.lt
        have q0 := (hbel.cell (p := ⟨b, 0, none⟩) hbl1).trans (HSPW.out.obj.cell_some (k := 0) rfl)
        have q1 := (hbel.cell (p := ⟨b, 1, none⟩) hbl1).trans (HSPW.out.obj.cell_some (k := 1) rfl)
        have hml := hmore.len
        have hszr := hbel.size
        by_cases hms : m.length ≤ s
        · have e1 : decide ((m.length : Int) ≤ (s : Int)) = true := decide_eq_true (by omega)
          obtain ⟨hmore', hkd⟩ := hmore.next hms hd0
          have hks : k ≤ s := by have := all_in m k hmore.all; omega
          obtain ⟨m', hm'⟩ : ∃ m', m' = if k ∈ m then m else m ++ [k] := ⟨_, rfl⟩
          rw [← hm'] at hmore'
          have HMO : Hid (More d s (k + 1) m') := hmore'
          have HGN : Hid (∀ (W : World) (v' : Value), W.ownsRow w1.heap.size 3 1 v' (m.length + 1) (intsV m ++ [.int .i64 (k : Int)]) → w1.heap.size ≤ W.heap.size → Calls Tryd.prog 29 #[v', .int .i64 ((d : Int) + (s : Int)), .int .i64 ((s : Int) + 1)] W fun e w' => ∃ v2, e = .returned v2 ∧ w'.ownsRow w1.heap.size 3 1 v2 m'.length (intsV m') ∧ Below W.heap.size W w') := by
            intro W v' ho hW
            have e2 : intsV m ++ [.int .i64 (k : Int)] = intsV (m ++ [k]) := by simp [intsV]
            have ho2 : W.ownsRow w1.heap.size 3 1 v' (m ++ [k]).length (intsV (m ++ [k])) := by rw [← e2]; simpa using ho
            have hmap : (m ++ [k]).map Int.ofNat = m.map Int.ofNat ++ [(k : Int)] := by simp
            have hic : IsC W v' (m.map Int.ofNat ++ [(k : Int)]) := by rw [← hmap]; exact IsC.of_owns ho2
            have hlen : (m.map Int.ofNat ++ [(k : Int)]).length = m.length + 1 := by simp
            have hg := kgone_any (m.map Int.ofNat ++ [(k : Int)]) (d + s) (s + 1) v' W hic (by rw [hlen]; omega) (fun x hx => by
              rcases List.mem_append.1 hx with hx | hx
              · obtain ⟨q, hq, rfl⟩ := List.mem_map.1 hx
                have := hmore.low q hq
                constructor
                · show (-9223372036854775808 : Int) ≤ (q : Int); omega
                · show (q : Int) ≤ 9223372036854775807; omega
              · rw [List.mem_singleton] at hx; omega) (by omega) (by omega) (by omega)
            rw [hlen, goneTo_again m k (d + s) (s + 1) hmore.nodup hmore.low hkd (by omega), ← hm', show ((d + s : Nat) : Int) = (d : Int) + (s : Int) by omega, show ((s + 1 : Nat) : Int) = (s : Int) + 1 by omega] at hg
            refine Calls.mono hg ?_
            rintro e w' ⟨v2, he, h1, h2⟩
            exact ⟨v2, he, owns_low h1 hW, h2⟩
          have HBE : Hid (Below w1.heap.size w1 wr) := hbel
          have y6 : IntKind.i64.wrap ((s : Int) + 1) = (s : Int) + 1 := by rw [IntKind.wrap_i64]; omega
          have hbr : b < wr.heap.size := by omega
          have hbn : b ≠ wr.heap.size := by omega
          have hk7 : k ≤ 7 := by omega
          clear hm' hmore hmore' hbel
          go_wp2_with fail
          go_region_held3 (fun wx => wx.cell? ⟨b, 0, none⟩ = some (.int .i64 (d : Int)) ∧ wx.cell? ⟨b, 1, none⟩ = some (.int .i64 (s : Int))) (go_keep) (first | (refine step_append_one rfl _ _ 45 rfl w1.heap.size 3 (.int .i64 0) 8 Tryd.underlying45 infoInt rfl (by decide) (.slice ma m.length mc) m.length (intsV m) (by simp [Act.eval]) (by exact (hown.alloc _).drew) ⟨wr.heap.size, 0, none⟩ 1 (.int .i64 (k : Int)) (by simp [Act.eval]) (by exact (Blk.new wr _ _).cell_some rfl) rfl (by omega) (by simp; omega) ?_; intro v9 w9 hown9 hbel9; have hb9 := hbel9 w1.heap.size wr ((Below.refl _ _).alloc hszr _).drew (Nat.le_refl _); have z0 := (hb9.cell (p := ⟨b, 0, none⟩) hbl1).trans q0; have z1 := (hb9.cell (p := ⟨b, 1, none⟩) hbl1).trans q1; have hsz9 : w1.heap.size ≤ w9.heap.size := Nat.le_trans hszr hb9.size) | (go_at_call 29; refine Calls.mono (HGN.out _ _ hown9 hsz9) ?_; rintro e w10 ⟨v10, rfl, hown10, hb10⟩; have z2 := (hb10.cell (p := ⟨b, 0, none⟩) (Nat.lt_of_lt_of_le hbl1 hsz9)).trans z0; have z3 := (hb10.cell (p := ⟨b, 1, none⟩) (Nat.lt_of_lt_of_le hbl1 hsz9)).trans z1))
          all_goals
            have HB10 : Hid (Below w1.heap.size w1 w10) := HBE.out.trans (hb9.trans (hb10.mono hsz9))
            have HO10 : Hid (w10.ownsRow w1.heap.size 3 1 v10 m'.length (intsV m')) := hown10
            clear hbel9 hown9 hb9 hb10 hown10
            go_wp2
            go_roundw
            case rel => exact ⟨k + 1, m', by omega, by go_num, HO10.out, HMO.out, HB10.out⟩
            case measure => simp [intOf]; omega
        · have e1 : decide ((m.length : Int) ≤ (s : Int)) = false := decide_eq_false (by omega)
          obtain ⟨x2, hx2e⟩ : ∃ x2, x2 = pickI way 3 := ⟨_, rfl⟩
          have hx2b : x2 ≤ 2 := by rw [hx2e]; have := pickI_lt way 3 (by omega); omega
          have HP2 : Hid (∀ W, Calls Tryd.prog 16 #[.int .i64 way, .int .i64 3] W fun e w' => e = .returned (.int .i64 (x2 : Nat)) ∧ w' = W) := by
            intro W; rw [hx2e]; exact kpick_any way 3 W (by omega) (by omega) hx1 hx2
          have htr : Table wr := table_below ht (HW01.out.trans (hbel.mono HW01.out.size)) hw0
          have hli : StrsAt wr (.slice (some ⟨lb, 0, none⟩) (d + s) (d + s)) pcs := by
            refine StrsAt.of_blk ?_ _ _ HPL.out.symm
            rw [HPC.out]; exact HSPW.out.list.to hbel
          have hic : IsC wr (.slice ma m.length mc) (m.map Int.ofNat) := IsC.of_owns hown
          have HGF : Hid (Calls Tryd.prog 24 #[.int .i64 d, .int .i64 s, .int .i64 x2, .int .i64 (T.size : Nat), .slice (some ⟨lb, 0, none⟩) (d + s) (d + s), .slice ma m.length mc] wr.drew fun e w' => e = .returned (.tuple #[.string ⟨#[]⟩, .slice none 0 0, .int .i64 7]) ∧ Below wr.heap.size wr w') := by
            refine Calls.mono (hF d s x2 T.size L pcs (m.map Int.ofNat) _ _ wr.drew htr (hli.to (Below.refl _ _).drew) (hic.to (Below.refl _ _).drew) hd0 hd10 hs6 hx2b hTs HLE.out (fun p h => by rw [HPZ.out p h]; omega) (shape_all HPL.out HPZ.out hmore.nodup hmore.low) (by simp; omega) (by simp; omega)) ?_
            rintro e w5 ⟨rfl, h5⟩
            exact ⟨rfl, (Below.refl _ _).drew.trans h5⟩
          have q2 := (hbel.cell (p := ⟨b, 2, none⟩) hbl1).trans (HSPW.out.obj.cell_some (k := 2) rfl)
          have q3 := (hbel.cell (p := ⟨b, 3, none⟩) hbl1).trans (HSPW.out.obj.cell_some (k := 3) rfl)
          have HBE : Hid (Below w.heap.size w wr) := HW01.out.trans (hbel.mono HW01.out.size)
          have hbr : b < wr.heap.size := by omega
          clear hx2e hx2b htr hli hic hmore hown hbel
          go_wp2_with fail
          go_region_held3 (fun wx => wx.cell? ⟨b, 0, none⟩ = some (.int .i64 (d : Int)) ∧ wx.cell? ⟨b, 1, none⟩ = some (.int .i64 (s : Int)) ∧ wx.cell? ⟨b, 2, none⟩ = some (.string T) ∧ wx.cell? ⟨b, 3, none⟩ = some (.slice (some ⟨lb, 0, none⟩) (d + s) (d + s))) (go_keep) (first | (go_at_call 16; refine (HP2.out _).mono ?_; rintro e w9 ⟨rfl, rfl⟩) | (go_at_call 24; refine Calls.mono HGF.out ?_; rintro e w9 ⟨rfl, hb9⟩; have z0 := (hb9.cell (p := ⟨b, 0, none⟩) hbr).trans q0; have z1 := (hb9.cell (p := ⟨b, 1, none⟩) hbr).trans q1; have z2 := (hb9.cell (p := ⟨b, 2, none⟩) hbr).trans q2; have z3 := (hb9.cell (p := ⟨b, 3, none⟩) hbr).trans q3))
          all_goals
            have HB9 : Hid (Below w.heap.size w w9) := HBE.out.trans (hb9.mono HBE.out.size)
            clear hb9
            go_wp2
            go_ret
            exact ⟨rfl, HB9.out⟩
end Go.Proofs.YtlnpppdffhibjaaDoor.KeepW

/- Rows of bytes that came of strings, in memory. -/
namespace Go.Proofs.YtlnpppdffhibjaaDoor.Ref
open Go.RowKit Mem FieldWalks Tab ByTab Parts
open Gf (Bytes)
open Plans (But rowF)

/-- The block b begins with these bytes, and they may be written. -/
def Row8 (w : World) (b : Nat) (l : List Nat) : Prop :=
  ∃ cs fr, w.heap[b]? = some (.cells cs 5 fr) ∧ (∀ k, (h : k < l.length) → cs[k]? = some (.int .u8 (l[k] : Nat))) ∧ l.length ≤ cs.size ∧ (cs.size ≤ fr.1 ∨ fr = (0, 0))
section
variable {w w' : World} {b : Nat} {l : List Nat}
theorem Row8.lt (h : Row8 w b l) : b < w.heap.size := by obtain ⟨cs, fr, h, _⟩ := h; exact lt_of_block h
theorem Row8.cell (h : Row8 w b l) (k : Nat) (hk : k < l.length) : w.cell? ⟨b, k, none⟩ = some (.int .u8 (l[k] : Nat)) := by
  obtain ⟨cs, fr, h, hc, _⟩ := h
  rw [cell_of_row w b k cs 5 fr h]; exact hc k hk
theorem Row8.free (h : Row8 w b l) (k : Nat) (hk : k < l.length) : w.frozen? ⟨b, k, none⟩ = false := by
  obtain ⟨cs, fr, h, hc, hl, hf⟩ := h
  unfold World.frozen?
  simp only [h]
  rcases hf with hf | rfl
  · simp; intro h1; omega
  · simp
theorem Row8.of_block (h : Row8 w b l) (e : w'.heap[b]? = w.heap[b]?) : Row8 w' b l := by
  obtain ⟨cs, fr, h, r⟩ := h
  exact ⟨cs, fr, e.trans h, r⟩
theorem Row8.to (h : Row8 w b l) (hb : Below w.heap.size w w') : Row8 w' b l := h.of_block (hb.block b h.lt)
theorem Row8.other (h : Row8 w b l) {a : Addr} (ha : b ≠ a.block) (u : Value) : Row8 (w.setCell a u) b l := h.of_block (heap_setCell_other w a b u ha)
theorem Row8.type_ne {c : Nat} {t : TypeId} {us : List Value} (h : Row8 w b l) (k : Blk w c t us) (ht : 5 ≠ t) : b ≠ c := by
  intro e; subst e
  obtain ⟨cs, fr, h, _⟩ := h
  unfold Blk at k
  rw [h] at k
  simp at k
  exact ht k.2.1
theorem Row8.set (h : Row8 w b l) (k x : Nat) : Row8 (w.setCell ⟨b, k, none⟩ (.int .u8 (x : Nat))) b (l.set k x) := by
  obtain ⟨cs, fr, h, hc, hl, hf⟩ := h
  have e : (w.setCell ⟨b, k, none⟩ (.int .u8 (x : Nat))).heap[b]? = some (.cells (cs.setIfInBounds k (.int .u8 (x : Nat))) 5 fr) := by
    unfold World.setCell
    simp only [Array.getElem?_modify, h]
    simp
  refine ⟨_, fr, e, fun i hi => ?_, by simpa using hl, by simpa using hf⟩
  have hi' : i < l.length := by simpa using hi
  by_cases e1 : k = i
  · subst e1
    rw [Array.getElem?_setIfInBounds_self_of_lt (by omega)]
    simp
  · rw [Array.getElem?_setIfInBounds_ne e1, hc i hi', List.getElem_set_ne e1]
theorem Row8.new (w : World) (s : ByteArray) : Row8 (Lib.bytesWorld w 5 s) w.heap.size (nums s) := by
  refine ⟨_, _, Lib.bytesWorld_at_new w 5 s, fun k hk => ?_, ?_, .inl (Nat.le_refl _)⟩
  · have hk' : k < s.size := by rw [nums_length] at hk; exact hk
    have hk2 : k < s.data.size := hk'
    unfold Lib.bytesCells
    rw [Array.getElem?_append_left (by simpa using hk2)]
    simp only [nums, Array.getElem?_map, Array.getElem?_eq_getElem hk2]
    simp
  · rw [nums_length]; unfold Lib.bytesCells; simp
end
theorem below_bytes (w : World) (s : ByteArray) : Below w.heap.size w (Lib.bytesWorld w 5 s) :=
  ⟨rfl, rfl, rfl, by rw [Lib.bytesWorld_size]; omega, fun k hk => Lib.bytesWorld_at_old w 5 s k hk⟩

/-- The list at block g has n rows, each in a block of its own, of L bytes. -/
structure OutAt (w : World) (g n L : Nat) (bs : List Nat) (us : List Value) (rows : Nat → List Nat) : Prop where
  list : Blk w g 93 us
  len : bs.length = n
  nodup : bs.Nodup
  size : ∀ p, p < n → (rows p).length = L
  at_ : ∀ p, (h : p < bs.length) → ∃ c, us[p]? = some (.slice (some ⟨bs[p], 0, none⟩) L c)
  row : ∀ p, (h : p < bs.length) → Row8 w bs[p] (rows p)
section
variable {w w' : World} {g n L : Nat} {bs : List Nat} {us : List Value} {rows : Nat → List Nat}
theorem OutAt.to (h : OutAt w g n L bs us rows) (hb : Below w.heap.size w w') : OutAt w' g n L bs us rows := ⟨h.list.to hb, h.len, h.nodup, h.size, h.at_, fun p hp => (h.row p hp).to hb⟩
theorem OutAt.congr {rows' : Nat → List Nat} (h : OutAt w g n L bs us rows) (e : ∀ p, p < n → rows' p = rows p) : OutAt w g n L bs us rows' := by
  have := h.len
  exact ⟨h.list, h.len, h.nodup, fun p hp => by rw [e p hp]; exact h.size p hp, h.at_, fun p hp => by rw [e p (by omega)]; exact h.row p hp⟩
theorem OutAt.set (h : OutAt w g n L bs us rows) (p : Nat) (hp : p < bs.length) (t x : Nat) : OutAt (w.setCell ⟨bs[p], t, none⟩ (.int .u8 (x : Nat))) g n L bs us (fun q => if q = p then (rows p).set t x else rows q) := by
  have hl := h.len
  refine ⟨h.list.other (Ne.symm ((h.row p hp).type_ne h.list (by decide))) _, h.len, h.nodup, fun q hq => ?_, h.at_, fun q hq => ?_⟩
  · split
    · rw [List.length_set]; exact h.size p (by omega)
    · exact h.size q hq
  · by_cases e : q = p
    · subst e; rw [if_pos rfl]; exact (h.row q hq).set t x
    · rw [if_neg e]
      refine (h.row q hq).other ?_ _
      intro e2
      have hnd := h.nodup
      rw [List.Nodup, List.pairwise_iff_getElem] at hnd
      rcases Nat.lt_or_gt_of_ne e with hlt | hlt
      · exact hnd q p hq hp hlt e2
      · exact hnd p q hp hq hlt e2.symm
/-- Reading: the row's slice, its byte. -/
theorem OutAt.read (h : OutAt w g n L bs us rows) (p : Nat) (hp : p < n) : ∃ b c, bs[p]? = some b ∧ w.cell? ⟨g, p, none⟩ = some (.slice (some ⟨b, 0, none⟩) L c) ∧ b ≠ g ∧ b < w.heap.size ∧ ∀ t, (ht : t < L) → w.cell? ⟨b, t, none⟩ = some (.int .u8 ((rows p).getD t 0 : Nat)) ∧ w.frozen? ⟨b, t, none⟩ = false := by
  have hl := h.len
  have hpl : p < bs.length := by omega
  obtain ⟨c, hc⟩ := h.at_ p hpl
  have hr := h.row p hpl
  refine ⟨bs[p], c, by simp [hpl], h.list.cell_some hc, hr.type_ne h.list (by decide), hr.lt, fun t ht => ?_⟩
  have ht2 : t < (rows p).length := by rw [h.size p hp]; exact ht
  rw [hr.cell t ht2]
  exact ⟨by simp [ht2], hr.free t ht2⟩
end
end Go.Proofs.YtlnpppdffhibjaaDoor.Ref

/- Rows and their undoing: what is done to both halves alike. Nothing of the program. -/
namespace Go.Proofs.YtlnpppdffhibjaaDoor.Gf

theorem xs_swap (g : Nat → Nat → Nat) (m : Nat) : ∀ n, xs (fun i => xs (fun k => g i k) m) n = xs (fun k => xs (fun i => g i k) n) m := by
  intro n
  induction n with
  | zero => rw [xs, xs_zero]; intro k _; rfl
  | succ n ih => rw [xs, ih, ← xs_xor]; rfl
theorem xs_times_r (m : Nat) (g : Nat → Nat) (n : Nat) (hm : m < 256) (hg : ∀ k, k < n → g k < 256) : times (xs g n) m = xs (fun k => times (g k) m) n := by
  rw [times_comm _ _ (xs_lt g n hg) hm, xs_times m g n hm]
  exact xs_congr fun k hk => times_comm _ _ hm (hg k hk)

/-- The wide rows behind c columns: the left half is made by the right half of the rows A; its first c columns are done; it has an inverse. -/
structure Wide (d c : Nat) (A M : Nat → Nat → Nat) : Prop where
  byte : ∀ r, r < d → ∀ k, k < 2 * d → M r k < 256
  made : ∀ r, r < d → ∀ k, k < d → M r k = xs (fun n => times (M r (d + n)) (A n k)) d
  unit : ∀ k, k < c → ∀ r, r < d → M r k = if r = k then 1 else 0
  ker : ∀ x : Nat → Nat, (∀ k, x k < 256) → (∀ r, r < d → dot d (M r) x = 0) → ∀ k, k < d → x k = 0

theorem Wide.pivot {d c : Nat} {A M : Nat → Nat → Nat} (h : Wide d c A M) (hc : c < d) : ∃ r, c ≤ r ∧ r < d ∧ M r c ≠ 0 := by
  apply Classical.byContradiction
  intro hno
  have hno : ∀ r, c ≤ r → r < d → M r c = 0 := by
    intro r h1 h2
    apply Classical.byContradiction
    intro hf
    exact hno ⟨r, h1, h2, hf⟩
  let z : Nat → Nat := fun k => if k = c then 1 else if k < c then M k c else 0
  have zc : z c = 1 := by simp [z]
  have zk : ∀ k, k < c → z k = M k c := fun k hk => by simp [z, hk, show k ≠ c by omega]
  have zo : ∀ k, k ≠ c → ¬ k < c → z k = 0 := fun k h1 h2 => by simp [z, h1, h2]
  have hz := h.ker z (fun k => by
    by_cases e : k = c
    · rw [e, zc]; decide
    · by_cases e2 : k < c
      · rw [zk k e2]; exact h.byte k (by omega) c (by omega)
      · rw [zo k e e2]; decide) (fun r hr => ?_) c hc
  · rw [zc] at hz; cases hz
  · by_cases hrc : r < c
    · have e : dot d (M r) z = times (M r r) (z r) ^^^ times (M r c) (z c) := xs_two _ d r c hr hc (by omega) fun k hk h1 h2 => by
        show times (M r k) (z k) = 0
        by_cases e2 : k < c
        · rw [h.unit k e2 r hr, if_neg (Ne.symm h1), zk k e2, zero_times _ (h.byte k hk c (by omega))]
        · rw [zo k h2 e2]; exact times_zero _ (h.byte r hr k (by omega))
      have b1 := h.byte r hr c (by omega)
      rw [e, zc, zk r hrc, h.unit r hrc r hr, if_pos rfl, one_times _ b1, times_one _ b1, Nat.xor_self]
    · refine xs_zero _ _ fun k hk => ?_
      show times (M r k) (z k) = 0
      by_cases e : k = c
      · subst e; rw [hno r (by omega) hr, zc]; rfl
      · by_cases e2 : k < c
        · rw [h.unit k e2 r hr, if_neg (by omega), zk k e2, zero_times _ (h.byte k hk c (by omega))]
        · rw [zo k e e2]; exact times_zero _ (h.byte r hr k (by omega))

/-- Rows c and r change places. -/
def swapR (M : Nat → Nat → Nat) (c r : Nat) : Nat → Nat → Nat := fun q => if q = c then M r else if q = r then M c else M q
theorem Wide.swap {d c r : Nat} {A M : Nat → Nat → Nat} (h : Wide d c A M) (hc : c < d) (hcr : c ≤ r) (hr : r < d) : Wide d c A (swapR M c r) := by
  have at_ : ∀ q, q < d → ∃ p, p < d ∧ swapR M c r q = M p ∧ (p = q ∨ (c ≤ p ∧ c ≤ q)) := fun q hq => by
    unfold swapR
    by_cases e : q = c
    · exact ⟨r, hr, by rw [if_pos e], .inr ⟨hcr, by omega⟩⟩
    · rw [if_neg e]
      by_cases e2 : q = r
      · exact ⟨c, hc, by rw [if_pos e2], .inr ⟨Nat.le_refl _, by omega⟩⟩
      · exact ⟨q, hq, by rw [if_neg e2], .inl rfl⟩
  have back : ∀ q, q < d → ∃ p, p < d ∧ swapR M c r p = M q := fun q hq => by
    by_cases e : q = c
    · by_cases e2 : r = c
      · exact ⟨c, hc, by simp [swapR, e2, e]⟩
      · exact ⟨r, hr, by simp [swapR, e2, e]⟩
    · by_cases e2 : q = r
      · exact ⟨c, hc, by simp [swapR, e2]⟩
      · exact ⟨q, hq, by simp [swapR, e, e2]⟩
  refine ⟨fun q hq k hk => ?_, fun q hq k hk => ?_, fun k hk q hq => ?_, fun x hx h0 => h.ker x hx fun q hq => ?_⟩
  · obtain ⟨p, hp, e, _⟩ := at_ q hq
    rw [e]; exact h.byte p hp k hk
  · obtain ⟨p, hp, e, _⟩ := at_ q hq
    rw [e]; exact h.made p hp k hk
  · obtain ⟨p, hp, e, h2⟩ := at_ q hq
    rw [e, h.unit k hk p hp]
    rcases h2 with rfl | ⟨h3, h4⟩
    · rfl
    · rw [if_neg (by omega), if_neg (by omega)]
  · obtain ⟨p, hp, e⟩ := back q hq
    rw [← e]; exact h0 p hp
/-- Row c times f. -/
def scaleR (M : Nat → Nat → Nat) (c f : Nat) : Nat → Nat → Nat := fun q k => if q = c then times (M c k) f else M q k
theorem Wide.scale {d c : Nat} {A M : Nat → Nat → Nat} (h : Wide d c A M) (hc : c < d) (hA : ∀ n, n < d → ∀ k, k < d → A n k < 256) (hp : M c c ≠ 0) : Wide d c A (scaleR M c (inv (M c c))) ∧ scaleR M c (inv (M c c)) c c = 1 := by
  have bc := h.byte c hc c (by omega)
  obtain ⟨f, hf⟩ : ∃ f, f = inv (M c c) := ⟨_, rfl⟩
  have bf : f < 256 := by rw [hf]; exact inv_lt _ bc
  have hone : times (M c c) f = 1 := by rw [hf]; exact inv_right _ bc hp
  rw [← hf]
  refine ⟨⟨fun q hq k hk => ?_, fun q hq k hk => ?_, fun k hk q hq => ?_, fun x hx h0 => h.ker x hx fun q hq => ?_⟩, by simp [scaleR, hone]⟩
  · unfold scaleR
    split
    · exact times_lt _ _ (h.byte c hc k hk)
    · exact h.byte q hq k hk
  · by_cases e : q = c
    · subst e
      show (if q = q then _ else _) = _
      rw [if_pos rfl, h.made q hq k hk, xs_times_r f _ _ bf (fun n hn => times_lt _ _ (h.byte q hq _ (by omega)))]
      refine xs_congr fun n hn => ?_
      have b1 := h.byte q hq (d + n) (by omega)
      have b2 := hA n hn k hk
      show times (times (M q (d + n)) (A n k)) f = times (if q = q then times (M q (d + n)) f else _) (A n k)
      rw [if_pos rfl, times_assoc _ _ _ b1 b2 bf, times_assoc _ _ _ b1 bf b2, times_comm _ _ b2 bf]
    · have e2 : ∀ k, scaleR M c f q k = M q k := fun k => by simp [scaleR, e]
      rw [e2, h.made q hq k hk]
      exact xs_congr fun n _ => by rw [e2]
  · unfold scaleR
    by_cases e : q = c
    · rw [if_pos e, h.unit k hk c hc, if_neg (by omega), zero_times _ bf, if_neg (by omega)]
    · rw [if_neg e]; exact h.unit k hk q hq
  · by_cases e : q = c
    · subst e
      have h1 := h0 q hq
      have e2 : dot d (scaleR M q f q) x = times (dot d (M q) x) f := by
        unfold dot
        rw [xs_times_r f _ _ bf (fun n hn => times_lt _ _ (h.byte q hq _ (by omega)))]
        refine xs_congr fun k hk => ?_
        have b1 := h.byte q hq k (by omega)
        show times (if q = q then times (M q k) f else _) (x k) = _
        rw [if_pos rfl, times_assoc _ _ _ b1 bf (hx k), times_assoc _ _ _ b1 (hx k) bf, times_comm _ _ bf (hx k)]
      rw [e2] at h1
      have bd := dot_lt d (M q) x fun k hk => h.byte q hq k (by omega)
      have h2 := congrArg (fun y => times y (M q q)) h1
      rw [times_assoc _ _ _ bd bf bc, times_comm _ _ bf bc, hone, times_one _ bd, zero_times _ bc] at h2
      exact h2
    · have := h0 q hq
      rw [← this]
      exact dot_congr (fun k _ => by simp [scaleR, e]) fun _ _ => rfl
/-- From each row but c so much of row c is taken that column c is gone. -/
def takeR (M : Nat → Nat → Nat) (c : Nat) : Nat → Nat → Nat := fun q k => if q = c then M c k else M q k ^^^ times (M q c) (M c k)
theorem Wide.take {d c : Nat} {A M : Nat → Nat → Nat} (h : Wide d c A M) (hc : c < d) (hA : ∀ n, n < d → ∀ k, k < d → A n k < 256) (hp : M c c = 1) : Wide d (c + 1) A (takeR M c) := by
  have bq : ∀ q, q < d → M q c < 256 := fun q hq => h.byte q hq c (by omega)
  have tc : ∀ k, takeR M c c k = M c k := fun k => by simp [takeR]
  have tq : ∀ q, q ≠ c → ∀ k, takeR M c q k = M q k ^^^ times (M q c) (M c k) := fun q hq k => by simp [takeR, hq]
  refine ⟨fun q hq k hk => ?_, fun q hq k hk => ?_, fun k hk q hq => ?_, fun x hx h0 => h.ker x hx ?_⟩
  · unfold takeR
    split
    · exact h.byte c hc k hk
    · exact xor_lt (h.byte q hq k hk) (times_lt _ _ (bq q hq))
  · by_cases e : q = c
    · subst e
      rw [tc, h.made q hq k hk]
      exact xs_congr fun n _ => by rw [tc]
    · rw [tq q e, h.made q hq k hk, h.made c hc k hk, xs_times _ _ _ (bq q hq), ← xs_xor]
      refine xs_congr fun n hn => ?_
      have b1 := h.byte q hq (d + n) (by omega)
      have b2 := h.byte c hc (d + n) (by omega)
      rw [tq q e, times_xor_l _ _ _ b1 (times_lt _ _ (bq q hq)), times_assoc _ _ _ (bq q hq) b2 (hA n hn k hk)]
  · by_cases e : q = c
    · subst e
      rw [tc]
      by_cases e2 : k = q
      · subst e2; rw [hp, if_pos rfl]
      · exact h.unit k (by omega) q hq
    · rw [tq q e]
      by_cases e2 : k = c
      · subst e2; rw [hp, times_one _ (bq q hq), Nat.xor_self, if_neg e]
      · rw [h.unit k (by omega) c hc, if_neg (by omega), times_zero _ (bq q hq), Nat.xor_zero]
        exact h.unit k (by omega) q hq
  · have hc0 : dot d (M c) x = 0 := by
      rw [← h0 c hc]; exact dot_congr (fun k _ => (tc k).symm) fun _ _ => rfl
    intro q hq
    by_cases e : q = c
    · subst e; exact hc0
    · have h1 := h0 q hq
      have e2 : dot d (takeR M c q) x = dot d (M q) x ^^^ times (M q c) (dot d (M c) x) := by
        rw [← dot_less d _ _ _ x (bq q hq) (fun k hk => h.byte q hq k (by omega)) (fun k hk => h.byte c hc k (by omega)) (fun k _ => hx k)]
        exact dot_congr (fun k _ => tq q e k) fun _ _ => rfl
      rw [e2, hc0, times_zero _ (bq q hq), Nat.xor_zero] at h1
      exact h1
/-- The wide rows at the start. -/
def wide0 (d : Nat) (A : Nat → Nat → Nat) : Nat → Nat → Nat := fun r k => if k < d then A r k else if k = d + r then 1 else 0
theorem Wide.start (d : Nat) (A : Nat → Nat → Nat) (hA : ∀ n, n < d → ∀ k, k < d → A n k < 256) (hker : ∀ x : Nat → Nat, (∀ k, x k < 256) → (∀ r, r < d → dot d (A r) x = 0) → ∀ k, k < d → x k = 0) : Wide d 0 A (wide0 d A) := by
  have lo : ∀ r k, k < d → wide0 d A r k = A r k := fun r k hk => by simp [wide0, hk]
  have hi : ∀ r n, wide0 d A r (d + n) = if n = r then 1 else 0 := fun r n => by
    unfold wide0
    rw [if_neg (by omega)]
    by_cases e : n = r
    · rw [if_pos (by omega), if_pos e]
    · rw [if_neg (by omega), if_neg e]
  refine ⟨fun r hr k hk => ?_, fun r hr k hk => ?_, fun k hk => by omega, fun x hx h0 => hker x hx fun r hr => ?_⟩
  · by_cases e : k < d
    · rw [lo r k e]; exact hA r hr k e
    · unfold wide0; rw [if_neg e]; split <;> decide
  · rw [lo r k hk, xs_one _ d r hr fun n hn hne => by rw [hi, if_neg hne]; exact zero_times _ (hA n hn k hk), hi, if_pos rfl, one_times _ (hA r hr k hk)]
  · rw [← h0 r hr]; exact dot_congr (fun k hk => (lo r k hk).symm) fun _ _ => rfl
/-- What the rows make of x, the right half leads back. -/
theorem Wide.back {d : Nat} {A M : Nat → Nat → Nat} (h : Wide d d A M) (hA : ∀ n, n < d → ∀ k, k < d → A n k < 256) (x : Nat → Nat) (hx : ∀ k, x k < 256) (r : Nat) (hr : r < d) :
    xs (fun n => times (M r (d + n)) (dot d (A n) x)) d = x r := by
  have e : xs (fun n => times (M r (d + n)) (dot d (A n) x)) d = xs (fun n => xs (fun k => times (times (M r (d + n)) (A n k)) (x k)) d) d := xs_congr fun n hn => by
    have b := h.byte r hr (d + n) (by omega)
    unfold dot
    rw [xs_times _ _ _ b]
    exact xs_congr fun k hk => (times_assoc _ _ _ b (hA n hn k hk) (hx k)).symm
  rw [e, xs_swap]
  have e2 : ∀ k, k < d → xs (fun n => times (times (M r (d + n)) (A n k)) (x k)) d = times (if r = k then 1 else 0) (x k) := fun k hk => by
    rw [← xs_times_r (x k) _ d (hx k) (fun n hn => times_lt _ _ (h.byte r hr _ (by omega))), ← h.made r hr k hk, h.unit k hk r hr]
  rw [xs_congr e2, xs_one _ d r hr fun k hk hne => by rw [if_neg (Ne.symm hne)]; exact zero_times _ (hx k), if_pos rfl, one_times _ (hx r)]
end Go.Proofs.YtlnpppdffhibjaaDoor.Gf

namespace Go.Proofs.YtlnpppdffhibjaaDoor.Ref
open Go.RowKit Mem FieldWalks Tab ByTab Parts
open Gf (Bytes)
open Plans (But rowF)

theorem Row8.of_blk {w : World} {b : Nat} {l : List Nat} (h : Blk w b 5 (bytesV l)) : Row8 w b l :=
  ⟨(bytesV l).toArray, (0, 0), h, fun k hk => by simp [bytesV, hk], by simp [bytesV], .inr rfl⟩
theorem Row8.but {w w' : World} {b S : Nat} {l : List Nat} (h : Row8 w b l) (hb : But S w w') (hne : b ≠ S) : Row8 w' b l := h.of_block (hb.rest b hne h.lt)
theorem Row8.bs {w : World} {b : Nat} {l : List Nat} (h : Row8 w b l) (n c : Nat) (hn : n = l.length) : BsAt w (.slice (some ⟨b, 0, none⟩) n c) l := by
  subst hn
  exact ⟨_, c, rfl, .inr ⟨b, 0, rfl, h.lt, fun k hk => by rw [Nat.zero_add]; exact h.cell k hk⟩⟩
theorem table_but {w w' : World} {S : Nat} (h : Table w) (hb : But S w w') (hS : S ≠ 0) : Table w' := by
  intro k hk
  rw [hb.cell (p := ⟨0, k, none⟩) (by exact Ne.symm hS) (block_lt_of_cell (h k hk))]; exact h k hk
theorem rowF_at' (m : Nat) (f : Nat → Nat) (k : Nat) (h : k < m) : (rowF m f).getD k 0 = f k := by simp [rowF, h]
theorem rowF_of (l : List Nat) : l = rowF l.length (fun k => l.getD k 0) := by
  apply List.ext_getElem
  · simp
  · intro k h1 h2; simp [rowF, h1]

/-- k of the places are written. -/
def half (f g : Nat → Nat) (k : Nat) : Nat → Nat := fun i => if i < k then f i else g i
theorem half_zero (f g : Nat → Nat) : half f g 0 = g := by funext i; simp [half]
theorem half_all (m : Nat) (f g : Nat → Nat) : rowF m (half f g m) = rowF m f := Plans.rowF_congr fun i hi => by simp [half, hi]
theorem half_set (m : Nat) (f g : Nat → Nat) (k : Nat) : (rowF m (half f g k)).set k (f k) = rowF m (half f g (k + 1)) := by
  rw [Plans.rowF_set]
  refine Plans.rowF_congr fun i hi => ?_
  unfold Plans.upd half
  by_cases e : i = k
  · subst e; rw [if_pos rfl, if_pos (by omega)]
  · rw [if_neg e]
    by_cases h : i < k
    · rw [if_pos h, if_pos (by omega)]
    · rw [if_neg h, if_neg (by omega)]
theorem half_at (m : Nat) (f g : Nat → Nat) (k : Nat) (hk : k < m) : ∃ h : k < (rowF m (half f g k)).length, (rowF m (half f g k))[k] = g k := ⟨by simpa using hk, by simp [rowF, half]⟩

set_option maxRecDepth 100000 in
set_option maxHeartbeats 1000000 in
theorem scale_any (m : Nat) (f : Nat → Nat) (x b c : Nat) (hm : m ≤ 1000) (hf : ∀ k, k < m → f k < 256) (hx : x < 256) (hb0 : b ≠ 0) (w : World) (ht : Table w) (hr : Row8 w b (rowF m f)) :
    Calls Tryd.prog 103 #[.slice (some ⟨b, 0, none⟩) m c, .int .u8 x] w fun e w' => e = .returned (.tuple #[]) ∧ Row8 w' b (rowF m fun k => Gf.times (f k) x) ∧ But b w w' := by
  have HT : Hid (Table w) := ht
  have HF : Hid (∀ k, k < m → f k < 256) := hf
  have HR : Hid (Row8 w b (rowF m f)) := hr
  clear ht hf hr
  go_enter Tryd.func103, Tryd.ntmps103
  go_wp2
  go_loopw [7] (fun i wr => ∃ k : Nat, k ≤ m ∧ i = .int .i64 k ∧ Row8 wr b (rowF m (half (fun k => Gf.times (f k) x) f k)) ∧ But b w wr) (fun i _ => m - (intOf i).toNat)
  case atStart => exact ⟨0, Nat.zero_le _, rfl, by rw [half_zero]; exact HR.out, But.refl _ _⟩
  case round =>
    obtain ⟨k, hk, rfl, hrow, hbut⟩ := hrel
    by_cases hlt : k < m
    · obtain ⟨hl, hv⟩ := half_at m (fun k => Gf.times (f k) x) f k hlt
      have c1 := hrow.cell k hl
      have f1 := hrow.free k hl
      rw [hv] at c1
      have hfk := HF.out k hlt
      obtain ⟨y, hy⟩ : ∃ y, y = f k := ⟨_, rfl⟩
      rw [← hy] at c1 hfk
      have HNW : Hid (Row8 (wr.setCell ⟨b, k, none⟩ (.int .u8 (Gf.times y x : Nat))) b (rowF m (half (fun k => Gf.times (f k) x) f (k + 1)))) := by
        have := hrow.set k (Gf.times y x)
        rw [hy, half_set m (fun k => Gf.times (f k) x) f k] at this
        rw [hy]; exact this
      have HBU : Hid (But b w wr) := hbut
      have HT1 : Hid (Table wr) := table_but HT.out hbut hb0
      clear hrow hbut hv hl hy
      go_wp2_with (go_at_call 34; refine (mul_any y x hfk hx _ (by exact HT1.out)).mono ?_; rintro e w' ⟨rfl, rfl⟩)
      go_roundw
      case rel => exact ⟨k + 1, by omega, by go_num, HNW.out, HBU.out.setCell k _⟩
      case measure => simp [intOf]; omega
    · obtain rfl : m = k := by omega
      have HRW : Hid (Row8 wr b (rowF m fun k => Gf.times (f k) x)) := by
        have := hrow
        rw [half_all] at this; exact this
      have HBU : Hid (But b w wr) := hbut
      clear hrow hbut
      go_wp2
      go_end0
      exact ⟨rfl, HRW.out, HBU.out⟩

set_option maxRecDepth 100000 in
set_option maxHeartbeats 1000000 in
theorem addTimes_any (m : Nat) (f o : Nat → Nat) (x b c q c' : Nat) (hm : m ≤ 1000) (hf : ∀ k, k < m → f k < 256) (ho : ∀ k, k < m → o k < 256) (hx : x < 256) (hb0 : b ≠ 0) (hbq : b ≠ q) (w : World) (ht : Table w) (hr : Row8 w b (rowF m f)) (hq : Row8 w q (rowF m o)) :
    Calls Tryd.prog 104 #[.slice (some ⟨b, 0, none⟩) m c, .int .u8 x, .slice (some ⟨q, 0, none⟩) m c'] w fun e w' => e = .returned (.tuple #[]) ∧ Row8 w' b (rowF m fun k => f k ^^^ Gf.times x (o k)) ∧ But b w w' := by
  have HT : Hid (Table w) := ht
  have HF : Hid (∀ k, k < m → f k < 256) := hf
  have HO : Hid (∀ k, k < m → o k < 256) := ho
  have HR : Hid (Row8 w b (rowF m f)) := hr
  have HQ : Hid (Row8 w q (rowF m o)) := hq
  clear ht hf hr ho hq
  go_enter Tryd.func104, Tryd.ntmps104
  go_wp2
  go_loopw [9] (fun i wr => ∃ k : Nat, k ≤ m ∧ i = .int .i64 k ∧ Row8 wr b (rowF m (half (fun k => f k ^^^ Gf.times x (o k)) f k)) ∧ But b w wr) (fun i _ => m - (intOf i).toNat)
  case atStart => exact ⟨0, Nat.zero_le _, rfl, by rw [half_zero]; exact HR.out, But.refl _ _⟩
  case round =>
    obtain ⟨k, hk, rfl, hrow, hbut⟩ := hrel
    by_cases hlt : k < m
    · obtain ⟨hl, hv⟩ := half_at m (fun k => f k ^^^ Gf.times x (o k)) f k hlt
      have c1 := hrow.cell k hl
      have f1 := hrow.free k hl
      rw [hv] at c1
      have hfk := HF.out k hlt
      have hzb := HO.out k hlt
      obtain ⟨y, hy⟩ : ∃ y, y = f k := ⟨_, rfl⟩
      obtain ⟨z, hz⟩ : ∃ z, z = o k := ⟨_, rfl⟩
      rw [← hy] at c1 hfk
      rw [← hz] at hzb
      have c2 := (HQ.out.but hbut (Ne.symm hbq)).cell k (by simpa using hlt)
      rw [show (rowF m o)[k]'(by simpa using hlt) = z by simp [rowF, hz]] at c2
      obtain ⟨nv, hnv⟩ : ∃ nv, nv = y ^^^ Gf.times x z := ⟨_, rfl⟩
      have hxor : bits .xor .u8 (y : Int) ((Gf.times x z : Nat) : Int) = (nv : Int) := by rw [hnv]; exact u8_xor_nat _ _ hfk (Gf.times_lt _ _ hx)
      have HNW : Hid (Row8 (wr.setCell ⟨b, k, none⟩ (.int .u8 (nv : Nat))) b (rowF m (half (fun k => f k ^^^ Gf.times x (o k)) f (k + 1)))) := by
        have := hrow.set k nv
        rw [hnv, hy, hz, half_set m (fun k => f k ^^^ Gf.times x (o k)) f k] at this
        rw [hnv, hy, hz]; exact this
      have HBU : Hid (But b w wr) := hbut
      have HT1 : Hid (Table wr) := table_but HT.out hbut hb0
      have HS : Hid (wr.drew.cell? ⟨q, k, none⟩ = some (.int .u8 (z : Int))) := c2
      have HA : Hid ((⟨b, k, none⟩ : Addr) ≠ ⟨q, k, none⟩) := by intro h; injection h; omega
      clear hrow hbut hv hl hy hz c2 hnv
      go_wp2_with fail
      refine wp_region_held (S := fun wx => wx.cell? ⟨q, k, none⟩ = some (.int .u8 (z : Int))) rfl ?_
      refine wpAnyH_take (i := 0) (v := (.slice (some ⟨b, 0, none⟩) m c)) rfl (by kernel_rfl) (by kernel_rfl) (by kernel_rfl) (fun _ _ _ h => h) (Or.inl ⟨by rfl, fun w hw => by go_simp⟩) HS.out ?_
      refine wpAnyH_take (i := 1) (v := (.int .i64 (k : Int))) rfl (by kernel_rfl) (by kernel_rfl) (by kernel_rfl) (fun _ _ _ h => h) (Or.inl ⟨by rfl, fun w hw => by go_simp⟩) HS.out ?_
      refine wpAnyH_take (i := 2) (v := (.pointer (some ⟨b, k, none⟩))) rfl (by kernel_rfl) (by kernel_rfl) (by kernel_rfl) (fun _ _ _ h => h) (Or.inl ⟨by rfl, fun w hw => by go_simp⟩) HS.out ?_
      refine wpAnyH_take (i := 4) (v := (.int .u8 (x : Int))) rfl (by kernel_rfl) (by kernel_rfl) (by kernel_rfl) (fun _ _ _ h => h) (Or.inl ⟨by rfl, fun w hw => by go_simp⟩) HS.out ?_
      refine wpAnyH_take (i := 5) (v := (.slice (some ⟨q, 0, none⟩) m c')) rfl (by kernel_rfl) (by kernel_rfl) (by kernel_rfl) (fun _ _ _ h => h) (Or.inl ⟨by rfl, fun w hw => by go_simp⟩) HS.out ?_
      simp only [Act.put]
      refine wpAnyH_take (i := 6) (v := (.int .i64 (k : Int))) rfl (by kernel_rfl) (by kernel_rfl) (by kernel_rfl) (fun _ _ _ h => h) (Or.inl ⟨by rfl, fun w hw => by go_simp⟩) HS.out ?_
      refine wpAnyH_take (i := 7) (v := (.pointer (some ⟨q, k, none⟩))) rfl (by kernel_rfl) (by kernel_rfl) (by kernel_rfl) (fun _ _ _ h => h) (Or.inl ⟨by rfl, fun w hw => by go_simp⟩) HS.out ?_
      refine wpAnyH_take (i := 8) (v := (.int .u8 (z : Int))) rfl (by kernel_rfl) (by kernel_rfl) (by kernel_rfl) (fun _ _ _ h => h) (Or.inl ⟨by rfl, fun w hw => by go_simp⟩) HS.out ?_
      simp only [Act.put, List.setIfInBounds_toArray]
      refine wpAnyH_ready (rs := [3, 9]) (by kernel_rfl) (by simp) ?_
      refine AllReadyH.cons rfl (fun K hK => ?_) (AllReadyH.cons rfl (fun K hK => ?_) AllReadyH.nil)
      · go_simp
        refine hK.out _ _ HS.out (fun _ => ?_)
        clear hK K
        refine wpAnyH_ready (rs := [9]) (by kernel_rfl) (by simp) ?_
        refine AllReadyH.cons rfl (fun K hK => ?_) AllReadyH.nil
        go_simp
        refine (mul_any x z hx hzb _ (by exact HT1.out)).mono ?_
        rintro e w2 ⟨rfl, rfl⟩
        dsimp only
        refine hK.out _ _ HS.out (fun _ => ?_)
        clear hK K
        refine wpAnyH_take (i := 10) (v := (.int .u8 (nv : Int))) rfl (by kernel_rfl) (by kernel_rfl) (by kernel_rfl) (fun _ _ _ h => h) (Or.inl ⟨by rfl, fun w hw => by go_simp⟩) HS.out ?_
        refine wpAnyH_take (i := 11) (v := (.pointer (some ⟨b, k, none⟩))) rfl (by kernel_rfl) (by kernel_rfl) (by kernel_rfl) (fun _ _ _ h => h) (Or.inl ⟨by rfl, fun w hw => by go_simp⟩) HS.out ?_
        simp only [Act.put, List.setIfInBounds_toArray]
        refine wpAnyH_ready (rs := [12]) (by kernel_rfl) (by simp) ?_
        refine AllReadyH.cons rfl (fun K hK => ?_) AllReadyH.nil
        go_simp
        refine hK.out _ _ ((World.cell?_setCell_other _ _ _ _ HA.out).trans HS.out) (fun _ => ?_)
        clear hK K
        refine wpAnyH_done (by kernel_rfl) ?_ _
        go_wp2
        go_roundw
        case rel => exact ⟨k + 1, by omega, by go_num, HNW.out.to (Below.refl _ _).drew, (HBU.out.setCell k _).drew⟩
        case measure => simp [intOf]; omega
      · go_simp
        refine (mul_any x z hx hzb _ (by exact HT1.out)).mono ?_
        rintro e w2 ⟨rfl, rfl⟩
        dsimp only
        refine hK.out _ _ HS.out (fun _ => ?_)
        clear hK K
        refine wpAnyH_ready (rs := [3]) (by kernel_rfl) (by simp) ?_
        refine AllReadyH.cons rfl (fun K hK => ?_) AllReadyH.nil
        go_simp
        refine hK.out _ _ HS.out (fun _ => ?_)
        clear hK K
        refine wpAnyH_take (i := 10) (v := (.int .u8 (nv : Int))) rfl (by kernel_rfl) (by kernel_rfl) (by kernel_rfl) (fun _ _ _ h => h) (Or.inl ⟨by rfl, fun w hw => by go_simp⟩) HS.out ?_
        refine wpAnyH_take (i := 11) (v := (.pointer (some ⟨b, k, none⟩))) rfl (by kernel_rfl) (by kernel_rfl) (by kernel_rfl) (fun _ _ _ h => h) (Or.inl ⟨by rfl, fun w hw => by go_simp⟩) HS.out ?_
        simp only [Act.put, List.setIfInBounds_toArray]
        refine wpAnyH_ready (rs := [12]) (by kernel_rfl) (by simp) ?_
        refine AllReadyH.cons rfl (fun K hK => ?_) AllReadyH.nil
        go_simp
        refine hK.out _ _ ((World.cell?_setCell_other _ _ _ _ HA.out).trans HS.out) (fun _ => ?_)
        clear hK K
        refine wpAnyH_done (by kernel_rfl) ?_ _
        go_wp2
        go_roundw
        case rel => exact ⟨k + 1, by omega, by go_num, HNW.out.to (Below.refl _ _).drew, (HBU.out.setCell k _).drew⟩
        case measure => simp [intOf]; omega
    · obtain rfl : m = k := by omega
      have HRW : Hid (Row8 wr b (rowF m fun k => f k ^^^ Gf.times x (o k))) := by
        have := hrow
        rw [half_all] at this; exact this
      have HBU : Hid (But b w wr) := hbut
      clear hrow hbut
      go_wp2
      go_end0
      exact ⟨rfl, HRW.out, HBU.out⟩
end Go.Proofs.YtlnpppdffhibjaaDoor.Ref

namespace Go.Proofs.YtlnpppdffhibjaaDoor.Ref
open Go.RowKit Mem FieldWalks Tab ByTab Parts
open Gf (Bytes wide0 swapR)
open Plans (But rowF)

theorem Laid.low {w W W' : World} {B i : Nat} {u : Value} (h : Laid w W B i u) (hb : Below w.heap.size W W') (hB : B < w.heap.size) : Laid w W' B i u :=
  ⟨Nat.le_trans h.size hb.size, fun b h1 h2 => (hb.block b h2).trans (h.rest b h1 h2), (hb.block B hB).trans h.row⟩

/-- The first p rows of the list at g are made, each in a block of its own, from base on. -/
structure OutTo (base : Nat) (w : World) (g n L p : Nat) (bs : List Nat) (us : List Value) (rows : Nat → List Nat) : Prop where
  list : Blk w g 93 us
  ulen : us.length = n
  len : bs.length = p
  nodup : bs.Nodup
  size : ∀ q, q < p → (rows q).length = L
  at_ : ∀ q, (h : q < bs.length) → us[q]? = some (.slice (some ⟨bs[q], 0, none⟩) L L)
  row : ∀ q, (h : q < bs.length) → Row8 w bs[q] (rows q)
  low : ∀ b, b ∈ bs → base ≤ b
theorem OutTo.start {base : Nat} {w : World} {g n L : Nat} {us : List Value} {rows : Nat → List Nat} (h : Blk w g 93 us) (hl : us.length = n) : OutTo base w g n L 0 [] us rows :=
  ⟨h, hl, rfl, by simp, fun q hq => by omega, fun q hq => by simp at hq, fun q hq => by simp at hq, fun b hb => by simp at hb⟩
theorem OutTo.laid {base : Nat} {w W : World} {g n L p b : Nat} {bs : List Nat} {us : List Value} {rows : Nat → List Nat} (h : OutTo base w g n L p bs us rows) (hl : Laid w W g p (.slice (some ⟨b, 0, none⟩) L L)) (hp : p < n)
    (hb : w.heap.size ≤ b) (hbase : base ≤ b) (hr : Row8 W b (rows p)) (hs : (rows p).length = L) : OutTo base W g n L (p + 1) (bs ++ [b]) (us.set p (.slice (some ⟨b, 0, none⟩) L L)) rows := by
  have hlen := h.len
  have hul := h.ulen
  have hnb : b ∉ bs := fun hm => by
    obtain ⟨q, hq, e⟩ := List.mem_iff_getElem.1 hm
    have := (h.row q hq).lt
    omega
  refine ⟨hl.row.trans (h.list.set p _), by simp [hul], by simp [hlen], ?_, fun q hq => ?_, fun q hq => ?_, fun q hq => ?_, fun x hx => ?_⟩
  · rw [List.nodup_append]
    refine ⟨h.nodup, by simp, fun a ha x hx => ?_⟩
    simp at hx; subst hx
    intro e; exact hnb (e ▸ ha)
  · by_cases e : q = p
    · rw [e]; exact hs
    · exact h.size q (by omega)
  · by_cases e : q < bs.length
    · have hc' := h.at_ q e
      rw [List.getElem?_set_ne (by omega), List.getElem_append_left e]; exact hc'
    · have : q = bs.length := by simp at hq; omega
      subst this
      simp [hlen, hul, hp]
  · by_cases e : q < bs.length
    · rw [List.getElem_append_left e]
      exact (h.row q e).of_block (hl.rest _ ((h.row q e).type_ne h.list (by decide)) (h.row q e).lt)
    · have : q = bs.length := by simp at hq; omega
      subst this
      have hr' := hr
      rw [← hlen] at hr'
      simpa using hr'
  · rcases List.mem_append.1 hx with hx | hx
    · exact h.low x hx
    · simp at hx; subst hx; exact hbase
theorem OutTo.to {base : Nat} {w w' : World} {g n L p : Nat} {bs : List Nat} {us : List Value} {rows : Nat → List Nat} (h : OutTo base w g n L p bs us rows) (hb : Below w.heap.size w w') : OutTo base w' g n L p bs us rows :=
  ⟨h.list.to hb, h.ulen, h.len, h.nodup, h.size, h.at_, fun q hq => (h.row q hq).to hb, h.low⟩
/-- All rows of the list at g, each in a block of its own, from base on. -/
def Outs (base : Nat) (w : World) (g n L : Nat) (rows : Nat → List Nat) : Prop := ∃ bs us, OutAt w g n L bs us rows ∧ (∀ b, b ∈ bs → base ≤ b) ∧ ∀ q, (h : q < bs.length) → us[q]? = some (.slice (some ⟨bs[q], 0, none⟩) L L)
theorem OutTo.outs {base : Nat} {w : World} {g n L : Nat} {bs : List Nat} {us : List Value} {rows : Nat → List Nat} (h : OutTo base w g n L n bs us rows) : Outs base w g n L rows :=
  ⟨bs, us, ⟨h.list, h.len, h.nodup, h.size, fun q hq => ⟨L, h.at_ q hq⟩, h.row⟩, h.low, h.at_⟩
theorem Outs.to {base : Nat} {w w' : World} {g n L : Nat} {rows : Nat → List Nat} (h : Outs base w g n L rows) (hb : Below w.heap.size w w') : Outs base w' g n L rows := by
  obtain ⟨bs, us, h, hl, hc⟩ := h
  exact ⟨bs, us, h.to hb, hl, hc⟩
theorem Outs.congr {base : Nat} {w : World} {g n L : Nat} {rows rows' : Nat → List Nat} (h : Outs base w g n L rows) (e : ∀ p, p < n → rows' p = rows p) : Outs base w g n L rows' := by
  obtain ⟨bs, us, h, hl, hc⟩ := h
  exact ⟨bs, us, h.congr e, hl, hc⟩
/-- One row is written. -/
theorem OutAt.but {w w' : World} {g n L : Nat} {bs : List Nat} {us : List Value} {rows : Nat → List Nat} (h : OutAt w g n L bs us rows) (p : Nat) (hp : p < bs.length) (l : List Nat) (hb : But bs[p] w w') (hr : Row8 w' bs[p] l) (hl : l.length = L) :
    OutAt w' g n L bs us (fun q => if q = p then l else rows q) := by
  have hlen := h.len
  have hg : g ≠ bs[p] := Ne.symm ((h.row p hp).type_ne h.list (by decide))
  refine ⟨hb.blk h.list hg, h.len, h.nodup, fun q hq => ?_, h.at_, fun q hq => ?_⟩
  · show (if q = p then l else rows q).length = L
    split
    · exact hl
    · exact h.size q hq
  · by_cases e : q = p
    · subst e; simp only [if_true]; exact hr
    · simp only [if_neg e]
      refine (h.row q hq).but hb ?_
      intro e2
      have hnd := h.nodup
      rw [List.Nodup, List.pairwise_iff_getElem] at hnd
      rcases Nat.lt_or_gt_of_ne e with hlt | hlt
      · exact hnd q p hq hp hlt e2
      · exact hnd p q hp hq hlt e2.symm

theorem laid_cell {w W : World} {B i : Nat} {u : Value} {t : TypeId} {us : List Value} (h : Laid w W B i u) (hb : Blk w B t us) (hi : i < us.length) : W.cell? ⟨B, i, none⟩ = some u := by
  rw [World.cell?_of_block (w := w.setCell ⟨B, i, none⟩ u) h.row]
  exact (hb.set i u).cell_some (by simp [hi])
theorem wide_zero (d D p : Nat) (f : Nat → Nat) (h : d + p < D) : (bytesV (rowF D (fun k => if k < d then f k else 0)))[d + p]? = some (.int .u8 0) := by
  simp [bytesV, rowF, h]
  intro h; omega
theorem wide_set (d D p : Nat) (A : Nat → Nat → Nat) (_h : d + p < D) : (rowF D (fun k => if k < d then A p k else 0)).set (d + p) 1 = rowF D (wide0 d A p) := by
  rw [Plans.rowF_set]
  refine Plans.rowF_congr fun k hk => ?_
  unfold Plans.upd wide0
  show (if k = d + p then 1 else if k < d then A p k else 0) = _
  by_cases e : k = d + p
  · rw [if_pos e, if_neg (by omega), if_pos e]
  · rw [if_neg e]
    by_cases e2 : k < d
    · rw [if_pos e2, if_pos e2]
    · rw [if_neg e2, if_neg e2, if_neg e]
theorem copy_wide (d D : Nat) (f : Nat → Nat) (h : d ≤ D) : splice (bytesV (List.replicate D 0)) 0 (bytesV (rowF d f)) = bytesV (rowF D (fun k => if k < d then f k else 0)) := by
  unfold splice
  rw [List.take_zero, List.nil_append, Nat.zero_add]
  apply List.ext_getElem
  · simp; omega
  · intro k h1 h2
    have hkD : k < D := by simpa using h2
    by_cases e : k < d
    · rw [List.getElem_append_left (by simpa using e)]
      simp [bytesV, rowF, e]
    · rw [List.getElem_append_right (by simpa using e)]
      simp [bytesV, rowF, e]

theorem wide_after {w wr W1 w2 : World} {g p d D b : Nat} {U : Value} {t : TypeId} {us vs cs : List Value} {f : Nat → Nat} (hla : Laid wr W1 g p U) (hblk : Blk wr g t us) (hp : p < us.length) (hgl : g < wr.heap.size) (hb1 : Below w.heap.size w W1) (hsz : w.heap.size ≤ wr.heap.size)
    (hco : splice vs 0 cs = bytesV (rowF D (fun k => if k < d then f k else 0))) (hg2 : w2.heap[b]? = some (.cells (splice vs 0 cs).toArray 5 (0, 0))) (hb2 : Below wr.heap.size W1 w2) (hD : d + p < D) (hU : U = .slice (some ⟨b, 0, none⟩) D D) :
    Hid (Blk w2 b 5 (bytesV (rowF D (fun k => if k < d then f k else 0)))) ∧ Hid (Laid wr w2 g p U) ∧ Hid (Below w.heap.size w w2) ∧ w2.cell? ⟨g, p, none⟩ = some (.slice (some ⟨b, 0, none⟩) D D) ∧
      w2.cell? ⟨b, d + p, none⟩ = some (.int .u8 0) ∧ w2.frozen? ⟨b, d + p, none⟩ = false := by
  have h1 : Blk w2 b 5 (bytesV (rowF D (fun k => if k < d then f k else 0))) := by unfold Blk; rw [hg2, hco]
  have h2 : Laid wr w2 g p U := Laid.low hla hb2 hgl
  refine ⟨h1, h2, hb1.trans (hb2.mono hsz), ?_, h1.cell_some (wide_zero d D p f hD), h1.free _⟩
  rw [← hU]; exact laid_cell h2 hblk hp

set_option maxRecDepth 100000 in
set_option maxHeartbeats 2000000 in
theorem withUnits_any (d : Nat) (A : Nat → Nat → Nat) (rows : List (List Nat)) (rv : Value) (w : World) (hd : 1 ≤ d) (hd2 : d ≤ 10) (hlr : rows.length = d) (hrow : ∀ n, (h : n < rows.length) → rows[n] = rowF d (A n)) (hr : RowsAt w rv rows) :
    Calls Tryd.prog 101 #[rv] w fun e w' => ∃ g, w.heap.size ≤ g ∧ e = .returned (.slice (some ⟨g, 0, none⟩) d d) ∧ Outs w.heap.size w' g d (2 * d) (fun r => rowF (2 * d) (wide0 d A r)) ∧ Below w.heap.size w w' := by
  obtain ⟨rb, roff, rcap, rfl, hrb, hrc⟩ := hr.pos (by omega)
  have HRC : Hid (∀ k, (h : k < rows.length) → ∃ u, w.cell? ⟨rb, roff + k, none⟩ = some u ∧ BsAt w u rows[k]) := hrc
  have HROW : Hid (∀ n, (h : n < rows.length) → rows[n] = rowF d (A n)) := hrow
  rw [hlr]
  have HLR : Hid (rows.length = d) := hlr
  have hmk := fun w => make_rows d (by omega) w
  have hmb := fun w => make_bytes (2 * d) (by omega) w
  obtain ⟨D, hD⟩ : ∃ D, D = 2 * d := ⟨_, rfl⟩
  have e2d : 2 * (d : Int) = (D : Int) := by rw [hD]; simp
  have e2d' : (d : Int) * 2 = (D : Int) := by omega
  rw [← hD] at hmb ⊢
  have hD1 : D ≤ 20 := by omega
  have hD2 : 2 * d ≤ D := by omega
  have hD3 : D ≤ 2 * d := by omega
  have HD : Hid (D = 2 * d) := hD
  clear hrc hrow hlr hr hD
  go_enter Tryd.func101, Tryd.ntmps101
  go_wp2
  go_loopw [11] (fun i wr => ∃ (p : Nat) (bs : List Nat) (us : List Value), p ≤ d ∧ i = .int .i64 p ∧ OutTo w.heap.size wr w.heap.size d D p bs us (fun r => rowF D (wide0 d A r)) ∧ Below w.heap.size w wr) (fun i _ => d - (intOf i).toNat)
  case atStart => exact ⟨0, [], _, Nat.zero_le _, rfl, OutTo.start ((Blk.new w _ _).eq (toList_madeCells_one _ d)) (by simp), (Below.refl _ _).alloc (Nat.le_refl _) _⟩
  case round =>
    obtain ⟨p, bs, us, hp, rfl, hout, hbel⟩ := hrel
    by_cases hpd : p < d
    · have hpl : p < rows.length := by rw [HLR.out]; exact hpd
      obtain ⟨u, hu, ao, cu, rfl, hbs⟩ := HRC.out p hpl
      rw [← hbel.cell (p := ⟨rb, roff + p, none⟩) hrb] at hu
      rw [HROW.out p hpl] at hu hbs
      rw [show (rowF d (A p)).length = d by simp] at hu
      obtain ⟨sb, so, rfl, hsb, hsc⟩ : ∃ b off, ao = some ⟨b, off, none⟩ ∧ b < w.heap.size ∧ ∀ k, (h : k < (rowF d (A p)).length) → w.cell? ⟨b, off + k, none⟩ = some (.int .u8 ((rowF d (A p))[k] : Nat)) := by
        rcases hbs with h | h
        · have := congrArg List.length h; simp at this; omega
        · exact h
      have hul := hout.ulen
      have hgl := hout.list.lt
      have r3 := hout.list.cell_some (k := p) (v := us[p]'(by omega)) (by simp [show p < us.length by omega])
      have r4 := hout.list.free p
      generalize us[p]'(by omega) = old at r3
      have HOUT : Hid (OutTo w.heap.size wr w.heap.size d D p bs us (fun r => rowF D (wide0 d A r))) := hout
      have HSC : Hid (∀ k, (h : k < (rowF d (A p)).length) → w.cell? ⟨sb, so + k, none⟩ = some (.int .u8 ((rowF d (A p))[k] : Nat))) := hsc
      have hsz := hbel.size
      clear hout hbs hsc hul
      obtain ⟨U, hU⟩ : ∃ U, U = Value.slice (some ⟨wr.heap.size, 0, none⟩) D D := ⟨_, rfl⟩
      obtain ⟨W1, hW1⟩ : ∃ W1, W1 = (wr.setCell ⟨w.heap.size, p, none⟩ U).alloc (.cells (madeCells #[.int .u8 0] D) 5) := ⟨_, rfl⟩
      have HLA : Hid (Laid wr W1 w.heap.size p U) := by rw [hW1]; exact Laid.start wr _ _ _ _ hgl
      have HN1 : Hid (Blk W1 wr.heap.size 5 (bytesV (List.replicate D 0))) := by
        have := made_bytes (wr.setCell ⟨w.heap.size, p, none⟩ U) D
        rw [size_setCell] at this
        rw [hW1]; exact this
      have HB1 : Hid (Below w.heap.size w W1) := by
        rw [hW1]; exact (hbel.setCell (Nat.le_refl _) _).alloc (by rw [size_setCell]; exact hsz) _
      have HSR : Hid (∀ j v, (bytesV (rowF d (A p)))[j]? = some v → W1.cell? ((⟨sb, so, none⟩ : Addr).add j) = some v) := fun j v hv => by
        have hj : j < (rowF d (A p)).length := by
          have := (List.getElem?_eq_some_iff.1 hv).1; simpa using this
        rw [Addr.add_lit, HB1.out.cell (p := ⟨sb, so + j, none⟩) hsb, HSC.out j hj, ← hv, bytesV_at hj]
      have HCO : Hid (splice (bytesV (List.replicate D 0)) 0 (bytesV (rowF d (A p))) = bytesV (rowF D (fun k => if k < d then A p k else 0))) := by
        exact copy_wide d D (A p) (by omega)
      have hgU : Value.slice (some ⟨wr.heap.size, 0, none⟩) D D = U := hU.symm
      have HU : Hid (U = Value.slice (some ⟨wr.heap.size, 0, none⟩) D D) := hU
      have HGW : Hid ((wr.setCell ⟨w.heap.size, p, none⟩ (.slice (some ⟨wr.heap.size, 0, none⟩) D D)).alloc (.cells (madeCells #[.int .u8 0] D) 5) = W1) := by show _ = _; rw [hW1, hU]
      have HLN : Hid ((bytesV (rowF d (A p))).length = Nat.min d D) := by
        show _ = _
        rw [bytesV_length, Plans.rowF_length]; exact (Nat.min_eq_left (by omega)).symm
      have HFT : Hid (0 + (bytesV (rowF d (A p))).length ≤ (bytesV (List.replicate D 0)).length) := by
        show _ ≤ _
        rw [bytesV_length, bytesV_length, Plans.rowF_length, List.length_replicate]; omega
      have HONE : Hid (∀ v ∈ bytesV (rowF d (A p)), v.oneCell' = true) := by intro v hv; simp [bytesV] at hv; obtain ⟨n, _, rfl⟩ := hv; rfl
      have hp2D : d + p < D := by omega
      clear hU hgU hW1
      go_wp2_with ((rw [HGW.out]; refine wpList_copy_splice rfl _ _ 93 93 rfl 5 Tryd.underlying93 infoByteSize _ _ _ _ _ _ rfl rfl wr.heap.size 0 (bytesV (List.replicate D 0)) 5 HN1.out (bytesV (rowF d (A p))) HLN.out (fun _ => ⟨rfl, ⟨sb, so, none⟩, rfl, HSR.out⟩) HFT.out HONE.out wr.heap.size W1 (Below.refl _ _) (Nat.le_refl _) ?_); intro w2 hg2 hb2; obtain ⟨HBW, HLA2, HB2, l1, c2, f2⟩ := wide_after HLA.out HOUT.out.list (by rw [HOUT.out.ulen]; exact hpd) hgl HB1.out hsz HCO.out hg2.out hb2 hp2D HU.out; clear hg2 hb2)
      have HLA3 : Hid (Laid wr (w2.setCell ⟨wr.heap.size, d + p, none⟩ (.int .u8 1)) w.heap.size p (.slice (some ⟨wr.heap.size, 0, none⟩) D D)) := by
        have := HLA2.out.setCell (a := ⟨wr.heap.size, d + p, none⟩) (Nat.le_refl _) hgl (.int .u8 1)
        rw [HU.out] at this; exact this
      have HR3 : Hid (Row8 (w2.setCell ⟨wr.heap.size, d + p, none⟩ (.int .u8 1)) wr.heap.size (rowF D (wide0 d A p))) := by
        have := (Row8.of_blk HBW.out).set (d + p) 1
        rw [wide_set d D p A (by omega)] at this
        exact this
      have HO3 : Hid (OutTo w.heap.size (w2.setCell ⟨wr.heap.size, d + p, none⟩ (.int .u8 1)) w.heap.size d D (p + 1) (bs ++ [wr.heap.size]) (us.set p (.slice (some ⟨wr.heap.size, 0, none⟩) D D)) (fun r => rowF D (wide0 d A r))) :=
        HOUT.out.laid HLA3.out hpd (Nat.le_refl _) hsz HR3.out (by simp)
      go_roundw
      case rel => exact ⟨p + 1, _, _, by omega, by go_num, HO3.out, HB2.out.setCell hsz _⟩
      case measure => simp [intOf]; omega
    · obtain rfl : d = p := by omega
      have HO : Hid (Outs w.heap.size wr w.heap.size d D (fun r => rowF D (wide0 d A r))) := hout.outs
      clear hout
      go_wp2
      go_ret
      exact ⟨w.heap.size, Nat.le_refl _, rfl, HO.out, hbel⟩
end Go.Proofs.YtlnpppdffhibjaaDoor.Ref

namespace Go.Proofs.YtlnpppdffhibjaaDoor.Ref
open Go.RowKit Mem FieldWalks Tab ByTab Parts
open Gf (Bytes wide0 swapR)
open Plans (But rowF)

theorem nodup_swap {l : List Nat} (hn : l.Nodup) (i j : Nat) (hi : i < l.length) (hj : j < l.length) : ((l.set i l[j]).set j l[i]).Nodup := by
  rw [List.Nodup, List.pairwise_iff_getElem] at *
  have inj : ∀ a b, (ha : a < l.length) → (hb : b < l.length) → l[a] = l[b] → a = b := fun a b ha hb e => by
    rcases Nat.lt_trichotomy a b with h | h | h
    · exact absurd e (hn a b ha hb h)
    · exact h
    · exact absurd e.symm (hn b a hb ha h)
  have key : ∀ a, (ha : a < l.length) → ∃ q, ∃ hq : q < l.length, ((l.set i l[j]).set j l[i])[a]'(by simpa using ha) = l[q] ∧ ((a = j ∧ q = i) ∨ (a ≠ j ∧ a = i ∧ q = j) ∨ (a ≠ j ∧ a ≠ i ∧ q = a)) := fun a ha => by
    by_cases e1 : a = j
    · subst e1; exact ⟨i, hi, by simp, .inl ⟨rfl, rfl⟩⟩
    · by_cases e2 : a = i
      · subst e2; exact ⟨j, hj, by rw [List.getElem_set_ne (Ne.symm e1)]; simp, .inr (.inl ⟨e1, rfl, rfl⟩)⟩
      · exact ⟨a, ha, by rw [List.getElem_set_ne (Ne.symm e1), List.getElem_set_ne (Ne.symm e2)], .inr (.inr ⟨e1, e2, rfl⟩)⟩
  intro a b ha hb hab e
  simp only [List.length_set] at ha hb
  obtain ⟨q1, h1, e1, c1⟩ := key a ha
  obtain ⟨q2, h2, e2, c2⟩ := key b hb
  rw [e1, e2] at e
  have := inj _ _ _ _ e
  omega
/-- Two rows change their places in the list. -/
theorem Outs.swap {base : Nat} {w : World} {g n L : Nat} {M : Nat → Nat → Nat} {c r : Nat} {bs : List Nat} {us : List Value} {uc ur : Value} (h : OutAt w g n L bs us (fun q => rowF L (M q))) (hl : ∀ b, b ∈ bs → base ≤ b) (hcap : ∀ q, (h : q < bs.length) → us[q]? = some (.slice (some ⟨bs[q], 0, none⟩) L L)) (hc : c < n) (hr : r < n) (huc : us[c]? = some uc) (hur : us[r]? = some ur) :
    Outs base ((w.setCell ⟨g, c, none⟩ ur).setCell ⟨g, r, none⟩ uc) g n L (fun q => rowF L (swapR M c r q)) := by
  have hlen := h.len
  have hcb : c < bs.length := by omega
  have hrb : r < bs.length := by omega
  have hcc := hcap c hcb
  have hcr := hcap r hrb
  rw [huc] at hcc; injection hcc with hcc
  rw [hur] at hcr; injection hcr with hcr
  have hcu : c < us.length := (List.getElem?_eq_some_iff.1 huc).1
  have hru : r < us.length := (List.getElem?_eq_some_iff.1 hur).1
  have hcap2 : ∀ p, (hp : p < ((bs.set c bs[r]).set r bs[c]).length) → ((us.set c ur).set r uc)[p]? = some (.slice (some ⟨((bs.set c bs[r]).set r bs[c])[p], 0, none⟩) L L) := fun p hp => by
    have hp' : p < bs.length := by simpa using hp
    by_cases e1 : p = r
    · subst e1; simp [hru, hcc]
    · by_cases e2 : p = c
      · subst e2; rw [List.getElem?_set_ne (Ne.symm e1)]; simp [hcu, hcr, List.getElem_set_ne (Ne.symm e1)]
      · have hc' := hcap p hp'
        rw [List.getElem?_set_ne (Ne.symm e1), List.getElem?_set_ne (Ne.symm e2)]; simpa [List.getElem_set_ne (Ne.symm e1), List.getElem_set_ne (Ne.symm e2)] using hc'
  refine ⟨(bs.set c bs[r]).set r bs[c], (us.set c ur).set r uc, ⟨(h.list.set c ur).set r uc, by simp [hlen], nodup_swap h.nodup c r hcb hrb, fun p _ => by simp, fun p hp => ⟨L, hcap2 p hp⟩, fun p hp => ?_⟩, fun b hb => ?_, hcap2⟩
  · have hp' : p < bs.length := by simpa using hp
    have keep : ∀ q, (hq : q < bs.length) → Row8 ((w.setCell ⟨g, c, none⟩ ur).setCell ⟨g, r, none⟩ uc) bs[q] (rowF L (M q)) := fun q hq => by
      have hne : bs[q] ≠ g := (h.row q hq).type_ne h.list (by decide)
      exact ((h.row q hq).other (a := ⟨g, c, none⟩) hne _).other (a := ⟨g, r, none⟩) hne _
    by_cases e1 : p = r
    · subst e1
      have : swapR M c p p = M c := by unfold swapR; split <;> simp_all
      simp only [this]
      simpa using keep c hcb
    · by_cases e2 : p = c
      · subst e2
        have : swapR M p r p = M r := by simp [swapR]
        simp only [this]
        rw [List.getElem_set_ne (Ne.symm e1)]
        simpa using keep r hrb
      · have : swapR M c r p = M p := by simp [swapR, e1, e2]
        simp only [this]
        rw [List.getElem_set_ne (Ne.symm e1), List.getElem_set_ne (Ne.symm e2)]
        exact keep p hp'
  · rcases List.mem_or_eq_of_mem_set hb with hb | rfl
    · rcases List.mem_or_eq_of_mem_set hb with hb | rfl
      · exact hl b hb
      · exact hl _ (List.getElem_mem _)
    · exact hl _ (List.getElem_mem _)

set_option maxRecDepth 100000 in
set_option maxHeartbeats 2000000 in
theorem bringUp_any (base g n L c cap : Nat) (M : Nat → Nat → Nat) (w : World) (hn : n ≤ 100) (_hL : L ≤ 1000) (hc : c < n) (hcL : c < L) (hbg : base ≤ g) (ho : Outs base w g n L (fun q => rowF L (M q))) (hpiv : ∃ r, c ≤ r ∧ r < n ∧ M r c ≠ 0) :
    Calls Tryd.prog 102 #[.slice (some ⟨g, 0, none⟩) n cap, .int .i64 c] w fun e w' => e = .returned (.tuple #[]) ∧ ∃ r, c ≤ r ∧ r < n ∧ M r c ≠ 0 ∧ Outs base w' g n L (fun q => rowF L (swapR M c r q)) ∧ Below base w w' := by
  obtain ⟨bs, us, hout, hlow, hcap⟩ := ho
  have HCAP : Hid (∀ q, (h : q < bs.length) → us[q]? = some (.slice (some ⟨bs[q], 0, none⟩) L L)) := hcap
  have HOUT : Hid (OutAt w g n L bs us (fun q => rowF L (M q))) := hout
  have HLOW : Hid (∀ b, b ∈ bs → base ≤ b) := hlow
  have HPIV : Hid (∃ r, c ≤ r ∧ r < n ∧ M r c ≠ 0) := hpiv
  clear hout hlow hpiv hcap
  go_enter Tryd.func102, Tryd.ntmps102
  go_wp2
  go_loop [4] (fun i => ∃ r : Nat, c ≤ r ∧ r ≤ n ∧ i = .int .i64 r ∧ ∀ q, c ≤ q → q < r → M q c = 0) (fun i => n - (intOf i).toNat)
  case atStart => exact ⟨c, Nat.le_refl _, by omega, rfl, fun q h1 h2 => by omega⟩
  case round =>
    obtain ⟨r, hcr, hrn, rfl, hz⟩ := hrel
    have HZ : Hid (∀ q, c ≤ q → q < r → M q c = 0) := hz
    clear hz
    by_cases hlt : r < n
    · obtain ⟨b1, c1, hb1, g1, hbg1, hb1l, hcell⟩ := HOUT.out.read r hlt
      obtain ⟨g2, g3⟩ := hcell c hcL
      rw [show (rowF L (M r)).getD c 0 = M r c by simp [rowF, hcL]] at g2
      obtain ⟨b2, c2, hb2, k1, hz1, hz2, hz3⟩ := HOUT.out.read c hc
      clear hz1 hz2 hz3
      obtain ⟨x, hx⟩ : ∃ x, x = M r c := ⟨_, rfl⟩
      rw [← hx] at g2
      have HX : Hid (x = M r c) := hx
      have k3 := HOUT.out.list.free c
      have k4 := HOUT.out.list.free r
      clear hcell hx
      by_cases h0 : x = 0
      · have e0 : ((x : Int) != 0) = false := by simp [h0]
        have e1 : ((x : Int) == 0) = true := by simp [h0]
        have HZ2 : Hid (∀ q, c ≤ q → q < r + 1 → M q c = 0) := fun q h1 h2 => by
          by_cases e : q = r
          · rw [e, ← HX.out, h0]
          · exact HZ.out q h1 (by omega)
        clear h0
        go_wp2
        go_round
        case rel => exact ⟨r + 1, by omega, by omega, by go_num, HZ2.out⟩
        case measure => simp [intOf]; omega
      · have e0 : ((x : Int) != 0) = true := by simp; omega
        have h0' : ¬ (x : Int) = 0 := by omega
        have HXN : Hid (M r c ≠ 0) := by rw [← HX.out]; exact h0
        by_cases erc : r = c
        · have HSW : Hid (Outs base ((w.setCell ⟨g, c, none⟩ (.slice (some ⟨b1, 0, none⟩) L c1)).setCell ⟨g, r, none⟩ (.slice (some ⟨b2, 0, none⟩) L c2)) g n L (fun q => rowF L (swapR M c r q))) :=
            Outs.swap HOUT.out HLOW.out HCAP.out hc hlt (by rw [← HOUT.out.list.cell c]; exact k1) (by rw [← HOUT.out.list.cell r]; exact g1)
          have erc2 : c = r := erc.symm
          clear erc
          subst erc2
          obtain ⟨e1, e2⟩ : b2 = b1 ∧ c2 = c1 := by
            rw [k1] at g1
            simpa using g1
          subst e1 e2
          clear k4
          go_wp2
          go_region
          all_goals
            go_wp2
            go_returns
            exact ⟨rfl, c, Nat.le_refl _, hlt, HXN.out, HSW.out.to (Below.refl _ _).drew, (((Below.refl _ _).setCell hbg _).setCell hbg _).drew⟩
        · have HSW : Hid (Outs base ((w.setCell ⟨g, c, none⟩ (.slice (some ⟨b1, 0, none⟩) L c1)).setCell ⟨g, r, none⟩ (.slice (some ⟨b2, 0, none⟩) L c2)) g n L (fun q => rowF L (swapR M c r q))) :=
            Outs.swap HOUT.out HLOW.out HCAP.out hc hlt (by rw [← HOUT.out.list.cell c]; exact k1) (by rw [← HOUT.out.list.cell r]; exact g1)
          go_wp2
          go_region
          all_goals
            go_wp2
            go_returns
            exact ⟨rfl, r, hcr, hlt, HXN.out, HSW.out.to (Below.refl _ _).drew, (((Below.refl _ _).setCell hbg _).setCell hbg _).drew⟩
    · obtain rfl : n = r := by omega
      obtain ⟨q, h1, h2, h3⟩ := HPIV.out
      exact absurd (HZ.out q h1 h2) h3
end Go.Proofs.YtlnpppdffhibjaaDoor.Ref

