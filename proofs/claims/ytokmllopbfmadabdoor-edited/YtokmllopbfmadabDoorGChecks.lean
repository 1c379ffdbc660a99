import Derived.Test.YtokmllopbfmadabDoorGField
import Derived.WalkSpells
import Derived.Test.YtokmllopbfmadabDoorGByTables
import Derived.Test.YtokmllopbfmadabDoorGMem
import Derived.Test.YtokmllopbfmadabDoorGSolve
namespace Go.Proofs.YtokmllopbfmadabDoor.FieldWalks
open Go.RowKit

/-- May the counts be? Is it a way? -/
def okCounts (d s : Int) : Bool := decide (1 ≤ d ∧ d ≤ 10 ∧ 0 ≤ s ∧ s ≤ 6)
def okWay (w : Int) : Bool := decide (0 ≤ w ∧ w ≤ 2)

theorem okCounts_no (d s : Int) (h : ¬ (1 ≤ d ∧ d ≤ 10 ∧ 0 ≤ s ∧ s ≤ 6)) : okCounts d s = false := by simp [okCounts]; omega
theorem okCounts_yes (d s : Int) (h : 1 ≤ d ∧ d ≤ 10 ∧ 0 ≤ s ∧ s ≤ 6) : okCounts d s = true := by simp [okCounts]; omega
theorem okWay_no (w : Int) (h : ¬ (0 ≤ w ∧ w ≤ 2)) : okWay w = false := by simp [okWay]; omega
theorem okWay_yes (w : Int) (h : 0 ≤ w ∧ w ≤ 2) : okWay w = true := by simp [okWay]; omega

set_option maxHeartbeats 400000 in
theorem areCounts_any (d s : Int) (w : World) : Calls Tryd.prog 25 #[.int .i64 d, .int .i64 s] w fun e w' => e = .returned (.bool (okCounts d s)) ∧ w' = w := by
  by_cases h1 : 1 ≤ d
  · by_cases h2 : d ≤ 10
    · by_cases h3 : 0 ≤ s
      · by_cases h4 : s ≤ 6
        · rw [okCounts_yes d s ⟨h1, h2, h3, h4⟩]
          go_enter Tryd.func25, Tryd.ntmps25
          go_wp2
          go_ret
          exact ⟨rfl, rfl⟩
        · rw [okCounts_no d s (by omega)]
          go_enter Tryd.func25, Tryd.ntmps25
          go_wp2
          go_ret
          exact ⟨rfl, rfl⟩
      · rw [okCounts_no d s (by omega)]
        go_enter Tryd.func25, Tryd.ntmps25
        go_wp2
        go_ret
        exact ⟨rfl, rfl⟩
    · rw [okCounts_no d s (by omega)]
      go_enter Tryd.func25, Tryd.ntmps25
      go_wp2
      go_ret
      exact ⟨rfl, rfl⟩
  · rw [okCounts_no d s (by omega)]
    go_enter Tryd.func25, Tryd.ntmps25
    go_wp2
    go_ret
    exact ⟨rfl, rfl⟩
theorem isWay_any (x : Int) (w : World) : Calls Tryd.prog 26 #[.int .i64 x] w fun e w' => e = .returned (.bool (okWay x)) ∧ w' = w := by
  by_cases h0 : x = 0
  · subst h0
    rw [show okWay 0 = true from rfl]
    go_enter Tryd.func26, Tryd.ntmps26
    go_wp2
    go_ret
    exact ⟨rfl, rfl⟩
  · by_cases h1 : x = 1
    · subst h1
      rw [show okWay 1 = true from rfl]
      go_enter Tryd.func26, Tryd.ntmps26
      go_wp2
      go_ret
      exact ⟨rfl, rfl⟩
    · by_cases h2 : x = 2
      · subst h2
        rw [show okWay 2 = true from rfl]
        go_enter Tryd.func26, Tryd.ntmps26
        go_wp2
        go_ret
        exact ⟨rfl, rfl⟩
      · rw [okWay_no x (by omega)]
        have b0 : (x == 0) = false := by rw [beq_eq_false_iff_ne]; exact h0
        have b1 : (x == 1) = false := by rw [beq_eq_false_iff_ne]; exact h1
        have b2 : (x == 2) = false := by rw [beq_eq_false_iff_ne]; exact h2
        go_enter Tryd.func26, Tryd.ntmps26
        go_wp2
        go_ret
        exact ⟨rfl, rfl⟩
end Go.Proofs.YtokmllopbfmadabDoor.FieldWalks

namespace Go.Proofs.YtokmllopbfmadabDoor.Ref
open Go.RowKit Mem FieldWalks Tab ByTab Parts
open Gf (Bytes sumTo addTo)

/-- The slice v reads as these strings; they lie in blocks from B on. -/
def StrsNew (w : World) (B : Nat) (v : Value) (ss : List ByteArray) : Prop :=
  ∃ ao cap, v = .slice ao ss.length cap ∧ (ss = [] ∨ ∃ b off, ao = some ⟨b, off, none⟩ ∧ B ≤ b ∧ b < w.heap.size ∧ ∀ k, (h : k < ss.length) → w.cell? ⟨b, off + k, none⟩ = some (.string ss[k]))
theorem StrsNew.at {w : World} {B : Nat} {v : Value} {ss : List ByteArray} (h : StrsNew w B v ss) : StrsAt w v ss := by
  obtain ⟨ao, cap, rfl, h⟩ := h
  refine ⟨ao, cap, rfl, ?_⟩
  rcases h with h | ⟨b, off, rfl, _, h1, h2⟩
  · exact .inl h
  · exact .inr ⟨b, off, rfl, h1, h2⟩
theorem StrsNew.low {w : World} {B C : Nat} {v : Value} {ss : List ByteArray} (h : StrsNew w B v ss) (hC : C ≤ B) : StrsNew w C v ss := by
  obtain ⟨ao, cap, rfl, h⟩ := h
  refine ⟨ao, cap, rfl, ?_⟩
  rcases h with h | ⟨b, off, rfl, h0, h1, h2⟩
  · exact .inl h
  · exact .inr ⟨b, off, rfl, Nat.le_trans hC h0, h1, h2⟩
theorem StrsNew.of_owns {w : World} {base : Nat} {t : TypeId} {v : Value} {n : Nat} {ss : List ByteArray} (h : w.ownsRow base t 1 v n (ss.map Value.string)) : StrsNew w base v ss := by
  obtain ⟨hl, h2⟩ := h
  simp only [List.length_map, Nat.mul_one] at hl
  rcases h2 with ⟨rfl, h0⟩ | ⟨g, cap, cur, rfl, hg, hh, _, _, _, ht⟩
  · exact ⟨none, 0, by rw [hl, h0], .inl (List.eq_nil_of_length_eq_zero (by omega))⟩
  · refine ⟨_, cap, by rw [hl], .inr ⟨g, 0, rfl, hg, lt_of_block hh, fun k hk => ?_⟩⟩
    rw [Nat.zero_add, cell_of_row w g k cur t (0, 0) hh]
    rw [Nat.mul_one] at ht
    have : (cur.toList.take n)[k]? = some (.string ss[k]) := by rw [ht]; simp [hk]
    rw [List.getElem?_take] at this
    split at this
    · simpa using this
    · cases this
def strsTo (ls : List (List Nat)) (k : Nat) : List Value := ((ls.take k).map mkS).map Value.string
theorem strsTo_next (ls : List (List Nat)) (k : Nat) (hk : k < ls.length) : strsTo ls k ++ [.string (mkS ls[k])] = strsTo ls (k + 1) := by
  unfold strsTo
  rw [List.take_add_one, List.getElem?_eq_getElem hk, List.map_append, List.map_append]; rfl
theorem next_data (ps qs : List (List Nat)) (k : Nat) (hk : k < ps.length) : strsTo (ps ++ qs) k ++ [.string (mkS ps[k])] = strsTo (ps ++ qs) (k + 1) := by
  rw [← strsTo_next (ps ++ qs) k (by simp; omega), List.getElem_append_left hk]
theorem next_spare (ps qs : List (List Nat)) (i : Nat) (hi : i < qs.length) : strsTo (ps ++ qs) (ps.length + i) ++ [.string (mkS qs[i])] = strsTo (ps ++ qs) (ps.length + (i + 1)) := by
  rw [← Nat.add_assoc, ← strsTo_next (ps ++ qs) (ps.length + i) (by simp; omega), List.getElem_append_right (by omega)]
  simp

theorem facRow_bytes (d i : Nat) (h : d + i < 256) : Bytes (facRow d i) := by
  intro x hx
  simp only [facRow, List.mem_map, List.mem_range] at hx
  obtain ⟨j, hj, rfl⟩ := hx
  exact Gf.inv_lt _ (Gf.xor_lt h (by omega))

end Go.Proofs.YtokmllopbfmadabDoor.Ref

namespace Go.Proofs.YtokmllopbfmadabDoor.Ref
open Go.RowKit Mem FieldWalks Tab ByTab Parts
open Gf (Bytes sumTo addTo)

/-- The data rows while they are being filled: the first j are whole. -/
def Data (w : World) (D d L j : Nat) (l : List Nat) : Prop :=
  ∃ us : List Value, us.length = d ∧ Blk w D 56 us ∧ (∀ k, k < j → ∃ u, us[k]? = some u ∧ w.ownsRow 0 5 1 u L (bytesV (cutAt l L k))) ∧ ∀ k, j ≤ k → k < d → us[k]? = some (.slice none 0 0)
theorem Data.start (w : World) (d L : Nat) (l : List Nat) : Data (w.alloc (.cells (madeCells #[.slice none 0 0] d) 56)) w.heap.size d L 0 l := by
  refine ⟨List.replicate d (.slice none 0 0), by simp, (Blk.new w _ _).eq (toList_madeCells_one _ d), fun k hk => by omega, fun k _ hk => by simp [hk]⟩
theorem Data.rows {w : World} {D d L : Nat} {l : List Nat} (h : Data w D d L d l) : RowsAt w (.slice (some ⟨D, 0, none⟩) d d) (cuts l d L) := by
  obtain ⟨us, hl, hB, hf, _⟩ := h
  refine ⟨_, d, by rw [show (cuts l d L).length = d by simp [cuts]], .inr ⟨D, 0, rfl, hB.lt, fun k hk => ?_⟩⟩
  simp only [cuts, List.length_map, List.length_range] at hk
  obtain ⟨u, hu, ho⟩ := hf k hk
  refine ⟨u, by rw [Nat.zero_add]; exact hB.cell_some hu, ?_⟩
  have e : (cuts l d L)[k]'(by simpa [cuts] using hk) = cutAt l L k := by simp [cuts]
  rw [e]
  refine BsAt.of_owns (base := 0) (t := 5) ?_
  rw [show (cutAt l L k).length = L by simp [cutAt]]
  exact ho
theorem Data.laid {w W : World} {D d L j : Nat} {l : List Nat} {v : Value} (h : Data w D d L j l) (hj : j < d) (hl : Laid w W D j v) (ho : W.ownsRow 0 5 1 v L (bytesV (cutAt l L j))) : Data W D d L (j + 1) l := by
  obtain ⟨us, hlen, hB, hf, hn⟩ := h
  refine ⟨us.set j v, by simpa using hlen, hl.row.trans (hB.set j v), fun k hk => ?_, fun k h1 h2 => ?_⟩
  · by_cases e : k = j
    · subst e; exact ⟨v, by simp [show k < us.length by omega], ho⟩
    · obtain ⟨u, hu, hou⟩ := hf k (by omega)
      exact ⟨u, by rw [List.getElem?_set_ne (by omega)]; exact hu, ownsRow_laid hou hl hB (by decide)⟩
  · rw [List.getElem?_set_ne (by omega)]; exact hn k (by omega) h2
theorem Data.first {w : World} {D d L j : Nat} {l : List Nat} (h : Data w D d L j l) (hj : j < d) : Laid w w D j (.slice none 0 0) := by
  obtain ⟨us, hlen, hB, hf, hn⟩ := h
  refine ⟨Nat.le_refl _, fun _ _ _ => rfl, ?_⟩
  have := hn j (Nat.le_refl _) hj
  have e : us.set j (.slice none 0 0) = us := by
    apply List.ext_getElem?
    intro k
    by_cases hk : k = j
    · subst hk; rw [this]; simp [show k < us.length by omega]
    · rw [List.getElem?_set_ne (by omega)]
  have := hB.set j (.slice none 0 0)
  rw [e] at this
  exact hB.trans this.symm
theorem Data.blk {w : World} {D d L j : Nat} {l : List Nat} (h : Data w D d L j l) : ∃ us : List Value, us.length = d ∧ Blk w D 56 us := by
  obtain ⟨us, hlen, hB, _⟩ := h; exact ⟨us, hlen, hB⟩
theorem Laid.cell' {w W : World} {D d i : Nat} {v : Value} {us : List Value} (h : Laid w W D i v) (hB : Blk w D 56 us) (hl : us.length = d) (hi : i < d) : W.cell? ⟨D, i, none⟩ = some v ∧ W.frozen? ⟨D, i, none⟩ = false := by
  have e : Blk W D 56 (us.set i v) := h.row.trans (hB.set i v)
  exact ⟨e.cell_some (by simp [show i < us.length by omega]), e.free i⟩
/-- The first t bytes of a piece. -/
def upTo (l : List Nat) (L j t : Nat) : List Value := (bytesV (cutAt l L j)).take t
theorem upTo_next (l : List Nat) (L j t : Nat) (ht : t < L) : upTo l L j t ++ [.int .u8 ((l.getD (j * L + t) 0 : Nat) : Int)] = upTo l L j (t + 1) := by
  have hlen : t < (bytesV (cutAt l L j)).length := by simp [cutAt]; exact ht
  unfold upTo
  rw [List.take_add_one, List.getElem?_eq_getElem hlen, bytesV_getElem]
  simp [cutAt]

theorem owns_slice {w : World} {base : Nat} {e : TypeId} {v : Value} {n : Nat} {xs : List Value} (h : w.ownsRow base e 1 v n xs) : ∃ ao c, v = .slice ao n c := by
  rcases h.2 with ⟨rfl, rfl⟩ | ⟨g, cap, cur, rfl, _⟩
  · exact ⟨_, _, rfl⟩
  · exact ⟨_, _, rfl⟩
theorem cuts_bytes (l : List Nat) (d L i : Nat) (hb : Bytes l) (hi : i < (cuts l d L).length) : Bytes (cuts l d L)[i] := by
  intro x hx
  simp [cuts, cutAt] at hx
  obtain ⟨t, _, rfl⟩ := hx
  exact hb.getD _
theorem nums_get (s : ByteArray) (q : Nat) (h : q < s.size) : (nums s).getD q 0 = (s[q]'h).toNat := by
  have hl : q < (nums s).length := by rw [nums_length]; exact h
  rw [List.getD_eq_getElem?_getD, List.getElem?_eq_getElem hl, Option.getD_some]
  simp only [nums, List.getElem_map, Array.getElem_toList]
  rfl

end Go.Proofs.YtokmllopbfmadabDoor.Ref

namespace Go.Proofs.YtokmllopbfmadabDoor.Ref
open Go.RowKit Mem FieldWalks Tab ByTab Parts
open Gf (Bytes sumTo addTo)

/-- The slice v reads as these whole numbers; its room is no less than its length. -/
def IsC (w : World) (v : Value) (l : List Int) : Prop :=
  ∃ ao ex, v = .slice ao l.length (l.length + ex) ∧ (l = [] ∨ ∃ b off, ao = some ⟨b, off, none⟩ ∧ b < w.heap.size ∧ ∀ k, (h : k < l.length) → w.cell? ⟨b, off + k, none⟩ = some (.int .i64 l[k]))
theorem IsC.to {w w' : World} {v : Value} {l : List Int} (h : IsC w v l) (hb : Below w.heap.size w w') : IsC w' v l := by
  obtain ⟨ao, cap, rfl, h⟩ := h
  refine ⟨ao, cap, rfl, ?_⟩
  rcases h with h | ⟨b, off, rfl, hlt, hc⟩
  · exact .inl h
  · exact .inr ⟨b, off, rfl, Nat.lt_of_lt_of_le hlt hb.size, fun k hk => by rw [hb.cell (p := ⟨b, off + k, none⟩) hlt]; exact hc k hk⟩
theorem IsC.drewN {w : World} {v : Value} {l : List Int} (h : IsC w v l) (n : Nat) : IsC (w.drewN n) v l := h
theorem IsC.take {w : World} {ao : Option Addr} {n c k : Nat} {l : List Int} (h : IsC w (.slice ao n c) l) (hk : k ≤ l.length) : IsC w (.slice ao k c) (l.take k) := by
  obtain ⟨ao, ex, he, h⟩ := h
  injection he with h1 h2 h3
  subst h1 h2 h3
  have e : (l.take k).length = k := by rw [List.length_take]; omega
  refine ⟨ao, l.length - k + ex, by rw [e]; congr 1; omega, ?_⟩
  rcases h with rfl | ⟨b, off, rfl, hlt, hc⟩
  · exact .inl (by simp)
  · exact .inr ⟨b, off, rfl, hlt, fun i hi => by rw [List.getElem_take]; exact hc i (by omega)⟩
theorem not_take_next {l : List Int} {n : Int} {k : Nat} (h : n ∉ l.take k) (hk : k < l.length) (e : l[k] ≠ n) : n ∉ l.take (k + 1) := by
  rw [List.take_add_one, List.getElem?_eq_getElem hk]
  simp only [Option.toList_some, List.mem_append, List.mem_singleton, not_or]
  exact ⟨h, Ne.symm e⟩

/-- Do pieces and lost numbers go together? -/
structure ShapeOk (d s L : Nat) (pieces : List ByteArray) (lost : List Int) : Prop where
  count : pieces.length = d + s
  nums : ∀ k, (h : k < lost.length) → 0 ≤ lost[k] ∧ lost[k] < (d + s : Nat) ∧ lost[k] ∉ lost.take k
  sizes : ∀ p, (h : p < pieces.length) → (p : Int) ∉ lost → pieces[p].size = L
theorem ShapeOk.nodup {d s L : Nat} {pieces : List ByteArray} {lost : List Int} (h : ShapeOk d s L pieces lost) : lost.Nodup := by
  rw [List.Nodup, List.pairwise_iff_getElem]
  intro i j hi hj hij e
  refine (h.nums j hj).2.2 ?_
  rw [← e]
  rw [List.mem_iff_getElem]
  exact ⟨i, by simp; omega, by simp⟩
end Go.Proofs.YtokmllopbfmadabDoor.Ref
