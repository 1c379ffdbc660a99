import Derived.Test.YtokmllopbfmadaaDoorGRefRestored
import Derived.Test.YtokmllopbfmadaaDoorGKPick
import Derived.Test.YtokmllopbfmadaaDoorGBook
import Derived.Test.YtokmllopbfmadaaDoorGKSpread
namespace Go.Proofs.YtokmllopbfmadaaDoor.KeepW
open Go.RowKit Mem FieldWalks Tab ByTab Parts Ref
open Plans (wpList_append_row made_cells owns_form infoInt grown_keeps intsV)

/-- The numbers that are out, behind i raw ones. -/
def goneTo (raw : List Int) (n m : Nat) : Nat → List Nat
  | 0 => []
  | i + 1 => if (goneTo raw n m i).length < m ∧ pickI (raw.getD i 0) n ∉ goneTo raw n m i then goneTo raw n m i ++ [pickI (raw.getD i 0) n] else goneTo raw n m i
theorem goneTo_le (raw : List Int) (n m i : Nat) : (goneTo raw n m i).length ≤ m := by
  induction i with
  | zero => simp [goneTo]
  | succ i ih =>
    unfold goneTo
    split
    · rename_i h; rw [List.length_append, List.length_singleton]; omega
    · exact ih
theorem goneTo_len (raw : List Int) (n m i : Nat) : (goneTo raw n m i).length ≤ i := by
  induction i with
  | zero => simp [goneTo]
  | succ i ih =>
    unfold goneTo
    split
    · rw [List.length_append, List.length_singleton]; omega
    · omega
theorem goneTo_nodup (raw : List Int) (n m i : Nat) : (goneTo raw n m i).Nodup := by
  induction i with
  | zero => simp [goneTo]
  | succ i ih =>
    unfold goneTo
    split
    · rename_i h
      rw [List.nodup_append]
      refine ⟨ih, by simp, fun a ha b hb e => ?_⟩
      rw [List.mem_singleton] at hb
      exact h.2 (by rw [← hb, ← e]; exact ha)
    · exact ih
theorem goneTo_lt (raw : List Int) (n m i : Nat) (hn : 0 < n) : ∀ x, x ∈ goneTo raw n m i → x < n := by
  induction i with
  | zero => intro x hx; simp [goneTo] at hx
  | succ i ih =>
    unfold goneTo
    intro x hx
    split at hx
    · rcases List.mem_append.1 hx with h | h
      · exact ih x h
      · simp at h; rw [h]; exact pickI_lt _ _ hn
    · exact ih x hx
theorem goneTo_full (raw : List Int) (n m i : Nat) (h : m ≤ (goneTo raw n m i).length) : ∀ j, goneTo raw n m (i + j) = goneTo raw n m i := by
  intro j
  induction j with
  | zero => rfl
  | succ j ih =>
    rw [← Nat.add_assoc, goneTo, ih, if_neg (by omega)]
/-- Numbers that are as they must be come out as they are, with one more. -/
theorem goneTo_again (l : List Nat) (k n m : Nat) (hnd : l.Nodup) (hlt : ∀ x, x ∈ l → x < n) (hk : k < n) (hm : l.length < m) :
    goneTo (l.map Int.ofNat ++ [(k : Int)]) n m (l.length + 1) = if k ∈ l then l else l ++ [k] := by
  have key : ∀ i, i ≤ l.length → goneTo (l.map Int.ofNat ++ [(k : Int)]) n m i = l.take i := by
    intro i
    induction i with
    | zero => intro _; simp [goneTo]
    | succ i ih =>
      intro hi
      have ih := ih (by omega)
      have e : (l.map Int.ofNat ++ [(k : Int)]).getD i 0 = ((l[i]'(by omega) : Nat) : Int) := by
        rw [List.getD_eq_getElem?_getD, List.getElem?_append_left (by simpa using (show i < l.length by omega))]
        simp [show i < l.length by omega]
      rw [goneTo, ih, e, pickI_nat _ _ (hlt _ (List.getElem_mem _)), List.take_add_one, List.getElem?_eq_getElem (by omega), Option.toList_some]
      rw [if_pos]
      refine ⟨by rw [List.length_take]; omega, fun hm => ?_⟩
      obtain ⟨q, hq, e2⟩ := List.mem_iff_getElem.1 hm
      have hq' : q < i := by simp at hq; omega
      rw [List.getElem_take] at e2
      rw [List.Nodup, List.pairwise_iff_getElem] at hnd
      exact hnd q i (by omega) (by omega) hq' e2
  have e : (l.map Int.ofNat ++ [(k : Int)]).getD l.length 0 = (k : Int) := by
    rw [List.getD_eq_getElem?_getD, List.getElem?_append_right (by simp)]; simp
  rw [goneTo, key l.length (Nat.le_refl _), List.take_length, e, pickI_nat k n hk]
  by_cases h : k ∈ l
  · rw [if_neg (fun h2 => h2.2 h), if_pos h]
  · rw [if_pos ⟨hm, h⟩, if_neg h]
theorem IsC.of_owns {w : World} {base : Nat} {v : Value} {l : List Nat} (h : w.ownsRow base 3 1 v l.length (intsV l)) : IsC w v (l.map Int.ofNat) := by
  obtain ⟨hl, h2⟩ := h
  rcases h2 with ⟨rfl, h0⟩ | ⟨g, cap, cur, rfl, hg, hh, hle, _, _, ht⟩
  · have : l = [] := List.eq_nil_of_length_eq_zero h0
    subst this
    exact ⟨none, 0, rfl, .inl rfl⟩
  · refine ⟨_, cap - l.length, by simp; omega, .inr ⟨g, 0, rfl, lt_of_block hh, fun k hk => ?_⟩⟩
    have hk' : k < l.length := by simpa using hk
    rw [Nat.zero_add, cell_of_row w g k cur 3 (0, 0) hh]
    rw [Nat.mul_one] at ht
    have : (cur.toList.take l.length)[k]? = some (.int .i64 (l[k] : Nat)) := by rw [ht]; simp [intsV, hk']
    rw [List.getElem?_take_of_lt hk'] at this
    simpa using this

set_option maxRecDepth 100000 in
set_option maxHeartbeats 400000 in
theorem ksame_yes (ss : List ByteArray) (a b : Value) (w : World) (ha : StrsAt w a ss) (hb : StrsAt w b ss) (hn : ss.length ≤ 1000) :
    Calls Tryd.prog 33 #[a, b] w fun e w' => e = .returned (.bool true) ∧ ∃ n, w' = w.drewN n := by
  obtain ⟨aao, acap, rfl, hac⟩ := ha
  obtain ⟨bao, bcap, rfl, hbc⟩ := hb
  have hne : ((ss.length : Int) != (ss.length : Int)) = false := by simp
  have HAC : Hid (ss = [] ∨ ∃ b off, aao = some ⟨b, off, none⟩ ∧ b < w.heap.size ∧ ∀ k, (h : k < ss.length) → w.cell? ⟨b, off + k, none⟩ = some (.string ss[k])) := hac
  have HBC : Hid (ss = [] ∨ ∃ b off, bao = some ⟨b, off, none⟩ ∧ b < w.heap.size ∧ ∀ k, (h : k < ss.length) → w.cell? ⟨b, off + k, none⟩ = some (.string ss[k])) := hbc
  clear hac hbc
  go_enter Tryd.func33, Tryd.ntmps33
  go_wp2
  go_loopw [5] (fun i wr => ∃ k n : Nat, k ≤ ss.length ∧ i = .int .i64 k ∧ wr = w.drewN n) (fun i _ => ss.length - (intOf i).toNat)
  case atStart => exact ⟨0, 0, Nat.zero_le _, rfl, rfl⟩
  case round =>
    obtain ⟨k, n, hk, rfl, rfl⟩ := hrel
    by_cases hlt : k < ss.length
    · obtain ⟨x, xo, rfl, hx, hxc⟩ : ∃ b off, aao = some ⟨b, off, none⟩ ∧ b < w.heap.size ∧ ∀ k, (h : k < ss.length) → w.cell? ⟨b, off + k, none⟩ = some (.string ss[k]) := by
        rcases HAC.out with h | h
        · rw [h] at hlt; simp at hlt
        · exact h
      obtain ⟨y, yo, rfl, hy, hyc⟩ : ∃ b off, bao = some ⟨b, off, none⟩ ∧ b < w.heap.size ∧ ∀ k, (h : k < ss.length) → w.cell? ⟨b, off + k, none⟩ = some (.string ss[k]) := by
        rcases HBC.out with h | h
        · rw [h] at hlt; simp at hlt
        · exact h
      have c1 := hxc k hlt
      have c2 := hyc k hlt
      clear hxc hyc
      have hki : (k : Int) < (ss.length : Int) := by omega
      go_wp2
      go_quiet (fail)
      go_wp2
      go_roundw
      case rel => exact ⟨k + 1, n + nq, by omega, by go_num, rfl⟩
      case measure => simp [intOf]; omega
    · obtain rfl : k = ss.length := by omega
      go_wp2
      go_ret
      exact ⟨rfl, n, rfl⟩

set_option maxRecDepth 100000 in
set_option maxHeartbeats 1000000 in
theorem kgone_any (raw : List Int) (n m : Nat) (rv : Value) (w : World) (hr : IsC w rv raw) (hrl : raw.length < 2 ^ 62) (hb : ∀ x, x ∈ raw → -9223372036854775808 ≤ x ∧ x ≤ 9223372036854775807) (hn : 0 < n) (hn2 : n ≤ 1000) (hm : m ≤ 1000) :
    Calls Tryd.prog 32 #[rv, .int .i64 n, .int .i64 m] w fun e w' => ∃ v, e = .returned v ∧ w'.ownsRow w.heap.size 3 1 v (goneTo raw n m raw.length).length (intsV (goneTo raw n m raw.length)) ∧ Below w.heap.size w w' := by
  obtain ⟨ao, ex, rfl, hc⟩ := hr
  have HC : Hid (raw = [] ∨ ∃ b off, ao = some ⟨b, off, none⟩ ∧ b < w.heap.size ∧ ∀ k, (h : k < raw.length) → w.cell? ⟨b, off + k, none⟩ = some (.int .i64 raw[k])) := hc
  have HB : Hid (∀ x, x ∈ raw → -9223372036854775808 ≤ x ∧ x ≤ 9223372036854775807) := hb
  clear hc hb
  go_enter Tryd.func32, Tryd.ntmps32
  go_wp2
  go_loopw [7, 8] (fun t iv wr => ∃ i : Nat, i ≤ raw.length ∧ iv = .int .i64 i ∧ wr.ownsRow w.heap.size 3 1 t (goneTo raw n m i).length (intsV (goneTo raw n m i)) ∧ Below w.heap.size w wr) (fun _ iv _ => raw.length - (intOf iv).toNat)
  case atStart => exact ⟨0, Nat.zero_le _, rfl, World.ownsRow_nil _ _ _ _, Below.refl _ _⟩
  case round =>
    obtain ⟨i, hi, rfl, hown, hbel⟩ := hrel
    have hsz := hbel.size
    obtain ⟨l, hl⟩ : ∃ l, l = goneTo raw n m i := ⟨_, rfl⟩
    have hlm : l.length ≤ m := by rw [hl]; exact goneTo_le _ _ _ _
    have HL : Hid (l = goneTo raw n m i) := hl
    rw [← hl] at hown
    obtain ⟨ta, tc, rfl⟩ := owns_form hown
    have HOW : Hid (wr.ownsRow w.heap.size 3 1 (.slice ta l.length tc) l.length (intsV l)) := hown
    clear hl hown
    by_cases hlt : i < raw.length
    · have e1 : decide ((i : Int) < (raw.length : Int)) = true := decide_eq_true (by omega)
      by_cases hlen : l.length < m
      · have e2 : decide ((l.length : Int) < (m : Int)) = true := decide_eq_true (by omega)
        obtain ⟨b, off, rfl, hblt, hc⟩ : ∃ b off, ao = some ⟨b, off, none⟩ ∧ b < w.heap.size ∧ ∀ k, (h : k < raw.length) → w.cell? ⟨b, off + k, none⟩ = some (.int .i64 raw[k]) := by
          rcases HC.out with h | h
          · rw [h] at hlt; simp at hlt
          · exact h
        have c1 := hc i hlt
        rw [← hbel.cell (p := ⟨b, off + i, none⟩) hblt] at c1
        obtain ⟨c, hcc⟩ : ∃ c, c = raw[i] := ⟨_, rfl⟩
        rw [← hcc] at c1
        have hcb : -9223372036854775808 ≤ c ∧ c ≤ 9223372036854775807 := by rw [hcc]; exact HB.out _ (List.getElem_mem _)
        obtain ⟨p, hp⟩ : ∃ p, p = pickI c n := ⟨_, rfl⟩
        have HNX : Hid (goneTo raw n m (i + 1) = if p ∈ l then l else l ++ [p]) := by
          show _ = _
          have e : raw.getD i 0 = c := by rw [hcc]; simp [hlt]
          rw [goneTo, e, ← hp, ← HL.out]
          by_cases h : p ∈ l
          · rw [if_neg (fun h2 => h2.2 h), if_pos h]
          · rw [if_pos ⟨hlen, h⟩, if_neg h]
        have HPN : Hid (∀ W, Calls Tryd.prog 19 #[.int .i64 c, .int .i64 n] W fun e w' => e = .returned (.int .i64 (p : Nat)) ∧ w' = W) := by
          intro W
          rw [hp]; exact kpick_any c n W hn hn2 hcb.1 hcb.2
        have hpb : p < 1000 := by rw [hp]; exact Nat.lt_of_lt_of_le (pickI_lt _ _ hn) hn2
        clear hc hcc hp hcb
        go_wp2_with fail
        refine (HPN.out _).mono ?_
        rintro e w2 ⟨rfl, rfl⟩
        go_wp2
        go_loop [10, 11] (fun o kv => ∃ k : Nat, k ≤ l.length ∧ kv = .int .i64 k ∧ o = .bool (decide (p ∈ l.take k))) (fun _ kv => l.length - (intOf kv).toNat)
        case atStart => exact ⟨0, Nat.zero_le _, rfl, by simp⟩
        case round =>
          obtain ⟨k, hk, rfl, rfl⟩ := hrel
          by_cases hkl : k < l.length
          · obtain ⟨g, hta, hcell⟩ : ∃ g, ta = some ⟨g, 0, none⟩ ∧ w2.cell? ⟨g, k, none⟩ = some (.int .i64 (l[k] : Nat)) := by
              rcases HOW.out.2 with ⟨h0, h1⟩ | ⟨g, cap, cur, h0, _, hh, _, _, _, ht⟩
              · omega
              · injection h0 with h0 _ _
                refine ⟨g, h0, ?_⟩
                rw [cell_of_row w2 g k cur 3 (0, 0) hh]
                rw [Nat.mul_one] at ht
                have : (cur.toList.take l.length)[k]? = some (.int .i64 (l[k] : Nat)) := by rw [ht]; simp [intsV, hkl]
                rw [List.getElem?_take_of_lt hkl] at this
                simpa using this
            subst hta
            obtain ⟨y, hy⟩ : ∃ y, y = l[k] := ⟨_, rfl⟩
            rw [← hy] at hcell
            have HY : Hid (l.take (k + 1) = l.take k ++ [y]) := by show _ = _; rw [hy, List.take_add_one, List.getElem?_eq_getElem hkl]; rfl
            obtain ⟨o, ho⟩ : ∃ o, o = decide (p ∈ l.take k) := ⟨_, rfl⟩
            have HO : Hid (o = decide (p ∈ l.take k)) := ho
            rw [← ho]
            clear hy ho
            cases o
            · have HO2 : Hid (decide (p ∈ l.take (k + 1)) = ((y : Int) == (p : Int))) := by
                show _ = _
                have h0 : p ∉ l.take k := by have := HO.out; simpa using this
                rw [HY.out]
                by_cases e : y = p
                · simp [e]
                · have e' : ¬ p = y := fun h => e h.symm
                  have e2 : ((y : Int) == (p : Int)) = false := by simp; omega
                  rw [e2]; simp [h0, e']
              go_wp2
              go_round
              case rel => exact ⟨k + 1, by omega, by go_num, by rw [HO2.out]⟩
              case measure => simp [intOf]; omega
            · have HO2 : Hid (decide (p ∈ l.take (k + 1)) = true) := by
                show _ = _
                have h0 : p ∈ l.take k := by have := HO.out; simpa using this.symm
                rw [HY.out]; simp [h0]
              go_wp2
              go_round
              case rel => exact ⟨k + 1, by omega, by go_num, by rw [HO2.out]⟩
              case measure => simp [intOf]; omega
          · obtain rfl : k = l.length := by omega
            rw [List.take_length]
            by_cases hmem : p ∈ l
            · have ed : decide (p ∈ l) = true := decide_eq_true hmem
              have HN2 : Hid (goneTo raw n m (i + 1) = l) := by show _ = _; rw [HNX.out, if_pos hmem]
              rw [ed]
              clear hmem ed
              go_wp2
              go_roundw
              case rel => exact ⟨i + 1, by omega, by go_num, by rw [HN2.out]; exact HOW.out, hbel⟩
              case measure => simp [intOf]; omega
            · have ed : decide (p ∈ l) = false := decide_eq_false hmem
              have HN2 : Hid (goneTo raw n m (i + 1) = l ++ [p]) := by show _ = _; rw [HNX.out, if_neg hmem]
              have HNC : Hid (intsV l ++ [.int .i64 (p : Int)] = intsV (l ++ [p])) := by show _ = _; simp [intsV]
              have hown := HOW.out
              rw [ed]
              clear hmem ed
              go_wp2_with (at_builtin; refine wpList_append_row _ rfl _ _ 45 rfl w.heap.size 3 (.int .i64 0) 1 8 Tryd.underlying45 infoInt rfl (by decide) (by decide) _ _ _ rfl (by exact hown.alloc _) ⟨w2.heap.size, 0, none⟩ 1 [.int .i64 (p : Int)] rfl rfl (made_cells w2 3 _) (by simp [Value.oneCell']) (by omega) (by simp; omega) ?_; rw [HNC.out]; intro v' w3 hown' hg hbel')
              have HB3 : Hid (Below w.heap.size w w3) := hbel' _ _ (hbel.alloc hsz _) (Nat.le_refl _)
              have HO3 : Hid (w3.ownsRow w.heap.size 3 1 v' (goneTo raw n m (i + 1)).length (intsV (goneTo raw n m (i + 1)))) := by
                show w3.ownsRow _ _ _ _ _ _
                rw [HN2.out]; simpa using hown'
              clear hg hbel' hown'
              go_roundw
              case rel => exact ⟨i + 1, by omega, by go_num, HO3.out, HB3.out⟩
              case measure => simp [intOf]; omega
      · have e2 : decide ((l.length : Int) < (m : Int)) = false := decide_eq_false (by omega)
        have HF : Hid (goneTo raw n m raw.length = l) := by
          show _ = _
          have := goneTo_full raw n m i (by rw [← HL.out]; omega) (raw.length - i)
          rw [show i + (raw.length - i) = raw.length by omega] at this
          rw [this, ← HL.out]
        go_wp2
        go_ret
        exact ⟨_, rfl, by rw [HF.out]; exact HOW.out, hbel⟩
    · obtain rfl : i = raw.length := by omega
      have e1 : decide ((raw.length : Int) < (raw.length : Int)) = false := decide_eq_false (by omega)
      have HF : Hid (goneTo raw n m raw.length = l) := HL.out.symm
      go_wp2
      go_ret
      exact ⟨_, rfl, by rw [HF.out]; exact HOW.out, hbel⟩
end Go.Proofs.YtokmllopbfmadaaDoor.KeepW

namespace Go.Proofs.YtokmllopbfmadaaDoor.KeepW
open Go.RowKit Mem FieldWalks Tab ByTab Parts Ref Top
open Gf (chosen left_ Fits)
open Plans (infoInt intsV)

/-- The program's Gather answers as it must. -/
def GatherYes : Prop := ∀ (d s x n L : Nat) (pieces : List ByteArray) (lost : List Int) (pv lv : Value) (w : World), Table w → StrsAt w pv pieces → IsC w lv lost → 1 ≤ d → d ≤ 10 → s ≤ 6 → x ≤ 2 → n ≤ 400 → L = (n + d - 1) / d →
  (∀ p, (h : p < pieces.length) → pieces[p].size < 2 ^ 62) → ShapeOk d s L pieces lost → lost.length ≤ s →
  Calls Tryd.prog 27 #[.int .i64 d, .int .i64 s, .int .i64 x, .int .i64 n, pv, lv] w fun e w' => ∃ v ps, e = .returned (.tuple #[.string (mkS (ps.flatten.take n)), v, .int .i64 0]) ∧
    Fits d L (chosen (left_ lost) d s) (fun p => nums (pieces.getD p ByteArray.empty)) ps ∧ StrsAt w' v (texts ps (sums (facs d s) ps L)) ∧ Below w.heap.size w w'
/-- It says when too many are lost. -/
def GatherFew : Prop := ∀ (d s x n L : Nat) (pieces : List ByteArray) (lost : List Int) (pv lv : Value) (w : World), Table w → StrsAt w pv pieces → IsC w lv lost → 1 ≤ d → d ≤ 10 → s ≤ 6 → x ≤ 2 → n ≤ 400 → L = (n + d - 1) / d →
  (∀ p, (h : p < pieces.length) → pieces[p].size < 2 ^ 62) → ShapeOk d s L pieces lost → s < lost.length → lost.length ≤ 100 →
  Calls Tryd.prog 27 #[.int .i64 d, .int .i64 s, .int .i64 x, .int .i64 n, pv, lv] w fun e w' => e = .returned (.tuple #[.string ByteArray.empty, .slice none 0 0, .int .i64 7]) ∧ Below w.heap.size w w'

/-- Pieces of a text, junk in the place of those that are lost. -/
def spoilTo (ss : List ByteArray) (l : List Nat) (junk : ByteArray) : Nat → List ByteArray
  | 0 => ss
  | i + 1 => (spoilTo ss l junk i).set (l.getD i 0) junk
theorem spoilTo_length (ss : List ByteArray) (l : List Nat) (junk : ByteArray) (i : Nat) : (spoilTo ss l junk i).length = ss.length := by
  induction i with
  | zero => rfl
  | succ i ih => rw [spoilTo, List.length_set, ih]
theorem spoilTo_other (ss : List ByteArray) (l : List Nat) (junk : ByteArray) (p : Nat) (hp : p ∉ l) : ∀ i, i ≤ l.length → (spoilTo ss l junk i).getD p ByteArray.empty = ss.getD p ByteArray.empty := by
  intro i
  induction i with
  | zero => intro _; rfl
  | succ i ih =>
    intro hi
    have hne : l.getD i 0 ≠ p := fun e => hp (by rw [← e]; simp [show i < l.length by omega])
    rw [spoilTo, List.getD_eq_getElem?_getD, List.getElem?_set_ne hne, ← List.getD_eq_getElem?_getD]
    exact ih (by omega)
theorem spoilTo_small (ss : List ByteArray) (l : List Nat) (junk : ByteArray) (N : Nat) (hj : junk.size < N) (hs : ∀ p, (h : p < ss.length) → ss[p].size < N) : ∀ i p, (h : p < (spoilTo ss l junk i).length) → (spoilTo ss l junk i)[p].size < N := by
  intro i
  induction i with
  | zero => exact hs
  | succ i ih =>
    intro p h
    simp only [spoilTo, List.getElem_set]
    split
    · exact hj
    · exact ih p (by simpa [spoilTo] using h)
theorem spoilt_shape {d s L : Nat} {ss : List ByteArray} {l : List Nat} {junk : ByteArray} (hlen : ss.length = d + s) (hsz : ∀ p, (h : p < ss.length) → ss[p].size = L) (hnd : l.Nodup) (hlt : ∀ x, x ∈ l → x < d + s) : ShapeOk d s L (spoilTo ss l junk l.length) (l.map Int.ofNat) := by
  refine ⟨by rw [spoilTo_length, hlen], fun k hk => ?_, fun p hp hno => ?_⟩
  · have hk' : k < l.length := by simpa using hk
    have h1 := hlt _ (List.getElem_mem hk')
    simp only [List.getElem_map]
    refine ⟨by show (0 : Int) ≤ (l[k] : Nat); omega, by show ((l[k] : Nat) : Int) < ((d + s : Nat) : Int); omega, fun hm => ?_⟩
    obtain ⟨q, hq, e⟩ := List.mem_iff_getElem.1 hm
    simp only [List.length_take, List.length_map] at hq
    rw [List.getElem_take, List.getElem_map] at e
    have e' : l[q]'(by omega) = l[k] := by
      have : ((l[q]'(by omega) : Nat) : Int) = ((l[k] : Nat) : Int) := e
      omega
    rw [List.Nodup, List.pairwise_iff_getElem] at hnd
    exact hnd q k (by omega) hk' (by omega) e'
  · have hp' : p < ss.length := by rw [spoilTo_length] at hp; exact hp
    have hpl : p ∉ l := fun hm => hno (List.mem_map.2 ⟨p, hm, rfl⟩)
    have := spoilTo_other ss l junk p hpl l.length (Nat.le_refl _)
    rw [List.getD_eq_getElem?_getD, List.getElem?_eq_getElem hp, Option.getD_some, List.getD_eq_getElem?_getD, List.getElem?_eq_getElem hp', Option.getD_some] at this
    rw [this]; exact hsz p hp'
/-- A row of one's own, one cell of it written. -/
theorem owns_set {w : World} {base g n cap : Nat} {e : TypeId} {xs : List Value} (h : w.ownsRow base e 1 (.slice (some ⟨g, 0, none⟩) n cap) n xs) (k : Nat) (hk : k < n) (u : Value) :
    (w.setCell ⟨g, k, none⟩ u).ownsRow base e 1 (.slice (some ⟨g, 0, none⟩) n cap) n (xs.set k u) ∧ (∃ o, w.cell? ⟨g, k, none⟩ = some o) ∧ w.frozen? ⟨g, k, none⟩ = false ∧ base ≤ g := by
  obtain ⟨hl, h2⟩ := h
  rcases h2 with ⟨h0, h1⟩ | ⟨g', cap', cur, hv, hg, hh, hle, hmx, hsz, ht⟩
  · omega
  · injection hv with hv _ hc
    injection hv with hv
    injection hv with hv
    subst hv hc
    rw [Nat.mul_one] at hsz ht
    have hB : Blk w g e cur.toList := by unfold Blk; rw [hh]
    have hkc : k < cur.toList.length := by simp; omega
    refine ⟨⟨by simpa using hl, .inr ⟨g, cap, (cur.toList.set k u).toArray, rfl, hg, ?_, hle, hmx, by simp; omega, ?_⟩⟩, ⟨cur.toList[k], hB.cell_some (by simp)⟩, hB.free k, hg⟩
    · exact hB.set k u
    · rw [Nat.mul_one, List.toList_toArray, List.take_set, ht]
end Go.Proofs.YtokmllopbfmadaaDoor.KeepW
