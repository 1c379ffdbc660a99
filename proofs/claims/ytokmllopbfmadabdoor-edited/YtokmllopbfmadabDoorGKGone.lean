import Derived.Test.YtokmllopbfmadabDoorGRefRestored
import Derived.Test.YtokmllopbfmadabDoorGKPick
import Derived.Test.YtokmllopbfmadabDoorGBook
import Derived.Test.YtokmllopbfmadabDoorGKSpread
namespace Go.Proofs.YtokmllopbfmadabDoor.KeepW
open Go.RowKit Mem FieldWalks Tab ByTab Parts Ref
open Plans (wpList_append_row made_cells owns_form infoInt grown_keeps intsV)

/-- The numbers that are out, behind i raw ones. -/
def goneTo (raw : List Int) (n m : Nat) : Nat → List Nat
  | 0 => []
  | i + 1 => if (goneTo raw n m i).length < m ∧ pickI (raw.getD i 0) n ∉ goneTo raw n m i then goneTo raw n m i ++ [pickI (raw.getD i 0) n] else goneTo raw n m i
theorem goneTo_le (raw : List Int) (n m i : Nat) : (goneTo raw n m i).length ≤ m := by
  induction i with
  | zero => simp [goneTo]
  | succ i ih =>
    unfold goneTo
    split
    · rename_i h; rw [List.length_append, List.length_singleton]; omega
    · exact ih
theorem goneTo_len (raw : List Int) (n m i : Nat) : (goneTo raw n m i).length ≤ i := by
  induction i with
  | zero => simp [goneTo]
  | succ i ih =>
    unfold goneTo
    split
    · rw [List.length_append, List.length_singleton]; omega
    · omega
theorem goneTo_nodup (raw : List Int) (n m i : Nat) : (goneTo raw n m i).Nodup := by
  induction i with
  | zero => simp [goneTo]
  | succ i ih =>
    unfold goneTo
    split
    · rename_i h
      rw [List.nodup_append]
      refine ⟨ih, by simp, fun a ha b hb e => ?_⟩
      rw [List.mem_singleton] at hb
      exact h.2 (by rw [← hb, ← e]; exact ha)
    · exact ih
theorem goneTo_lt (raw : List Int) (n m i : Nat) (hn : 0 < n) : ∀ x, x ∈ goneTo raw n m i → x < n := by
  induction i with
  | zero => intro x hx; simp [goneTo] at hx
  | succ i ih =>
    unfold goneTo
    intro x hx
    split at hx
    · rcases List.mem_append.1 hx with h | h
      · exact ih x h
      · simp at h; rw [h]; exact pickI_lt _ _ hn
    · exact ih x hx
theorem goneTo_full (raw : List Int) (n m i : Nat) (h : m ≤ (goneTo raw n m i).length) : ∀ j, goneTo raw n m (i + j) = goneTo raw n m i := by
  intro j
  induction j with
  | zero => rfl
  | succ j ih =>
    rw [← Nat.add_assoc, goneTo, ih, if_neg (by omega)]
/-- Numbers that are as they must be come out as they are, with one more. -/
theorem goneTo_again (l : List Nat) (k n m : Nat) (hnd : l.Nodup) (hlt : ∀ x, x ∈ l → x < n) (hk : k < n) (hm : l.length < m) :
    goneTo (l.map Int.ofNat ++ [(k : Int)]) n m (l.length + 1) = if k ∈ l then l else l ++ [k] := by
  have key : ∀ i, i ≤ l.length → goneTo (l.map Int.ofNat ++ [(k : Int)]) n m i = l.take i := by
    intro i
    induction i with
    | zero => intro _; simp [goneTo]
    | succ i ih =>
      intro hi
      have ih := ih (by omega)
      have e : (l.map Int.ofNat ++ [(k : Int)]).getD i 0 = ((l[i]'(by omega) : Nat) : Int) := by
        rw [List.getD_eq_getElem?_getD, List.getElem?_append_left (by simpa using (show i < l.length by omega))]
        simp [show i < l.length by omega]
      rw [goneTo, ih, e, pickI_nat _ _ (hlt _ (List.getElem_mem _)), List.take_add_one, List.getElem?_eq_getElem (by omega), Option.toList_some]
      rw [if_pos]
      refine ⟨by rw [List.length_take]; omega, fun hm => ?_⟩
      obtain ⟨q, hq, e2⟩ := List.mem_iff_getElem.1 hm
      have hq' : q < i := by simp at hq; omega
      rw [List.getElem_take] at e2
      rw [List.Nodup, List.pairwise_iff_getElem] at hnd
      exact hnd q i (by omega) (by omega) hq' e2
  have e : (l.map Int.ofNat ++ [(k : Int)]).getD l.length 0 = (k : Int) := by
    rw [List.getD_eq_getElem?_getD, List.getElem?_append_right (by simp)]; simp
  rw [goneTo, key l.length (Nat.le_refl _), List.take_length, e, pickI_nat k n hk]
  by_cases h : k ∈ l
  · rw [if_neg (fun h2 => h2.2 h), if_pos h]
  · rw [if_pos ⟨hm, h⟩, if_neg h]
theorem IsC.of_owns {w : World} {base : Nat} {v : Value} {l : List Nat} (h : w.ownsRow base 3 1 v l.length (intsV l)) : IsC w v (l.map Int.ofNat) := by
  obtain ⟨hl, h2⟩ := h
  rcases h2 with ⟨rfl, h0⟩ | ⟨g, cap, cur, rfl, hg, hh, hle, _, _, ht⟩
  · have : l = [] := List.eq_nil_of_length_eq_zero h0
    subst this
    exact ⟨none, 0, rfl, .inl rfl⟩
  · refine ⟨_, cap - l.length, by simp; omega, .inr ⟨g, 0, rfl, lt_of_block hh, fun k hk => ?_⟩⟩
    have hk' : k < l.length := by simpa using hk
    rw [Nat.zero_add, cell_of_row w g k cur 3 (0, 0) hh]
    rw [Nat.mul_one] at ht
    have : (cur.toList.take l.length)[k]? = some (.int .i64 (l[k] : Nat)) := by rw [ht]; simp [intsV, hk']
    rw [List.getElem?_take_of_lt hk'] at this
    simpa using this

end Go.Proofs.YtokmllopbfmadabDoor.KeepW

namespace Go.Proofs.YtokmllopbfmadabDoor.KeepW
open Go.RowKit Mem FieldWalks Tab ByTab Parts Ref Top
open Gf (chosen left_ Fits)
open Plans (infoInt intsV)

/-- Pieces of a text, junk in the place of those that are lost. -/
def spoilTo (ss : List ByteArray) (l : List Nat) (junk : ByteArray) : Nat → List ByteArray
  | 0 => ss
  | i + 1 => (spoilTo ss l junk i).set (l.getD i 0) junk
theorem spoilTo_length (ss : List ByteArray) (l : List Nat) (junk : ByteArray) (i : Nat) : (spoilTo ss l junk i).length = ss.length := by
  induction i with
  | zero => rfl
  | succ i ih => rw [spoilTo, List.length_set, ih]
theorem spoilTo_other (ss : List ByteArray) (l : List Nat) (junk : ByteArray) (p : Nat) (hp : p ∉ l) : ∀ i, i ≤ l.length → (spoilTo ss l junk i).getD p ByteArray.empty = ss.getD p ByteArray.empty := by
  intro i
  induction i with
  | zero => intro _; rfl
  | succ i ih =>
    intro hi
    have hne : l.getD i 0 ≠ p := fun e => hp (by rw [← e]; simp [show i < l.length by omega])
    rw [spoilTo, List.getD_eq_getElem?_getD, List.getElem?_set_ne hne, ← List.getD_eq_getElem?_getD]
    exact ih (by omega)
theorem spoilTo_small (ss : List ByteArray) (l : List Nat) (junk : ByteArray) (N : Nat) (hj : junk.size < N) (hs : ∀ p, (h : p < ss.length) → ss[p].size < N) : ∀ i p, (h : p < (spoilTo ss l junk i).length) → (spoilTo ss l junk i)[p].size < N := by
  intro i
  induction i with
  | zero => exact hs
  | succ i ih =>
    intro p h
    simp only [spoilTo, List.getElem_set]
    split
    · exact hj
    · exact ih p (by simpa [spoilTo] using h)
theorem spoilt_shape {d s L : Nat} {ss : List ByteArray} {l : List Nat} {junk : ByteArray} (hlen : ss.length = d + s) (hsz : ∀ p, (h : p < ss.length) → ss[p].size = L) (hnd : l.Nodup) (hlt : ∀ x, x ∈ l → x < d + s) : ShapeOk d s L (spoilTo ss l junk l.length) (l.map Int.ofNat) := by
  refine ⟨by rw [spoilTo_length, hlen], fun k hk => ?_, fun p hp hno => ?_⟩
  · have hk' : k < l.length := by simpa using hk
    have h1 := hlt _ (List.getElem_mem hk')
    simp only [List.getElem_map]
    refine ⟨by show (0 : Int) ≤ (l[k] : Nat); omega, by show ((l[k] : Nat) : Int) < ((d + s : Nat) : Int); omega, fun hm => ?_⟩
    obtain ⟨q, hq, e⟩ := List.mem_iff_getElem.1 hm
    simp only [List.length_take, List.length_map] at hq
    rw [List.getElem_take, List.getElem_map] at e
    have e' : l[q]'(by omega) = l[k] := by
      have : ((l[q]'(by omega) : Nat) : Int) = ((l[k] : Nat) : Int) := e
      omega
    rw [List.Nodup, List.pairwise_iff_getElem] at hnd
    exact hnd q k (by omega) hk' (by omega) e'
  · have hp' : p < ss.length := by rw [spoilTo_length] at hp; exact hp
    have hpl : p ∉ l := fun hm => hno (List.mem_map.2 ⟨p, hm, rfl⟩)
    have := spoilTo_other ss l junk p hpl l.length (Nat.le_refl _)
    rw [List.getD_eq_getElem?_getD, List.getElem?_eq_getElem hp, Option.getD_some, List.getD_eq_getElem?_getD, List.getElem?_eq_getElem hp', Option.getD_some] at this
    rw [this]; exact hsz p hp'
/-- A row of one's own, one cell of it written. -/
theorem owns_set {w : World} {base g n cap : Nat} {e : TypeId} {xs : List Value} (h : w.ownsRow base e 1 (.slice (some ⟨g, 0, none⟩) n cap) n xs) (k : Nat) (hk : k < n) (u : Value) :
    (w.setCell ⟨g, k, none⟩ u).ownsRow base e 1 (.slice (some ⟨g, 0, none⟩) n cap) n (xs.set k u) ∧ (∃ o, w.cell? ⟨g, k, none⟩ = some o) ∧ w.frozen? ⟨g, k, none⟩ = false ∧ base ≤ g := by
  obtain ⟨hl, h2⟩ := h
  rcases h2 with ⟨h0, h1⟩ | ⟨g', cap', cur, hv, hg, hh, hle, hmx, hsz, ht⟩
  · omega
  · injection hv with hv _ hc
    injection hv with hv
    injection hv with hv
    subst hv hc
    rw [Nat.mul_one] at hsz ht
    have hB : Blk w g e cur.toList := by unfold Blk; rw [hh]
    have hkc : k < cur.toList.length := by simp; omega
    refine ⟨⟨by simpa using hl, .inr ⟨g, cap, (cur.toList.set k u).toArray, rfl, hg, ?_, hle, hmx, by simp; omega, ?_⟩⟩, ⟨cur.toList[k], hB.cell_some (by simp)⟩, hB.free k, hg⟩
    · exact hB.set k u
    · rw [Nat.mul_one, List.toList_toArray, List.take_set, ht]
end Go.Proofs.YtokmllopbfmadabDoor.KeepW
