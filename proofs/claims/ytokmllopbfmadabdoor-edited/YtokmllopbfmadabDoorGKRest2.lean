import Derived.Test.YtokmllopbfmadabDoorGKGone
import Derived.Test.YtokmllopbfmadabDoorGSpoilMath
namespace Go.Proofs.YtokmllopbfmadabDoor.KeepW
open Go.RowKit Mem FieldWalks Tab ByTab Parts Ref Top
open Gf (chosen left_ Fits)
open Plans (infoInt intsV)

theorem shape_all {d s L : Nat} {ss : List ByteArray} {l : List Nat} (hlen : ss.length = d + s) (hsz : ∀ p, (h : p < ss.length) → ss[p].size = L) (hnd : l.Nodup) (hlt : ∀ x, x ∈ l → x < d + s) : ShapeOk d s L ss (l.map Int.ofNat) := by
  have h := spoilt_shape (L := L) (junk := ByteArray.empty) hlen hsz hnd hlt
  exact ⟨hlen, h.nums, fun p hp _ => hsz p hp⟩
theorem all_in (m : List Nat) (k : Nat) (h : ∀ i, i < k → i ∈ m) : k ≤ m.length := by
  have h1 := Gf.filter_mem_le (m.map Int.ofNat) (List.range k) List.nodup_range
  rw [List.filter_eq_self.2 (fun i hi => by
    have := h i (List.mem_range.1 hi)
    simp only [decide_eq_true_eq]
    exact List.mem_map.2 ⟨i, this, rfl⟩)] at h1
  simpa using h1
theorem owns_low {w : World} {base base' n : Nat} {e : TypeId} {v : Value} {xs : List Value} (h : w.ownsRow base e 1 v n xs) (hb : base' ≤ base) : w.ownsRow base' e 1 v n xs := by
  obtain ⟨h1, h2⟩ := h
  refine ⟨h1, ?_⟩
  rcases h2 with h2 | ⟨g, cap, cur, hv, hg, r⟩
  · exact Or.inl h2
  · exact Or.inr ⟨g, cap, cur, hv, Nat.le_trans hb hg, r⟩
/-- The lost numbers while one more is sought. -/
structure More (d s k : Nat) (m : List Nat) : Prop where
  nodup : m.Nodup
  low : ∀ x, x ∈ m → x < d + s
  len : m.length ≤ s + 1
  all : ∀ i, i < k → i ∈ m
theorem More.next {d s k : Nat} {m : List Nat} (h : More d s k m) (hm : m.length ≤ s) (hd : 1 ≤ d) : More d s (k + 1) (if k ∈ m then m else m ++ [k]) ∧ k < d + s := by
  have hk := all_in m k h.all
  refine ⟨?_, by omega⟩
  by_cases e : k ∈ m
  · rw [if_pos e]
    refine ⟨h.nodup, h.low, h.len, fun i hi => ?_⟩
    by_cases e2 : i = k
    · rw [e2]; exact e
    · exact h.all i (by omega)
  · rw [if_neg e]
    refine ⟨?_, fun x hx => ?_, by simp; omega, fun i hi => ?_⟩
    · rw [List.nodup_append]
      refine ⟨h.nodup, by simp, fun a ha x hx e2 => ?_⟩
      rw [List.mem_singleton] at hx
      exact e (by rw [← hx, ← e2]; exact ha)
    · rcases List.mem_append.1 hx with hx | hx
      · exact h.low x hx
      · rw [List.mem_singleton] at hx; omega
    · by_cases e2 : i = k
      · rw [e2]; simp
      · exact List.mem_append_left _ (h.all i (by omega))

end Go.Proofs.YtokmllopbfmadabDoor.KeepW

/- What is told of any pack that has a right head and length, and of a spoilt pack of a text, in lists alone. Nothing of the program. -/
namespace Go.Proofs.YtokmllopbfmadabDoor.Ref
open Go.RowKit Mem FieldWalks Tab ByTab Parts Top
open Gf (Bytes Fits chosen left_)

def chunks (l : List Nat) (m : Nat) : Nat → List (List Nat)
  | 0 => []
  | k + 1 => l.take m :: chunks (l.drop m) m k
theorem chunks_length (m : Nat) : ∀ k (l : List Nat), (chunks l m k).length = k
  | 0, _ => rfl
  | k + 1, l => by rw [chunks, List.length_cons, chunks_length m k]
theorem chunks_each (m : Nat) : ∀ k (l : List Nat), l.length = k * m → ∀ f ∈ chunks l m k, f.length = m
  | 0, _, _, f, hf => by simp [chunks] at hf
  | k + 1, l, hl, f, hf => by
    rw [Nat.add_mul, Nat.one_mul] at hl
    rcases List.mem_cons.1 hf with rfl | hf
    · rw [List.length_take]; omega
    · exact chunks_each m k (l.drop m) (by rw [List.length_drop]; omega) f hf
theorem chunks_flat (m : Nat) : ∀ k (l : List Nat), l.length = k * m → (chunks l m k).flatten = l
  | 0, l, hl => by
    have : l = [] := List.eq_nil_of_length_eq_zero (by omega)
    simp [chunks, this]
  | k + 1, l, hl => by
    rw [Nat.add_mul, Nat.one_mul] at hl
    rw [chunks, List.flatten_cons, chunks_flat m k (l.drop m) (by rw [List.length_drop]; omega), List.take_append_drop]
theorem first6 (l : List Nat) (h : 6 ≤ l.length) : l.take 6 = [l.getD 0 0, l.getD 1 0, l.getD 2 0, l.getD 3 0, l.getD 4 0, l.getD 5 0] := by
  match l, h with
  | a :: b :: c :: d :: e :: f :: r, _ => rfl
/-- Whatever has a right head and length is a pack of frames. -/
theorem isPack_of {p : ByteArray} (h : headOk p) (c : cutOk p) : ∃ fs, IsPack p (pD p) (pS p) (pN p) (pL p) fs := by
  obtain ⟨h10, h0, h1, ⟨d1, d2, s2⟩, n2, hc⟩ := h
  have hlen : (nums p).length = p.size := nums_length p
  have hz : ((nums p).drop 10).length = (pD p + pS p) * (pL p + 5) := by
    rw [List.length_drop, hlen]; unfold cutOk at c; omega
  have e6 : nums (p.extract 0 6) = headL (pD p) (pS p) (pN p) := by
    have l4 : byteAt p 4 < 256 := (nums_bytes p).getD 4
    have l5 : byteAt p 5 < 256 := (nums_bytes p).getD 5
    rw [numsX, List.drop_zero, first6 _ (by omega)]
    unfold headL pN
    rw [show (256 * byteAt p 4 + byteAt p 5) / 256 = byteAt p 4 by omega, show (256 * byteAt p 4 + byteAt p 5) % 256 = byteAt p 5 by omega]
    show [byteAt p 0, byteAt p 1, pD p, pS p, byteAt p 4, byteAt p 5] = _
    rw [h0, h1]
  refine ⟨chunks ((nums p).drop 10) (pL p + 5) (pD p + pS p), d1, d2, s2, n2, rfl, chunks_length _ _ _, chunks_each _ _ _ hz, ?_⟩
  rw [chunks_flat _ _ _ hz]
  have e10 : nums (p.extract 6 10) = Crc.check (headL (pD p) (pS p) (pN p)) := by rw [hc, numsC, e6]
  rw [← e10, ← e6, numsX, numsX, List.drop_zero]
  have a1 := List.take_append_drop 6 (nums p)
  have a2 := List.take_append_drop 4 ((nums p).drop 6)
  rw [List.drop_drop] at a2
  rw [List.append_assoc]
  show nums p = (nums p).take 6 ++ (((nums p).drop 6).take 4 ++ (nums p).drop (6 + 4))
  rw [a2, a1]
theorem IsPack.pieces_length {p : ByteArray} {d s n L : Nat} {fs : List (List Nat)} (h : IsPack p d s n L fs) : (openPieces p).length = d + s := by
  simp [openPieces, piecesTo, h.hD, h.hS]
theorem IsPack.pieces_size {p : ByteArray} {d s n L : Nat} {fs : List (List Nat)} (h : IsPack p d s n L fs) (k : Nat) (hk : k < (openPieces p).length) : (openPieces p)[k].size = L := by
  have := h.pieces_length
  simp only [openPieces, piecesTo, List.getElem_map, List.getElem_range]
  exact h.pieceSize k (by rw [h.len]; omega)
theorem openBad_nodup (p : ByteArray) : (openBad p).Nodup := List.Nodup.sublist List.filter_sublist List.nodup_range
theorem IsPack.bad_lt {p : ByteArray} {d s n L : Nat} {fs : List (List Nat)} (h : IsPack p d s n L fs) (x : Nat) (hx : x ∈ openBad p) : x < d + s := by
  simp only [openBad, badTo, List.mem_filter, List.mem_range, h.hD, h.hS] at hx
  exact hx.1
theorem IsPack.bad_length {p : ByteArray} {d s n L : Nat} {fs : List (List Nat)} (h : IsPack p d s n L fs) : (openBad p).length ≤ d + s := by
  unfold openBad badTo
  rw [h.hD, h.hS]
  have := List.length_filter_le (badAt p) (List.range (d + s))
  rwa [List.length_range] at this
/-- The pieces as they stand, and those that are bad, go together. -/
theorem IsPack.shape {p : ByteArray} {d s n L : Nat} {fs : List (List Nat)} (h : IsPack p d s n L fs) : ShapeOk d s L (openPieces p) ((openBad p).map Int.ofNat) :=
  KeepW.shape_all h.pieces_length h.pieces_size (openBad_nodup p) h.bad_lt
theorem nodup_le : ∀ (l m : List Nat), l.Nodup → l ⊆ m → l.length ≤ m.length
  | [], _, _, _ => Nat.zero_le _
  | a :: l, m, hn, hs => by
    have ha : a ∈ m := hs (by simp)
    have h1 := nodup_le l (m.erase a) (List.nodup_cons.1 hn).2 fun x hx => by
      have hne : x ≠ a := fun e => (List.nodup_cons.1 hn).1 (e ▸ hx)
      exact (List.mem_erase_of_ne hne).2 (hs (by simp [hx]))
    rw [List.length_erase_of_mem ha] at h1
    have := List.length_pos_of_mem ha
    rw [List.length_cons]; omega
/-- What is bad of a spoilt pack. -/
theorem Spoilt.bad_length {q : ByteArray} {d s n L : Nat} {ps : List ByteArray} {bad : List Nat} {fs : List (List Nat)} (h : Spoilt q d s n L ps bad fs) : (openBad q).length ≤ bad.length := by
  have hs : openBad q ⊆ bad := by
    intro x hx
    rw [h.opened] at hx
    simpa using (List.mem_filter.1 hx).2
  exact nodup_le _ _ (openBad_nodup q) hs
/-- What Gather is handed of a spoilt pack of a text fits the text. -/
theorem Spoilt.fit {q : ByteArray} {d s L : Nat} {T : ByteArray} {bad : List Nat} {fs : List (List Nat)} (h : Spoilt q d s T.size L (pieces d s T) bad fs) : ∀ p, p < d + s → (p : Int) ∉ (openBad q).map Int.ofNat → (openPieces q).getD p ByteArray.empty = (pieces d s T).getD p ByteArray.empty := by
  intro p hp hn
  have h1 : p < (openPieces q).length := by rw [h.pieces_length]; exact hp
  have h2 : p < (pieces d s T).length := by rw [h.plen]; exact hp
  rw [List.getD_eq_getElem?_getD, List.getElem?_eq_getElem h1, List.getD_eq_getElem?_getD, List.getElem?_eq_getElem h2]
  simp only [Option.getD_some]
  refine h.pieces_get p h1 h2 fun hb => hn (List.mem_map.2 ⟨p, ?_, rfl⟩)
  rw [h.opened, List.mem_filter]
  exact ⟨List.mem_range.2 hp, decide_eq_true hb⟩
end Go.Proofs.YtokmllopbfmadabDoor.Ref
