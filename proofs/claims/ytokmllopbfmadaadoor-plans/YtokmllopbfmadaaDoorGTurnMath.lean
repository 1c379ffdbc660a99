import Derived.Test.YtokmllopbfmadaaDoorGMem
import Derived.Test.YtokmllopbfmadaaDoorGGf
/- The slots that turn a bit; sums of slots. -/
namespace Go.Proofs.YtokmllopbfmadaaDoor.Plans
open Go.RowKit Mem

/-- The slots of one piece that turn a bit of its product with f: behind b of its bits. -/
def turnIn (f bit o : Nat) : Nat → List Nat
  | 0 => []
  | b + 1 => turnIn f bit o b ++ (if (Gf.times f (2 ^ b)).testBit bit then [o + b] else [])
/-- The slots of the first j pieces that turn a bit of the sum. -/
def turnTo (row : List Nat) (bit : Nat) : Nat → List Nat
  | 0 => []
  | j + 1 => turnTo row bit j ++ turnIn (row.getD j 0) bit (8 * j) 8
theorem turnIn_le (f bit o b : Nat) : (turnIn f bit o b).length ≤ b := by
  induction b with
  | zero => simp [turnIn]
  | succ b ih => unfold turnIn; split <;> simp <;> omega
theorem turnTo_le (row : List Nat) (bit j : Nat) : (turnTo row bit j).length ≤ 8 * j := by
  induction j with
  | zero => simp [turnTo]
  | succ j ih => unfold turnTo; have := turnIn_le (row.getD j 0) bit (8 * j) 8; rw [List.length_append]; omega
theorem turn_yes (f bit o b : Nat) (h : (Gf.times f (2 ^ b)).testBit bit = true) : turnIn f bit o (b + 1) = turnIn f bit o b ++ [o + b] := by
  simp [turnIn, h]
theorem turn_no (f bit o b : Nat) (h : (Gf.times f (2 ^ b)).testBit bit = false) : turnIn f bit o (b + 1) = turnIn f bit o b := by
  simp [turnIn, h]
theorem turnIn_mem (f bit o : Nat) : ∀ b x, x ∈ turnIn f bit o b → o ≤ x ∧ x < o + b
  | 0, x, h => by simp [turnIn] at h
  | b + 1, x, h => by
    rw [turnIn, List.mem_append] at h
    rcases h with h | h
    · have := turnIn_mem f bit o b x h; omega
    · split at h
      · simp at h; omega
      · cases h
theorem turnIn_rising (f bit o : Nat) : ∀ b, (turnIn f bit o b).Pairwise (· < ·)
  | 0 => by simp [turnIn]
  | b + 1 => by
    rw [turnIn, List.pairwise_append]
    refine ⟨turnIn_rising f bit o b, by split <;> simp, fun x hx y hy => ?_⟩
    have := turnIn_mem f bit o b x hx
    split at hy
    · simp at hy; omega
    · cases hy
theorem turnTo_mem (row : List Nat) (bit : Nat) : ∀ j x, x ∈ turnTo row bit j → x < 8 * j
  | 0, x, h => by simp [turnTo] at h
  | j + 1, x, h => by
    rw [turnTo, List.mem_append] at h
    rcases h with h | h
    · have := turnTo_mem row bit j x h; omega
    · have := turnIn_mem _ _ _ _ _ h; omega

/-- The sum of these slots. -/
def xs (f : Nat → Nat) (ts : List Nat) : Nat := (ts.map f).foldl (· ^^^ ·) 0
theorem foldl_xor (l : List Nat) : ∀ a, l.foldl (· ^^^ ·) a = a ^^^ l.foldl (· ^^^ ·) 0 := by
  induction l with
  | nil => intro a; simp
  | cons x l ih => intro a; rw [List.foldl_cons, ih, List.foldl_cons, ih (0 ^^^ x)]; simp [Nat.xor_assoc]
theorem xs_append (f : Nat → Nat) (a b : List Nat) : xs f (a ++ b) = xs f a ^^^ xs f b := by
  unfold xs; rw [List.map_append, List.foldl_append, foldl_xor]
theorem xs_nil (f : Nat → Nat) : xs f [] = 0 := rfl
theorem xs_one (f : Nat → Nat) (x : Nat) : xs f [x] = f x := by simp [xs]
theorem xs_cons (f : Nat → Nat) (x : Nat) (l : List Nat) : xs f (x :: l) = f x ^^^ xs f l := by
  have := xs_append f [x] l
  rw [xs_one] at this; exact this
theorem xs_congr {f g : Nat → Nat} {ts : List Nat} (h : ∀ x, x ∈ ts → f x = g x) : xs f ts = xs g ts := by
  unfold xs; rw [List.map_congr_left h]
theorem runOn_append (f : Nat → Nat) (a b : List Stp) : runOn f (a ++ b) = runOn (runOn f a) b := by simp [runOn]
theorem xs_filter1 (f : Nat → Nat) (a : Nat) : ∀ l : List Nat, l.Pairwise (· < ·) → a ∈ l → xs f l = xs f (l.filter fun x => x != a) ^^^ f a
  | [], _, h => by cases h
  | x :: l, hp, h => by
    rw [List.pairwise_cons] at hp
    by_cases e : x = a
    · subst e
      have hf : l.filter (fun y => y != x) = l := List.filter_eq_self.2 fun y hy => by have := hp.1 y hy; simp; omega
      rw [xs_cons, List.filter_cons_of_neg (by simp), hf, Nat.xor_comm]
    · have ha : a ∈ l := by
        rcases List.mem_cons.1 h with h | h
        · exact absurd h.symm e
        · exact h
      rw [xs_cons, List.filter_cons_of_pos (by simp [e]), xs_cons, xs_filter1 f a l hp.2 ha, Nat.xor_assoc]
theorem length_filter1 (a : Nat) : ∀ l : List Nat, l.Pairwise (· < ·) → a ∈ l → (l.filter fun x => x != a).length + 1 = l.length
  | [], _, h => by cases h
  | x :: l, hp, h => by
    rw [List.pairwise_cons] at hp
    by_cases e : x = a
    · subst e
      have hf : l.filter (fun y => y != x) = l := List.filter_eq_self.2 fun y hy => by have := hp.1 y hy; simp; omega
      rw [List.filter_cons_of_neg (by simp), hf]; rfl
    · have ha : a ∈ l := by
        rcases List.mem_cons.1 h with h | h
        · exact absurd h.symm e
        · exact h
      rw [List.filter_cons_of_pos (by simp [e]), List.length_cons, length_filter1 a l hp.2 ha]; rfl
/-- What is left of a list behind the pair. -/
def rest2 (a b : Nat) (l : List Nat) : List Nat := l.filter fun x => !(x == a || x == b)
theorem rest2_eq (a b : Nat) (l : List Nat) : rest2 a b l = (l.filter fun x => x != a).filter fun x => x != b := by
  unfold rest2; rw [List.filter_filter]
  refine List.filter_congr fun x _ => ?_
  cases h1 : (x == a) <;> cases h2 : (x == b) <;> simp [bne, h1, h2]
theorem rest2_xs (f : Nat → Nat) {a b : Nat} {l : List Nat} (hp : l.Pairwise (· < ·)) (hab : a ≠ b) (ha : a ∈ l) (hb : b ∈ l) : xs f l = xs f (rest2 a b l) ^^^ (f a ^^^ f b) := by
  have hb' : b ∈ l.filter fun x => x != a := by simp [hb, Ne.symm hab]
  rw [rest2_eq, xs_filter1 f a l hp ha, xs_filter1 f b _ (hp.filter _) hb', Nat.xor_assoc, Nat.xor_comm (f b)]
theorem rest2_length {a b : Nat} {l : List Nat} (hp : l.Pairwise (· < ·)) (hab : a ≠ b) (ha : a ∈ l) (hb : b ∈ l) : (rest2 a b l).length + 2 = l.length := by
  have hb' : b ∈ l.filter fun x => x != a := by simp [hb, Ne.symm hab]
  have h1 := length_filter1 a l hp ha
  have h2 := length_filter1 b _ (hp.filter (fun x => x != a)) hb'
  rw [rest2_eq]; omega
theorem rest2_mem {a b x : Nat} {l : List Nat} : x ∈ rest2 a b l ↔ x ∈ l ∧ x ≠ a ∧ x ≠ b := by simp [rest2]
end Go.Proofs.YtokmllopbfmadaaDoor.Plans

/- The plan, in plain numbers: pairs that many lists have are made once. -/
namespace Go.Proofs.YtokmllopbfmadaaDoor.Plans

/-- Does the list have both? -/
def both (a b : Nat) (l : List Nat) : Bool := decide (a ∈ l) && decide (b ∈ l)
/-- How many lists have both. -/
def cnt (L : List (List Nat)) (a b : Nat) : Nat := if a < b then L.countP (both a b) else 0
/-- The pair that most lists have: the least of those. -/
def IsBest (L : List (List Nat)) (p : Nat × Nat) (t : Nat) : Prop :=
  (∀ x y, cnt L x y ≤ t) ∧ ((t = 0 ∧ p = (0, 0)) ∨ (0 < t ∧ cnt L p.1 p.2 = t ∧ ∀ x y, cnt L x y = t → p.1 < x ∨ (p.1 = x ∧ p.2 ≤ y)))
theorem IsBest.one {L : List (List Nat)} {p q : Nat × Nat} {t u : Nat} (h : IsBest L p t) (k : IsBest L q u) : p = q ∧ t = u := by
  obtain ⟨h1, h2⟩ := h
  obtain ⟨k1, k2⟩ := k
  rcases h2 with ⟨ht, hp⟩ | ⟨ht, hp, hl⟩
  · rcases k2 with ⟨ku, kp⟩ | ⟨ku, kp, kl⟩
    · exact ⟨hp.trans kp.symm, by omega⟩
    · have := h1 q.1 q.2; omega
  · rcases k2 with ⟨ku, kp⟩ | ⟨ku, kp, kl⟩
    · have := k1 p.1 p.2; omega
    · have e1 := h1 q.1 q.2
      have e2 := k1 p.1 p.2
      have e : t = u := by omega
      have a := hl q.1 q.2 (by omega)
      have b := kl p.1 p.2 (by omega)
      refine ⟨Prod.ext (by omega) (by omega), e⟩
open Classical in
noncomputable def best (L : List (List Nat)) : (Nat × Nat) × Nat := if h : ∃ q : (Nat × Nat) × Nat, IsBest L q.1 q.2 then Classical.choose h else ((0, 0), 0)
theorem best_eq {L : List (List Nat)} {p : Nat × Nat} {t : Nat} (h : IsBest L p t) : best L = (p, t) := by
  have hex : ∃ q : (Nat × Nat) × Nat, IsBest L q.1 q.2 := ⟨(p, t), h⟩
  unfold best
  rw [dif_pos hex]
  have := (Classical.choose_spec hex).one h
  exact Prod.ext this.1 this.2
/-- The helper in the pair's place. -/
def putH (L : List (List Nat)) (p : Nat × Nat) (h : Nat) : List (List Nat) := L.map fun l => if both p.1 p.2 l then rest2 p.1 p.2 l ++ [h] else l
/-- The lists behind k helpers. -/
noncomputable def listsTo (L : List (List Nat)) (h : Nat) : Nat → List (List Nat)
  | 0 => L
  | k + 1 => putH (listsTo L h k) (best (listsTo L h k)).1 (h + k)
/-- The helpers' steps. -/
noncomputable def helpTo (L : List (List Nat)) (h : Nat) : Nat → List Stp
  | 0 => []
  | k + 1 => helpTo L h k ++ [⟨h + k, (best (listsTo L h k)).1.1, true⟩, ⟨h + k, (best (listsTo L h k)).1.2, false⟩]
/-- So many helpers are made. -/
def IsEnd (L : List (List Nat)) (h K : Nat) : Prop := (best (listsTo L h K)).2 < 3 ∧ (∀ k, k < K → 3 ≤ (best (listsTo L h k)).2) ∧ ∀ k, k ≤ K → ∃ p t, IsBest (listsTo L h k) p t
theorem IsEnd.one {L : List (List Nat)} {h K M : Nat} (a : IsEnd L h K) (b : IsEnd L h M) : K = M := by
  by_cases h1 : K < M
  · have := b.2.1 K h1; have := a.1; omega
  · by_cases h2 : M < K
    · have := a.2.1 M h2; have := b.1; omega
    · omega
open Classical in
noncomputable def endOf (L : List (List Nat)) (h : Nat) : Nat := if e : ∃ K, IsEnd L h K then Classical.choose e else 0
theorem endOf_eq {L : List (List Nat)} {h K : Nat} (e : IsEnd L h K) : endOf L h = K := by
  have hex : ∃ K, IsEnd L h K := ⟨K, e⟩
  unfold endOf
  rw [dif_pos hex]
  exact (Classical.choose_spec hex).one e
/-- The lists of one piece. -/
def needs (rows : List (List Nat)) (j : Nat) : List (List Nat) := (List.range (8 * rows.length)).map fun k => turnIn ((rows.getD (k / 8) []).getD j 0) (k % 8) (8 * j) 8
/-- The steps into one sum's bit. -/
def addB (dst : Nat) : List Nat → Bool → List Stp
  | [], _ => []
  | x :: l, b => ⟨dst, x, !b⟩ :: addB dst l true
/-- The steps into the sums' bits, of the first k lists. -/
def addTo' (first : Nat) (L : List (List Nat)) (begun : Nat → Bool) : Nat → List Stp
  | 0 => []
  | k + 1 => addTo' first L begun k ++ addB (first + k) (L.getD k []) (begun k)
/-- Which bits have had a step, behind the first j pieces. -/
def begunTo (rows : List (List Nat)) : Nat → Nat → Bool
  | 0, _ => false
  | j + 1, k => begunTo rows j k || !((needs rows j).getD k []).isEmpty
noncomputable def pieceSteps (rows : List (List Nat)) (n j : Nat) : List Stp :=
  helpTo (needs rows j) (8 * (n + rows.length)) (endOf (needs rows j) (8 * (n + rows.length))) ++ addTo' (8 * n) (listsTo (needs rows j) (8 * (n + rows.length)) (endOf (needs rows j) (8 * (n + rows.length)))) (begunTo rows j) (8 * rows.length)
/-- ████ The plan. ████ -/
noncomputable def planTo (rows : List (List Nat)) (n : Nat) : Nat → List Stp
  | 0 => []
  | j + 1 => planTo rows n j ++ pieceSteps rows n j
/-- Each piece's helpers come to an end. -/
def Ends (rows : List (List Nat)) (n : Nat) : Prop := ∀ j, j < n → IsEnd (needs rows j) (8 * (n + rows.length)) (endOf (needs rows j) (8 * (n + rows.length)))

/-! ### what the lists are -/
structure LOk (L : List (List Nat)) (o h k : Nat) : Prop where
  up : ∀ l, l ∈ L → l.Pairwise (· < ·)
  inn : ∀ l, l ∈ L → ∀ x, x ∈ l → (o ≤ x ∧ x < o + 8) ∨ (h ≤ x ∧ x < h + k)
def total (L : List (List Nat)) : Nat := (L.map List.length).sum
theorem putH_length (L : List (List Nat)) (p : Nat × Nat) (h : Nat) : (putH L p h).length = L.length := by simp [putH]
theorem listsTo_length (L : List (List Nat)) (h k : Nat) : (listsTo L h k).length = L.length := by
  induction k with
  | zero => rfl
  | succ k ih => rw [listsTo, putH_length, ih]
theorem needs_length (rows : List (List Nat)) (j : Nat) : (needs rows j).length = 8 * rows.length := by simp [needs]
theorem needs_ok (rows : List (List Nat)) (j h : Nat) : LOk (needs rows j) (8 * j) h 0 := by
  constructor
  · intro l hl
    simp only [needs, List.mem_map] at hl
    obtain ⟨k, _, rfl⟩ := hl
    exact turnIn_rising _ _ _ _
  · intro l hl x hx
    simp only [needs, List.mem_map] at hl
    obtain ⟨k, _, rfl⟩ := hl
    exact .inl (turnIn_mem _ _ _ _ _ hx)
theorem LOk.put {L : List (List Nat)} {o h k : Nat} (H : LOk L o h k) (ho : o + 8 ≤ h) (p : Nat × Nat) : LOk (putH L p (h + k)) o h (k + 1) := by
  constructor
  · intro l hl
    simp only [putH, List.mem_map] at hl
    obtain ⟨m, hm, rfl⟩ := hl
    split
    · rw [List.pairwise_append]
      refine ⟨(H.up m hm).filter _, by simp, fun x hx y hy => ?_⟩
      have := H.inn m hm x (rest2_mem.1 hx).1
      simp at hy; omega
    · exact H.up m hm
  · intro l hl x hx
    simp only [putH, List.mem_map] at hl
    obtain ⟨m, hm, rfl⟩ := hl
    split at hx
    · rcases List.mem_append.1 hx with hx | hx
      · have := H.inn m hm x (rest2_mem.1 hx).1; omega
      · simp at hx; omega
    · have := H.inn m hm x hx; omega
theorem listsTo_ok {L : List (List Nat)} {o h : Nat} (H : LOk L o h 0) (ho : o + 8 ≤ h) : ∀ k, LOk (listsTo L h k) o h k
  | 0 => H
  | k + 1 => (listsTo_ok H ho k).put ho _
theorem both_iff {a b : Nat} {l : List Nat} : both a b l = true ↔ a ∈ l ∧ b ∈ l := by simp [both]
theorem total_put {p : Nat × Nat} (hp : p.1 < p.2) (h : Nat) : ∀ (L : List (List Nat)), (∀ l, l ∈ L → l.Pairwise (· < ·)) → total (putH L p h) + L.countP (both p.1 p.2) = total L
  | [], _ => rfl
  | l :: L, hu => by
    have ih := total_put hp h L (fun l hl => hu l (List.mem_cons_of_mem _ hl))
    have e1 : total (putH (l :: L) p h) = (if both p.1 p.2 l then rest2 p.1 p.2 l ++ [h] else l).length + total (putH L p h) := by simp [total, putH]
    have e2 : total (l :: L) = l.length + total L := by simp [total]
    rw [e1, e2]
    by_cases hb : both p.1 p.2 l = true
    · have hm := both_iff.1 hb
      have := rest2_length (hu l (List.mem_cons_self ..)) (by omega) hm.1 hm.2
      rw [List.countP_cons_of_pos hb, if_pos hb, List.length_append, List.length_singleton]; omega
    · rw [List.countP_cons_of_neg hb, if_neg hb]; omega
theorem cnt_pos {L : List (List Nat)} {a b : Nat} (h : 0 < cnt L a b) : a < b ∧ ∃ l, l ∈ L ∧ a ∈ l ∧ b ∈ l := by
  unfold cnt at h
  split at h
  · rename_i hab
    obtain ⟨l, hl, hb⟩ := List.countP_pos_iff.1 h
    exact ⟨hab, l, hl, both_iff.1 hb⟩
  · omega
theorem IsBest.pair {L : List (List Nat)} {p : Nat × Nat} {t : Nat} (h : IsBest L p t) (ht : 3 ≤ t) : p.1 < p.2 ∧ L.countP (both p.1 p.2) = t ∧ ∃ l, l ∈ L ∧ p.1 ∈ l ∧ p.2 ∈ l := by
  rcases h.2 with ⟨h0, _⟩ | ⟨_, hc, _⟩
  · omega
  · obtain ⟨h1, h2⟩ := cnt_pos (L := L) (a := p.1) (b := p.2) (by omega)
    refine ⟨h1, ?_, h2⟩
    unfold cnt at hc; rw [if_pos h1] at hc; exact hc
/-- What is known behind k helpers. -/
theorem pair_at {L : List (List Nat)} {h K : Nat} (e : IsEnd L h K) {k : Nat} (hk : k < K) : IsBest (listsTo L h k) (best (listsTo L h k)).1 (best (listsTo L h k)).2 ∧ 3 ≤ (best (listsTo L h k)).2 := by
  obtain ⟨p, t, hb⟩ := e.2.2 k (by omega)
  have := best_eq hb
  refine ⟨?_, e.2.1 k hk⟩
  rw [this]; exact hb
theorem total_to {L : List (List Nat)} {o h K : Nat} (H : LOk L o h 0) (ho : o + 8 ≤ h) (e : IsEnd L h K) : ∀ k, k ≤ K → total (listsTo L h k) + 3 * k ≤ total L
  | 0, _ => Nat.le_refl _
  | k + 1, hk => by
    have ih := total_to H ho e k (by omega)
    obtain ⟨hb, ht⟩ := pair_at e (k := k) (by omega)
    obtain ⟨h1, h2, _⟩ := hb.pair ht
    have := total_put h1 (h + k) _ (listsTo_ok H ho k).up
    rw [listsTo]; omega
theorem total_le (m : Nat) : ∀ (L : List (List Nat)), (∀ l, l ∈ L → l.length ≤ m) → total L ≤ m * L.length
  | [], _ => by simp [total]
  | l :: L, h => by
    have := total_le m L (fun l hl => h l (List.mem_cons_of_mem _ hl))
    have := h l (List.mem_cons_self ..)
    have e2 : total (l :: L) = l.length + total L := by simp [total]
    rw [e2, List.length_cons, Nat.mul_add, Nat.mul_one]; omega
theorem needs_total (rows : List (List Nat)) (j : Nat) : total (needs rows j) ≤ 64 * rows.length := by
  have := total_le 8 (needs rows j) (fun l hl => by
    simp only [needs, List.mem_map] at hl
    obtain ⟨k, _, rfl⟩ := hl
    exact turnIn_le _ _ _ _)
  rw [needs_length] at this; omega
theorem end_le {rows : List (List Nat)} {n j K : Nat} (hj : j < n) (e : IsEnd (needs rows j) (8 * (n + rows.length)) K) : 3 * K ≤ 64 * rows.length := by
  have h1 := total_to (needs_ok rows j _) (by omega) e K (Nat.le_refl _)
  have h2 := needs_total rows j
  omega
/-! ### how many steps there are -/
theorem helpTo_length (L : List (List Nat)) (h k : Nat) : (helpTo L h k).length = 2 * k := by
  induction k with
  | zero => rfl
  | succ k ih => rw [helpTo, List.length_append, ih]; rfl
theorem addB_length (dst : Nat) : ∀ (l : List Nat) (b : Bool), (addB dst l b).length = l.length
  | [], _ => rfl
  | x :: l, b => by rw [addB, List.length_cons, addB_length dst l, List.length_cons]
theorem addB_snoc (dst x : Nat) : ∀ (l : List Nat) (b : Bool), addB dst (l ++ [x]) b = addB dst l b ++ [⟨dst, x, !(b || !l.isEmpty)⟩]
  | [], b => by simp [addB]
  | y :: l, b => by
    rw [List.cons_append, addB, addB_snoc dst x l true]
    simp [addB]
theorem addTo_length (first : Nat) (L : List (List Nat)) (b : Nat → Bool) : ∀ k, k ≤ L.length → (addTo' first L b k).length = total (L.take k)
  | 0, _ => rfl
  | k + 1, hk => by
    have hlt : k < L.length := by omega
    have e1 : L.take (k + 1) = L.take k ++ [L[k]] := by rw [List.take_add_one, List.getElem?_eq_getElem hlt]; rfl
    have e2 : total (L.take k ++ [L[k]]) = total (L.take k) + L[k].length := by unfold total; rw [List.map_append, List.sum_append]; simp
    have e3 : L.getD k [] = L[k] := by simp [hlt]
    rw [addTo', List.length_append, addTo_length first L b k (by omega), addB_length, e1, e2, e3]
theorem piece_few {rows : List (List Nat)} {n j : Nat} (hj : j < n) (e : IsEnd (needs rows j) (8 * (n + rows.length)) (endOf (needs rows j) (8 * (n + rows.length)))) : (pieceSteps rows n j).length ≤ total (needs rows j) := by
  have h1 := total_to (needs_ok rows j _) (by omega) e _ (Nat.le_refl _)
  unfold pieceSteps
  rw [List.length_append, helpTo_length, addTo_length _ _ _ _ (by rw [listsTo_length, needs_length]; omega), List.take_of_length_le (by rw [listsTo_length, needs_length]; omega)]
  omega
/-- How many pairs of bits there are, of the first j pieces. -/
def needsTo (rows : List (List Nat)) : Nat → Nat
  | 0 => 0
  | j + 1 => needsTo rows j + total (needs rows j)
theorem plan_few {rows : List (List Nat)} {n : Nat} (e : Ends rows n) : ∀ j, j ≤ n → (planTo rows n j).length ≤ needsTo rows j
  | 0, _ => Nat.le_refl _
  | j + 1, hj => by
    have := plan_few e j (by omega)
    have := piece_few (j := j) (by omega) (e j (by omega))
    rw [planTo, List.length_append, needsTo]; omega
theorem needsTo_le (rows : List (List Nat)) (j : Nat) : needsTo rows j ≤ 64 * rows.length * j := by
  induction j with
  | zero => simp [needsTo]
  | succ j ih => have := needs_total rows j; rw [needsTo, Nat.mul_add, Nat.mul_one]; omega
end Go.Proofs.YtokmllopbfmadaaDoor.Plans

/- What the plan comes to. -/
namespace Go.Proofs.YtokmllopbfmadaaDoor.Plans

theorem upd_self' (f : Nat → Nat) (k x : Nat) : upd f k x k = x := by simp [upd]
theorem upd_ne' {f : Nat → Nat} {k x i : Nat} (h : i ≠ k) : upd f k x i = f i := by simp [upd, h]
theorem upd_upd' (f : Nat → Nat) (k x y : Nat) : upd (upd f k x) k y = upd f k y := by
  funext i; unfold upd; split <;> rfl
theorem upd_id' (f : Nat → Nat) (k x : Nat) (h : f k = x) : upd f k x = f := by
  funext i; unfold upd; split
  · rename_i e; rw [e, h]
  · rfl
theorem run_two (f : Nat → Nat) (h a b : Nat) (hb : b ≠ h) : runOn f [⟨h, a, true⟩, ⟨h, b, false⟩] = upd f h (f a ^^^ f b) := by
  show step1 (step1 f ⟨h, a, true⟩) ⟨h, b, false⟩ = _
  simp only [step1, if_true, Bool.false_eq_true, if_false]
  rw [upd_upd', upd_self', upd_ne' hb]
theorem putH_at (L : List (List Nat)) (p : Nat × Nat) (h i : Nat) (hi : i < L.length) : (putH L p h).getD i [] = if both p.1 p.2 (L.getD i []) then rest2 p.1 p.2 (L.getD i []) ++ [h] else L.getD i [] := by
  simp [putH, List.getD_eq_getElem?_getD, hi]
theorem at_mem {L : List (List Nat)} {i : Nat} (hi : i < L.length) : L.getD i [] ∈ L := by
  simp [List.getD_eq_getElem?_getD, hi]
theorem run_help {L : List (List Nat)} {o h K : Nat} (H : LOk L o h 0) (ho : o + 8 ≤ h) (e : IsEnd L h K) (f : Nat → Nat) : ∀ k, k ≤ K →
    (∀ x, (x < h ∨ h + k ≤ x) → runOn f (helpTo L h k) x = f x) ∧ ∀ i, i < L.length → xs (runOn f (helpTo L h k)) ((listsTo L h k).getD i []) = xs f (L.getD i [])
  | 0, _ => ⟨fun x _ => rfl, fun i _ => rfl⟩
  | k + 1, hk => by
    obtain ⟨ih1, ih2⟩ := run_help H ho e f k (by omega)
    obtain ⟨hb, ht⟩ := pair_at e (k := k) (by omega)
    obtain ⟨hlt, _, l0, hl0, ha0, hb0⟩ := hb.pair ht
    have hok := listsTo_ok H ho k
    have i1 := hok.inn l0 hl0 _ ha0
    have i2 := hok.inn l0 hl0 _ hb0
    rw [helpTo, listsTo, runOn_append]
    generalize (best (listsTo L h k)).1 = p at *
    rw [run_two _ _ _ _ (by omega)]
    refine ⟨fun x hx => ?_, fun i hi => ?_⟩
    · rw [upd_ne' (by omega)]; exact ih1 x (by omega)
    · have hi' : i < (listsTo L h k).length := by rw [listsTo_length]; exact hi
      have hm := at_mem hi'
      rw [putH_at _ _ _ _ hi', ← ih2 i hi]
      generalize (listsTo L h k).getD i [] = l at hm
      generalize runOn f (helpTo L h k) = g
      have hin : ∀ x, x ∈ l → x ≠ h + k := fun x hx => by have := hok.inn l hm x hx; omega
      by_cases hbo : both p.1 p.2 l = true
      · have hmm := both_iff.1 hbo
        rw [if_pos hbo, xs_append, xs_one, upd_self', rest2_xs g (hok.up l hm) (by omega) hmm.1 hmm.2]
        congr 1
        exact xs_congr fun x hx => upd_ne' (hin x (rest2_mem.1 hx).1)
      · rw [if_neg hbo]
        exact xs_congr fun x hx => upd_ne' (hin x hx)
theorem run_addB (dst : Nat) : ∀ (l : List Nat) (f : Nat → Nat) (b : Bool), (∀ x, x ∈ l → x ≠ dst) → (b = false → f dst = 0) → runOn f (addB dst l b) = upd f dst (f dst ^^^ xs f l)
  | [], f, b, _, _ => by rw [xs_nil, Nat.xor_zero, upd_id' f dst _ rfl]; rfl
  | x :: l, f, b, hne, h0 => by
    have hx := hne x (List.mem_cons_self ..)
    have e : step1 f ⟨dst, x, !b⟩ = upd f dst (f dst ^^^ f x) := by
      unfold step1
      cases b
      · rw [h0 rfl]; simp
      · simp
    show runOn (step1 f ⟨dst, x, !b⟩) (addB dst l true) = _
    rw [e, run_addB dst l _ true (fun y hy => hne y (List.mem_cons_of_mem _ hy)) (fun h => by cases h), upd_upd', upd_self', xs_cons, Nat.xor_assoc]
    congr 2
    congr 1
    exact xs_congr fun y hy => upd_ne' (hne y (List.mem_cons_of_mem _ hy))
theorem run_addTo (first M : Nat) (L : List (List Nat)) (begun : Nat → Bool) (f : Nat → Nat) (hL : ∀ i, i < M → ∀ x, x ∈ L.getD i [] → x < first ∨ first + M ≤ x) (h0 : ∀ i, i < M → begun i = false → f (first + i) = 0) : ∀ k, k ≤ M →
    ∀ x, runOn f (addTo' first L begun k) x = if first ≤ x ∧ x < first + k then f x ^^^ xs f (L.getD (x - first) []) else f x
  | 0, _, x => by rw [if_neg (by omega)]; rfl
  | k + 1, hk, x => by
    have ih := run_addTo first M L begun f hL h0 k (by omega)
    have hself : runOn f (addTo' first L begun k) (first + k) = f (first + k) := by rw [ih, if_neg (by omega)]
    have hl := hL k (by omega)
    rw [addTo', runOn_append, run_addB _ _ _ _ (fun x hx => by have := hl x hx; omega) (fun hb => by rw [hself]; exact h0 k (by omega) hb), hself]
    have ex : xs (runOn f (addTo' first L begun k)) (L.getD k []) = xs f (L.getD k []) := xs_congr fun y hy => by rw [ih, if_neg (by have := hl y hy; omega)]
    rw [ex]
    by_cases e : x = first + k
    · subst e
      rw [upd_self', if_pos (by omega), show first + k - first = k by omega]
    · rw [upd_ne' e, ih]
      by_cases h : first ≤ x ∧ x < first + k
      · rw [if_pos h, if_pos (by omega)]
      · rw [if_neg h, if_neg (by omega)]
theorem needs_at (rows : List (List Nat)) (j k : Nat) (hk : k < 8 * rows.length) : (needs rows j).getD k [] = turnIn ((rows.getD (k / 8) []).getD j 0) (k % 8) (8 * j) 8 := by
  simp [needs, List.getD_eq_getElem?_getD, hk]
theorem begun_no (rows : List (List Nat)) (k : Nat) (hk : k < 8 * rows.length) : ∀ j, begunTo rows j k = false → turnTo (rows.getD (k / 8) []) (k % 8) j = []
  | 0, _ => rfl
  | j + 1, h => by
    simp only [begunTo, Bool.or_eq_false_iff, Bool.not_eq_false', List.isEmpty_iff] at h
    rw [turnTo, begun_no rows k hk j h.1, ← needs_at rows j k hk, h.2]; rfl
/-- ████ The slots that the plan fills. ████ -/
theorem run_plan (f : Nat → Nat) (rows : List (List Nat)) (n : Nat) (he : Ends rows n) (h0 : ∀ x, 8 * n ≤ x → f x = 0) : ∀ j, j ≤ n →
    (∀ x, x < 8 * n → runOn f (planTo rows n j) x = f x) ∧ ∀ k, k < 8 * rows.length → runOn f (planTo rows n j) (8 * n + k) = xs f (turnTo (rows.getD (k / 8) []) (k % 8) j)
  | 0, _ => ⟨fun x _ => rfl, fun k _ => by rw [turnTo, xs_nil]; exact h0 _ (by omega)⟩
  | j + 1, hj => by
    obtain ⟨ih1, ih2⟩ := run_plan f rows n he h0 j (by omega)
    have hend := he j (by omega)
    have H := needs_ok rows j (8 * (n + rows.length))
    rw [planTo, runOn_append, pieceSteps, runOn_append]
    generalize hK : endOf (needs rows j) (8 * (n + rows.length)) = K at hend
    obtain ⟨r1, r2⟩ := run_help H (by omega) hend (runOn f (planTo rows n j)) K (Nat.le_refl _)
    have hok := listsTo_ok H (by omega) K
    have hlen := listsTo_length (needs rows j) (8 * (n + rows.length)) K
    rw [needs_length] at hlen
    have r3 := run_addTo (8 * n) (8 * rows.length) (listsTo (needs rows j) (8 * (n + rows.length)) K) (begunTo rows j) (runOn (runOn f (planTo rows n j)) (helpTo (needs rows j) (8 * (n + rows.length)) K))
      (fun i hi x hx => by have := hok.inn _ (at_mem (by omega)) x hx; omega)
      (fun i hi hb => by rw [r1 _ (by omega), ih2 i hi, begun_no rows i hi j hb]; rfl) _ (Nat.le_refl _)
    refine ⟨fun x hx => ?_, fun k hk => ?_⟩
    · rw [r3, if_neg (by omega), r1 x (by omega), ih1 x hx]
    · rw [r3, if_pos (by omega), show 8 * n + k - 8 * n = k by omega, r2 k (by rw [needs_length]; exact hk), r1 _ (by omega), ih2 k hk, turnTo, xs_append, needs_at rows j k hk]
      congr 1
      exact xs_congr fun x hx => ih1 x (by have := turnIn_mem _ _ _ _ _ hx; omega)
end Go.Proofs.YtokmllopbfmadaaDoor.Plans
