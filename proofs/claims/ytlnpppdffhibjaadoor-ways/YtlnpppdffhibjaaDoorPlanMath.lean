/- What a plan's steps come to. -/
import Derived.Test.YtlnpppdffhibjaaDoorStepsOf
namespace Go.Proofs.YtlnpppdffhibjaaDoor.Plans
open Gf (sumTo addTo Bytes)

/-- The sum of these slots. -/
def xs (f : Nat → Nat) (ts : List Nat) : Nat := (ts.map f).foldl (· ^^^ ·) 0
theorem foldl_xor (l : List Nat) : ∀ a, l.foldl (· ^^^ ·) a = a ^^^ l.foldl (· ^^^ ·) 0 := by
  induction l with
  | nil => intro a; simp
  | cons x l ih => intro a; rw [List.foldl_cons, ih, List.foldl_cons, ih (0 ^^^ x)]; simp [Nat.xor_assoc]
theorem xs_append (f : Nat → Nat) (a b : List Nat) : xs f (a ++ b) = xs f a ^^^ xs f b := by
  unfold xs; rw [List.map_append, List.foldl_append, foldl_xor]
theorem xs_nil (f : Nat → Nat) : xs f [] = 0 := rfl
theorem xs_one (f : Nat → Nat) (x : Nat) : xs f [x] = f x := by simp [xs]
theorem xs_congr {f g : Nat → Nat} {ts : List Nat} (h : ∀ x, x ∈ ts → f x = g x) : xs f ts = xs g ts := by
  unfold xs; rw [List.map_congr_left h]
theorem runOn_append (f : Nat → Nat) (a b : List Stp) : runOn f (a ++ b) = runOn (runOn f a) b := by simp [runOn]
theorem run_in (f : Nat → Nat) (to : Nat) (ts : List Nat) (hne : ∀ x, x ∈ ts → x ≠ to) (h0 : f to = 0) : ∀ k, k ≤ ts.length → runOn f (stepsIn to ts k) = upd f to (xs f (ts.take k))
  | 0, _ => by rw [List.take_zero, xs_nil, upd_same _ _ _ h0]; rfl
  | k + 1, hk => by
    have ih := run_in f to ts hne h0 k (by omega)
    have hlt : k < ts.length := by omega
    have hx : ts[k] ≠ to := hne _ (List.getElem_mem hlt)
    have e : runOn f (stepsIn to ts (k + 1)) = step1 (runOn f (stepsIn to ts k)) ⟨to, ts[k], k == 0⟩ := by
      rw [stepsIn_next to ts k hlt, runOn_append]; rfl
    have e1 : upd f to (xs f (ts.take k)) ts[k] = f ts[k] := by simp [upd, hx]
    have e2 : upd f to (xs f (ts.take k)) to = xs f (ts.take k) := by simp [upd]
    have e3 : xs f (ts.take (k + 1)) = xs f (ts.take k) ^^^ f ts[k] := by
      rw [List.take_add_one, List.getElem?_eq_getElem hlt, xs_append]
      show _ ^^^ xs f [ts[k]] = _
      rw [xs_one]
    rw [e, ih, step1]
    simp only [e1, e2]
    rw [upd_upd, e3]
    congr 1
    cases k with
    | zero => simp [xs]
    | succ k => rfl
theorem turnIn_mem (f bit o : Nat) : ∀ b x, x ∈ turnIn f bit o b → x < o + b
  | 0, x, h => by simp [turnIn] at h
  | b + 1, x, h => by
    rw [turnIn, List.mem_append] at h
    rcases h with h | h
    · have := turnIn_mem f bit o b x h; omega
    · split at h
      · simp at h; omega
      · cases h
theorem turnTo_mem (row : List Nat) (bit : Nat) : ∀ j x, x ∈ turnTo row bit j → x < 8 * j
  | 0, x, h => by simp [turnTo] at h
  | j + 1, x, h => by
    rw [turnTo, List.mem_append] at h
    rcases h with h | h
    · have := turnTo_mem row bit j x h; omega
    · have := turnIn_mem _ _ _ _ _ h; omega
theorem run_bit (f : Nat → Nat) (row : List Nat) (n i : Nat) (h0 : ∀ j, 8 * (n + i) ≤ j → f j = 0) : ∀ b,
    (∀ j, (j < 8 * (n + i) ∨ 8 * (n + i) + b ≤ j) → runOn f (stepsBit row n i b) j = f j) ∧ ∀ c, c < b → runOn f (stepsBit row n i b) (8 * (n + i) + c) = xs f (turnTo row c n)
  | 0 => ⟨fun j _ => rfl, fun c hc => by omega⟩
  | b + 1 => by
    obtain ⟨ih1, ih2⟩ := run_bit f row n i h0 b
    have hg0 : runOn f (stepsBit row n i b) (8 * (n + i) + b) = 0 := by rw [ih1 _ (by omega), h0 _ (by omega)]
    have e := run_in (runOn f (stepsBit row n i b)) (8 * (n + i) + b) (turnTo row b n) (fun x hx => by have := turnTo_mem row b n x hx; omega) hg0 _ (Nat.le_refl _)
    rw [List.take_length] at e
    have ex : xs (runOn f (stepsBit row n i b)) (turnTo row b n) = xs f (turnTo row b n) := xs_congr fun x hx => ih1 x (by have := turnTo_mem row b n x hx; omega)
    rw [stepsBit, runOn_append, e, ex]
    refine ⟨fun j hj => ?_, fun c hc => ?_⟩
    · unfold upd; rw [if_neg (by omega)]; exact ih1 j (by omega)
    · by_cases h : c = b
      · subst h; simp [upd]
      · unfold upd; rw [if_neg (by omega)]; exact ih2 c (by omega)
theorem run_rows (f : Nat → Nat) (rows : List (List Nat)) (n : Nat) (h0 : ∀ j, 8 * n ≤ j → f j = 0) : ∀ i,
    (∀ j, (j < 8 * n ∨ 8 * (n + i) ≤ j) → runOn f (stepsTo rows n i) j = f j) ∧ ∀ k, k < i → ∀ c, c < 8 → runOn f (stepsTo rows n i) (8 * (n + k) + c) = xs f (turnTo (rows.getD k []) c n)
  | 0 => ⟨fun j _ => rfl, fun k hk => by omega⟩
  | i + 1 => by
    obtain ⟨ih1, ih2⟩ := run_rows f rows n h0 i
    obtain ⟨h1, h2⟩ := run_bit (runOn f (stepsTo rows n i)) (rows.getD i []) n i (fun j hj => by rw [ih1 j (by omega), h0 j (by omega)]) 8
    rw [stepsTo, runOn_append]
    refine ⟨fun j hj => by rw [h1 j (by omega)]; exact ih1 j (by omega), fun k hk c hc => ?_⟩
    by_cases h : k = i
    · subst h
      rw [h2 c hc]
      exact xs_congr fun x hx => ih1 x (by have := turnTo_mem _ c n x hx; omega)
    · rw [h1 _ (by omega)]; exact ih2 k (by omega) c hc
theorem xs_in (f : Nat → Nat) (fct o c k x : Nat) (hfct : fct < 256) (hf : ∀ b, b < 8 → (f (o + b)).testBit k = x.testBit b) : ∀ b, b ≤ 8 → (xs f (turnIn fct c o b)).testBit k = (Gf.times fct (Gf.bitsOf b x.testBit)).testBit c
  | 0, _ => by rw [turnIn, xs_nil, Gf.bitsOf, Gf.times_zero fct hfct]; simp
  | b + 1, hb => by
    rw [turnIn, xs_append, Nat.testBit_xor, xs_in f fct o c k x hfct hf b (by omega), Gf.times_bits fct b hfct, Nat.testBit_xor]
    congr 1
    cases h1 : (Gf.times fct (2 ^ b)).testBit c
    · cases h2 : x.testBit b <;> simp [xs, h1]
    · have := hf b (by omega)
      rw [if_pos rfl, xs_one, this]
      cases h2 : x.testBit b <;> simp [h1]
/-- ████ The slots' sum is the bit of the sum. ████ -/
theorem xs_to (f : Nat → Nat) (row : List Nat) (ps : List (List Nat)) (L c k q : Nat) (hr : Bytes row) (hl : ∀ j, (h : j < ps.length) → ps[j].length = L) (hb : ∀ j, (h : j < ps.length) → Bytes ps[j])
    (hf : ∀ j, j < ps.length → ∀ b, b < 8 → (f (8 * j + b)).testBit k = ((ps.getD j []).getD q 0).testBit b) : ∀ j, j ≤ ps.length → (xs f (turnTo row c j)).testBit k = ((sumTo row ps L j).getD q 0).testBit c
  | 0, _ => by
    have : (List.replicate L 0).getD q 0 = 0 := by
      by_cases h : q < L
      · simp [h]
      · simp [List.getElem?_eq_none (show (List.replicate L 0).length ≤ q by simp; omega)]
    rw [turnTo, xs_nil, sumTo, this]; simp
  | j + 1, hj => by
    have hlt : j < ps.length := by omega
    have e2 : ps.getD j [] = ps[j] := by simp [hlt]
    have hs : (sumTo row ps L j).length = L := Gf.sumTo_length row ps L hl j (by omega)
    have hx : ps[j].getD q 0 < 256 := (hb j hlt).getD q
    have hfj := hf j hlt
    rw [e2] at hfj
    rw [turnTo, xs_append, Nat.testBit_xor, xs_to f row ps L c k q hr hl hb hf j (by omega), xs_in f _ _ c k _ (hr.getD j) hfj 8 (Nat.le_refl _), Gf.bitsOf_self (n := 8) hx, sumTo, e2,
      Planes.addTo_getD _ (hr.getD j) _ _ (by rw [hl j hlt, hs]), Nat.testBit_xor]
theorem byte_sum (f : Nat → Nat) (rows ps : List (List Nat)) (L k q i : Nat) (hi : i < rows.length) (hr : Bytes (rows.getD i [])) (hl : ∀ j, (h : j < ps.length) → ps[j].length = L) (hb : ∀ j, (h : j < ps.length) → Bytes ps[j])
    (h0 : ∀ j, 8 * ps.length ≤ j → f j = 0) (hf : ∀ j, j < ps.length → ∀ b, b < 8 → (f (8 * j + b)).testBit k = ((ps.getD j []).getD q 0).testBit b) :
    byteOf (runOn f (stepsTo rows ps.length rows.length)) (8 * (ps.length + i)) k = (sumTo (rows.getD i []) ps L ps.length).getD q 0 := by
  have hs := Gf.sumTo_bytes (rows.getD i []) ps L hr ps.length
  refine (Gf.eq_bitsOf (n := 8) (hs.getD q) fun c hc => ?_).symm
  rw [(run_rows f rows ps.length h0 rows.length).2 i hi c hc, xs_to f _ ps L c k q hr hl hb hf _ (Nat.le_refl _)]
theorem stepsIn_ok (m to : Nat) (ts : List Nat) (k : Nat) (ht : to < m) (hs : ∀ x, x ∈ ts → x < m) (hk : k ≤ ts.length) : ∀ s, s ∈ stepsIn to ts k → s.ok m := by
  intro s h
  simp only [stepsIn, List.mem_map, List.mem_range] at h
  obtain ⟨j, hj, rfl⟩ := h
  refine ⟨ht, ?_⟩
  have : ts.getD j 0 = ts[j]'(by omega) := by simp [show j < ts.length by omega]
  show ts.getD j 0 < m
  rw [this]; exact hs _ (List.getElem_mem _)
theorem stepsBit_ok (row : List Nat) (n i m : Nat) (hm : 8 * (n + i) + 8 ≤ m) : ∀ b, b ≤ 8 → ∀ s, s ∈ stepsBit row n i b → s.ok m
  | 0, _, s, h => by simp [stepsBit] at h
  | b + 1, hb, s, h => by
    rw [stepsBit, List.mem_append] at h
    rcases h with h | h
    · exact stepsBit_ok row n i m hm b (by omega) s h
    · exact stepsIn_ok m _ _ _ (by omega) (fun x hx => by have := turnTo_mem row b n x hx; omega) (Nat.le_refl _) s h
theorem stepsTo_ok (rows : List (List Nat)) (n M : Nat) : ∀ i, i ≤ M → ∀ s, s ∈ stepsTo rows n i → s.ok (8 * (n + M))
  | 0, _, s, h => by simp [stepsTo] at h
  | i + 1, hi, s, h => by
    rw [stepsTo, List.mem_append] at h
    rcases h with h | h
    · exact stepsTo_ok rows n M i (by omega) s h
    · exact stepsBit_ok _ n i _ (by omega) 8 (Nat.le_refl _) s h
end Go.Proofs.YtlnpppdffhibjaaDoor.Plans
