import Derived.Test.YtokmllopbfmadabDoorGChangeMath
import Derived.Test.YtokmllopbfmadabDoorGGf
/- What the plan comes to. -/
namespace Go.Proofs.YtokmllopbfmadabDoor.Plans

theorem upd_self' (f : Nat → Nat) (k x : Nat) : upd f k x k = x := by simp [upd]
theorem upd_ne' {f : Nat → Nat} {k x i : Nat} (h : i ≠ k) : upd f k x i = f i := by simp [upd, h]
theorem upd_upd' (f : Nat → Nat) (k x y : Nat) : upd (upd f k x) k y = upd f k y := by
  funext i; unfold upd; split <;> rfl
theorem upd_id' (f : Nat → Nat) (k x : Nat) (h : f k = x) : upd f k x = f := by
  funext i; unfold upd; split
  · rename_i e; rw [e, h]
  · rfl
theorem run_two (f : Nat → Nat) (h a b : Nat) (hb : b ≠ h) : runOn f [⟨h, a, true⟩, ⟨h, b, false⟩] = upd f h (f a ^^^ f b) := by
  show step1 (step1 f ⟨h, a, true⟩) ⟨h, b, false⟩ = _
  simp only [step1, if_true, Bool.false_eq_true, if_false]
  rw [upd_upd', upd_self', upd_ne' hb]
theorem putH_at (L : List (List Nat)) (p : Nat × Nat) (h i : Nat) (hi : i < L.length) : (putH L p h).getD i [] = if both p.1 p.2 (L.getD i []) then rest2 p.1 p.2 (L.getD i []) ++ [h] else L.getD i [] := by
  simp [putH, List.getD_eq_getElem?_getD, hi]
theorem at_mem {L : List (List Nat)} {i : Nat} (hi : i < L.length) : L.getD i [] ∈ L := by
  simp [List.getD_eq_getElem?_getD, hi]
theorem run_help {L : List (List Nat)} {o h K : Nat} (H : LOk L o h 0) (ho : o + 8 ≤ h) (e : IsEnd L h K) (f : Nat → Nat) : ∀ k, k ≤ K →
    (∀ x, (x < h ∨ h + k ≤ x) → runOn f (helpTo L h k) x = f x) ∧ ∀ i, i < L.length → xs (runOn f (helpTo L h k)) ((listsTo L h k).getD i []) = xs f (L.getD i [])
  | 0, _ => ⟨fun x _ => rfl, fun i _ => rfl⟩
  | k + 1, hk => by
    obtain ⟨ih1, ih2⟩ := run_help H ho e f k (by omega)
    obtain ⟨hb, ht⟩ := pair_at e (k := k) (by omega)
    obtain ⟨hlt, _, l0, hl0, ha0, hb0⟩ := hb.pair ht
    have hok := listsTo_ok H ho k
    have i1 := hok.inn l0 hl0 _ ha0
    have i2 := hok.inn l0 hl0 _ hb0
    rw [helpTo, listsTo, runOn_append]
    generalize (best (listsTo L h k)).1 = p at *
    rw [run_two _ _ _ _ (by omega)]
    refine ⟨fun x hx => ?_, fun i hi => ?_⟩
    · rw [upd_ne' (by omega)]; exact ih1 x (by omega)
    · have hi' : i < (listsTo L h k).length := by rw [listsTo_length]; exact hi
      have hm := at_mem hi'
      rw [putH_at _ _ _ _ hi', ← ih2 i hi]
      generalize (listsTo L h k).getD i [] = l at hm
      generalize runOn f (helpTo L h k) = g
      have hin : ∀ x, x ∈ l → x ≠ h + k := fun x hx => by have := hok.inn l hm x hx; omega
      by_cases hbo : both p.1 p.2 l = true
      · have hmm := both_iff.1 hbo
        rw [if_pos hbo, xs_append, xs_one, upd_self', rest2_xs g (hok.up l hm) (by omega) hmm.1 hmm.2]
        congr 1
        exact xs_congr fun x hx => upd_ne' (hin x (rest2_mem.1 hx).1)
      · rw [if_neg hbo]
        exact xs_congr fun x hx => upd_ne' (hin x hx)
theorem run_addB (dst : Nat) : ∀ (l : List Nat) (f : Nat → Nat) (b : Bool), (∀ x, x ∈ l → x ≠ dst) → (b = false → f dst = 0) → runOn f (addB dst l b) = upd f dst (f dst ^^^ xs f l)
  | [], f, b, _, _ => by rw [xs_nil, Nat.xor_zero, upd_id' f dst _ rfl]; rfl
  | x :: l, f, b, hne, h0 => by
    have hx := hne x (List.mem_cons_self ..)
    have e : step1 f ⟨dst, x, !b⟩ = upd f dst (f dst ^^^ f x) := by
      unfold step1
      cases b
      · rw [h0 rfl]; simp
      · simp
    show runOn (step1 f ⟨dst, x, !b⟩) (addB dst l true) = _
    rw [e, run_addB dst l _ true (fun y hy => hne y (List.mem_cons_of_mem _ hy)) (fun h => by cases h), upd_upd', upd_self', xs_cons, Nat.xor_assoc]
    congr 2
    congr 1
    exact xs_congr fun y hy => upd_ne' (hne y (List.mem_cons_of_mem _ hy))
theorem run_addTo (first M : Nat) (L : List (List Nat)) (begun : Nat → Bool) (f : Nat → Nat) (hL : ∀ i, i < M → ∀ x, x ∈ L.getD i [] → x < first ∨ first + M ≤ x) (h0 : ∀ i, i < M → begun i = false → f (first + i) = 0) : ∀ k, k ≤ M →
    ∀ x, runOn f (addTo' first L begun k) x = if first ≤ x ∧ x < first + k then f x ^^^ xs f (L.getD (x - first) []) else f x
  | 0, _, x => by rw [if_neg (by omega)]; rfl
  | k + 1, hk, x => by
    have ih := run_addTo first M L begun f hL h0 k (by omega)
    have hself : runOn f (addTo' first L begun k) (first + k) = f (first + k) := by rw [ih, if_neg (by omega)]
    have hl := hL k (by omega)
    rw [addTo', runOn_append, run_addB _ _ _ _ (fun x hx => by have := hl x hx; omega) (fun hb => by rw [hself]; exact h0 k (by omega) hb), hself]
    have ex : xs (runOn f (addTo' first L begun k)) (L.getD k []) = xs f (L.getD k []) := xs_congr fun y hy => by rw [ih, if_neg (by have := hl y hy; omega)]
    rw [ex]
    by_cases e : x = first + k
    · subst e
      rw [upd_self', if_pos (by omega), show first + k - first = k by omega]
    · rw [upd_ne' e, ih]
      by_cases h : first ≤ x ∧ x < first + k
      · rw [if_pos h, if_pos (by omega)]
      · rw [if_neg h, if_neg (by omega)]
theorem needs_at (rows : List (List Nat)) (j k : Nat) (hk : k < 8 * rows.length) : (needs rows j).getD k [] = turnIn ((rows.getD (k / 8) []).getD j 0) (k % 8) (8 * j) 8 := by
  simp [needs, List.getD_eq_getElem?_getD, hk]
theorem begun_no (rows : List (List Nat)) (k : Nat) (hk : k < 8 * rows.length) : ∀ j, begunTo rows j k = false → turnTo (rows.getD (k / 8) []) (k % 8) j = []
  | 0, _ => rfl
  | j + 1, h => by
    simp only [begunTo, Bool.or_eq_false_iff, Bool.not_eq_false', List.isEmpty_iff] at h
    rw [turnTo, begun_no rows k hk j h.1, ← needs_at rows j k hk, h.2]; rfl
/-- ████ The slots that the plan fills. ████ -/
theorem run_plan (f : Nat → Nat) (rows : List (List Nat)) (n : Nat) (he : Ends rows n) (h0 : ∀ x, 8 * n ≤ x → f x = 0) : ∀ j, j ≤ n →
    (∀ x, x < 8 * n → runOn f (planTo rows n j) x = f x) ∧ ∀ k, k < 8 * rows.length → runOn f (planTo rows n j) (8 * n + k) = xs f (turnTo (rows.getD (k / 8) []) (k % 8) j)
  | 0, _ => ⟨fun x _ => rfl, fun k _ => by rw [turnTo, xs_nil]; exact h0 _ (by omega)⟩
  | j + 1, hj => by
    obtain ⟨ih1, ih2⟩ := run_plan f rows n he h0 j (by omega)
    have hend := he j (by omega)
    have H := needs_ok rows j (8 * (n + rows.length))
    rw [planTo, runOn_append, pieceSteps, runOn_append]
    generalize hK : endOf (needs rows j) (8 * (n + rows.length)) = K at hend
    obtain ⟨r1, r2⟩ := run_help H (by omega) hend (runOn f (planTo rows n j)) K (Nat.le_refl _)
    have hok := listsTo_ok H (by omega) K
    have hlen := listsTo_length (needs rows j) (8 * (n + rows.length)) K
    rw [needs_length] at hlen
    have r3 := run_addTo (8 * n) (8 * rows.length) (listsTo (needs rows j) (8 * (n + rows.length)) K) (begunTo rows j) (runOn (runOn f (planTo rows n j)) (helpTo (needs rows j) (8 * (n + rows.length)) K))
      (fun i hi x hx => by have := hok.inn _ (at_mem (by omega)) x hx; omega)
      (fun i hi hb => by rw [r1 _ (by omega), ih2 i hi, begun_no rows i hi j hb]; rfl) _ (Nat.le_refl _)
    refine ⟨fun x hx => ?_, fun k hk => ?_⟩
    · rw [r3, if_neg (by omega), r1 x (by omega), ih1 x hx]
    · rw [r3, if_pos (by omega), show 8 * n + k - 8 * n = k by omega, r2 k (by rw [needs_length]; exact hk), r1 _ (by omega), ih2 k hk, turnTo, xs_append, needs_at rows j k hk]
      congr 1
      exact xs_congr fun x hx => ih1 x (by have := turnIn_mem _ _ _ _ _ hx; omega)
end Go.Proofs.YtokmllopbfmadabDoor.Plans

/- The plan takes nothing that is not there, and has no step in vain. -/
namespace Go.Proofs.YtokmllopbfmadabDoor.Plans

/-- Is the slot asked in these steps, before it is made anew? -/
def usedIn' (t : Nat) : List Stp → Bool
  | [] => false
  | s :: r => if s.src = t then true else if s.to = t ∧ s.fresh = true then false else usedIn' t r
theorem usedIn_append (t : Nat) (b : List Stp) : ∀ a : List Stp, usedIn' t a = true → usedIn' t (a ++ b) = true
  | [], h => by simp [usedIn'] at h
  | s :: a, h => by
    rw [List.cons_append]
    unfold usedIn' at h ⊢
    split
    · rfl
    · rename_i h1
      rw [if_neg h1] at h
      split
      · rename_i h2; rw [if_pos h2] at h; cases h
      · rename_i h2; rw [if_neg h2] at h; exact usedIn_append t b a h
/-- Has the slot been filled? -/
def full (d : Nat) (pre : List Stp) (x : Nat) : Prop := x < 8 * d ∨ ∃ t, t ∈ pre ∧ t.to = x
theorem full.more {d x : Nat} {a : List Stp} (h : full d a x) (b : List Stp) : full d (a ++ b) x := by
  rcases h with h | ⟨t, h1, h2⟩
  · exact .inl h
  · exact .inr ⟨t, List.mem_append_left _ h1, h2⟩
theorem full.behind {d x : Nat} {b : List Stp} (h : full d b x) (a : List Stp) : full d (a ++ b) x := by
  rcases h with h | ⟨t, h1, h2⟩
  · exact .inl h
  · exact .inr ⟨t, List.mem_append_right _ h1, h2⟩
structure FineAt (d s : Nat) (pre : List Stp) (t : Stp) (post : List Stp) : Prop where
  lo : 8 * d ≤ t.to
  hi : t.to < 1000
  src : t.src < 1000
  use : t.to < 8 * (d + s) ∨ usedIn' t.to post = true
  ahead : full d pre t.src
  first : t.fresh = true ∨ full d pre t.to
/-- The steps are fine behind those. -/
def Fine (d s : Nat) : List Stp → List Stp → Prop
  | _, [] => True
  | pre, t :: r => FineAt d s pre t r ∧ Fine d s (pre ++ [t]) r
theorem Fine.append {d s : Nat} : ∀ {a : List Stp} {pre b : List Stp}, Fine d s pre a → Fine d s (pre ++ a) b → Fine d s pre (a ++ b)
  | [], pre, b, _, h => by simpa using h
  | t :: a, pre, b, h, k => by
    refine ⟨⟨h.1.lo, h.1.hi, h.1.src, ?_, h.1.ahead, h.1.first⟩, Fine.append h.2 (by simpa using k)⟩
    rcases h.1.use with u | u
    · exact .inl u
    · exact .inr (usedIn_append _ _ _ u)
theorem Fine.at {d s : Nat} : ∀ {ss pre : List Stp}, Fine d s pre ss → ∀ k, (h : k < ss.length) → FineAt d s (pre ++ ss.take k) ss[k] (ss.drop (k + 1))
  | [], _, _, k, h => by simp at h
  | t :: r, pre, hf, 0, _ => by simpa using hf.1
  | t :: r, pre, hf, k + 1, h => by
    have := Fine.at hf.2 k (by simpa using h)
    simpa using this
/-- The helpers' steps, from k on. -/
noncomputable def helpFrom (L : List (List Nat)) (h k : Nat) : Nat → List Stp
  | 0 => []
  | m + 1 => ⟨h + k, (best (listsTo L h k)).1.1, true⟩ :: ⟨h + k, (best (listsTo L h k)).1.2, false⟩ :: helpFrom L h (k + 1) m
theorem helpTo_from (L : List (List Nat)) (h : Nat) : ∀ m k, helpTo L h k ++ helpFrom L h k m = helpTo L h (k + m)
  | 0, k => by simp [helpFrom]
  | m + 1, k => by
    have := helpTo_from L h m (k + 1)
    rw [show k + 1 + m = k + (m + 1) by omega] at this
    rw [← this, helpTo, helpFrom]
    simp
theorem helpTo_made (L : List (List Nat)) (h : Nat) : ∀ k i, i < k → ∃ t, t ∈ helpTo L h k ∧ t.to = h + i
  | 0, i, hi => by omega
  | k + 1, i, hi => by
    rw [helpTo]
    by_cases e : i = k
    · exact ⟨_, List.mem_append_right _ (List.mem_cons_self ..), by simp [e]⟩
    · obtain ⟨t, h1, h2⟩ := helpTo_made L h k i (by omega)
      exact ⟨t, List.mem_append_left _ h1, h2⟩
theorem addB_to (dst : Nat) : ∀ (l : List Nat) (b : Bool) (t : Stp), t ∈ addB dst l b → t.to = dst ∧ t.src ∈ l
  | [], _, t, h => by simp [addB] at h
  | x :: l, b, t, h => by
    rw [addB, List.mem_cons] at h
    rcases h with rfl | h
    · exact ⟨rfl, List.mem_cons_self ..⟩
    · have := addB_to dst l true t h; exact ⟨this.1, List.mem_cons_of_mem _ this.2⟩
theorem used_addB (x dst : Nat) (hne : x ≠ dst) (b : List Stp) : ∀ (l : List Nat) (bg : Bool), (x ∈ l ∨ usedIn' x b = true) → usedIn' x (addB dst l bg ++ b) = true
  | [], _, h => by
    rcases h with h | h
    · cases h
    · exact h
  | y :: l, bg, h => by
    rw [addB, List.cons_append, usedIn']
    split
    · rfl
    · rename_i h1
      rw [if_neg (by intro h2; exact hne h2.1.symm)]
      refine used_addB x dst hne b l true ?_
      rcases h with h | h
      · rcases List.mem_cons.1 h with h | h
        · exact absurd h.symm h1
        · exact .inl h
      · exact .inr h
theorem used_addTo (x first : Nat) (L : List (List Nat)) (bg : Nat → Bool) : ∀ k (b : List Stp), (∀ i, i < k → x ≠ first + i) → ((∃ i, i < k ∧ x ∈ L.getD i []) ∨ usedIn' x b = true) → usedIn' x (addTo' first L bg k ++ b) = true
  | 0, b, _, h => by
    rcases h with ⟨i, hi, _⟩ | h
    · omega
    · exact h
  | k + 1, b, hne, h => by
    rw [addTo', List.append_assoc]
    refine used_addTo x first L bg k _ (fun i hi => hne i (by omega)) ?_
    rcases h with ⟨i, hi, hx⟩ | h
    · by_cases e : i = k
      · subst e; exact .inr (used_addB x _ (hne i (by omega)) b _ _ (.inl hx))
      · exact .inl ⟨i, by omega, hx⟩
    · exact .inr (used_addB x _ (hne k (by omega)) b _ _ (.inr h))
theorem mem_at {L : List (List Nat)} {l : List Nat} (h : l ∈ L) : ∃ i, i < L.length ∧ L.getD i [] = l := by
  obtain ⟨i, hi, rfl⟩ := List.getElem_of_mem h
  exact ⟨i, hi, by simp [hi]⟩
theorem helper_used {L : List (List Nat)} {o h K : Nat} (H : LOk L o h 0) (ho : o + 8 ≤ h) (e : IsEnd L h K) (first : Nat) (bg : Nat → Bool) (hf : first + L.length ≤ h) : ∀ m k, k + m = K → ∀ x, h ≤ x → x < h + k → (∃ l, l ∈ listsTo L h k ∧ x ∈ l) →
    usedIn' x (helpFrom L h k m ++ addTo' first (listsTo L h K) bg L.length) = true
  | 0, k, hk, x, h1, h2, ⟨l, hl, hx⟩ => by
    obtain rfl : k = K := by omega
    obtain ⟨i, hi, rfl⟩ := mem_at hl
    rw [listsTo_length] at hi
    have := used_addTo x first (listsTo L h k) bg L.length [] (fun i hi => by omega) (.inl ⟨i, hi, hx⟩)
    rw [List.append_nil] at this
    exact this
  | m + 1, k, hk, x, h1, h2, ⟨l, hl, hx⟩ => by
    have ih := helper_used H ho e first bg hf m (k + 1) (by omega) x h1 (by omega)
    rw [listsTo] at ih
    rw [helpFrom]
    generalize (best (listsTo L h k)).1 = p at *
    rw [List.cons_append, List.cons_append, usedIn', usedIn']
    split
    · rfl
    · rename_i ha
      rw [if_neg (by intro h; have := h.1; simp at this; omega)]
      split
      · rfl
      · rename_i hb
        rw [if_neg (by intro h; have := h.2; simp at this)]
        refine ih ⟨_, List.mem_map.2 ⟨l, hl, rfl⟩, ?_⟩
        split
        · refine List.mem_append_left _ (rest2_mem.2 ⟨hx, fun h => ha h.symm, fun h => hb h.symm⟩)
        · exact hx
theorem in_full {L : List (List Nat)} {o h k d : Nat} (H : LOk (listsTo L h k) o h k) (hd : o + 8 ≤ 8 * d) {l : List Nat} (hl : l ∈ listsTo L h k) {x : Nat} (hx : x ∈ l) (pre : List Stp) : full d (pre ++ helpTo L h k) x := by
  rcases H.inn l hl x hx with h1 | h1
  · exact .inl (by omega)
  · obtain ⟨t, ht, e⟩ := helpTo_made L h k (x - h) (by omega)
    exact .inr ⟨t, List.mem_append_right _ ht, by omega⟩
theorem fine_help {L : List (List Nat)} {o d s K : Nat} (H : LOk L o (8 * (d + s)) 0) (hd : o + 8 ≤ 8 * d) (hL : L.length = 8 * s) (e : IsEnd L (8 * (d + s)) K) (hK : 8 * (d + s) + K < 1000) (pre : List Stp) (bg : Nat → Bool)
    (htail : Fine d s (pre ++ helpTo L (8 * (d + s)) K) (addTo' (8 * d) (listsTo L (8 * (d + s)) K) bg L.length)) : ∀ m k, k + m = K →
    Fine d s (pre ++ helpTo L (8 * (d + s)) k) (helpFrom L (8 * (d + s)) k m ++ addTo' (8 * d) (listsTo L (8 * (d + s)) K) bg L.length)
  | 0, k, hk => by
    obtain rfl : k = K := by omega
    exact htail
  | m + 1, k, hk => by
    have ih := fine_help H hd hL e hK pre bg htail m (k + 1) (by omega)
    obtain ⟨hb, ht⟩ := pair_at e (k := k) (by omega)
    obtain ⟨hlt, hcnt, l0, hl0, ha0, hb0⟩ := hb.pair ht
    have hok := listsTo_ok H (by omega) k
    have i1 := hok.inn l0 hl0 _ ha0
    have i2 := hok.inn l0 hl0 _ hb0
    have f1 := in_full hok hd hl0 ha0 pre
    have f2 := in_full hok hd hl0 hb0 pre
    have hu := helper_used H (by omega) e (8 * d) bg (by omega) m (k + 1) (by omega) (8 * (d + s) + k) (by omega) (by omega) ⟨_, by rw [listsTo]; exact List.mem_map.2 ⟨l0, hl0, rfl⟩, by
      rw [if_pos (both_iff.2 ⟨ha0, hb0⟩)]; simp⟩
    rw [helpTo] at ih
    rw [helpFrom]
    generalize (best (listsTo L (8 * (d + s)) k)).1 = p at *
    refine ⟨⟨by show 8 * d ≤ 8 * (d + s) + k; omega, by show 8 * (d + s) + k < 1000; omega, by show p.1 < 1000; omega, .inr ?_, f1, .inl rfl⟩, ⟨by show 8 * d ≤ 8 * (d + s) + k; omega, by show 8 * (d + s) + k < 1000; omega, by show p.2 < 1000; omega, .inr hu, f2.more _, .inr (.inr ⟨_, List.mem_append_right _ (List.mem_cons_self ..), rfl⟩)⟩, ?_⟩
    · show usedIn' (8 * (d + s) + k) (⟨8 * (d + s) + k, p.2, false⟩ :: _) = true
      rw [usedIn', if_neg (by show ¬ p.2 = _; omega), if_neg (by intro h; have := h.2; simp at this)]
      exact hu
    · simpa using ih
theorem fine_addB {d s dst : Nat} (h1 : 8 * d ≤ dst) (h2 : dst < 8 * (d + s)) (h3 : 8 * (d + s) < 1000) : ∀ (l : List Nat) (b : Bool) (pre : List Stp), (∀ x, x ∈ l → x < 1000 ∧ full d pre x) → (b = true → full d pre dst) → Fine d s pre (addB dst l b)
  | [], _, _, _, _ => trivial
  | x :: l, b, pre, hx, hb => by
    have h0 := hx x (List.mem_cons_self ..)
    refine ⟨⟨h1, by show dst < 1000; omega, h0.1, .inl h2, h0.2, ?_⟩, fine_addB h1 h2 h3 l true _ (fun y hy => ?_) (fun _ => .inr ⟨_, List.mem_append_right _ (List.mem_cons_self ..), rfl⟩)⟩
    · cases b
      · exact .inl rfl
      · exact .inr (hb rfl)
    · have := hx y (List.mem_cons_of_mem _ hy)
      exact ⟨this.1, this.2.more _⟩
theorem fine_addTo {d s : Nat} (h3 : 8 * (d + s) < 1000) (L : List (List Nat)) (bg : Nat → Bool) (pre : List Stp) (hx : ∀ i, i < 8 * s → ∀ x, x ∈ L.getD i [] → x < 1000 ∧ full d pre x) (hb : ∀ i, i < 8 * s → bg i = true → full d pre (8 * d + i)) : ∀ k, k ≤ 8 * s → Fine d s pre (addTo' (8 * d) L bg k)
  | 0, _ => trivial
  | k + 1, hk => by
    rw [addTo']
    exact (fine_addTo h3 L bg pre hx hb k (by omega)).append (fine_addB (by omega) (by omega) h3 _ _ _ (fun x h => ⟨(hx k (by omega) x h).1, (hx k (by omega) x h).2.more _⟩) (fun h => (hb k (by omega) h).more _))
theorem listsTo_some (L : List (List Nat)) (h i : Nat) (hi : i < L.length) (hs : L.getD i [] ≠ []) : ∀ k, (listsTo L h k).getD i [] ≠ []
  | 0 => hs
  | k + 1 => by
    rw [listsTo, putH_at _ _ _ _ (by rw [listsTo_length]; exact hi)]
    split
    · simp
    · exact listsTo_some L h i hi hs k
theorem listsTo_none (L : List (List Nat)) (h i : Nat) (hi : i < L.length) (hs : L.getD i [] = []) : ∀ k, (listsTo L h k).getD i [] = []
  | 0 => hs
  | k + 1 => by
    rw [listsTo, putH_at _ _ _ _ (by rw [listsTo_length]; exact hi), listsTo_none L h i hi hs k]
    simp [both]
theorem addTo_has (first : Nat) (L : List (List Nat)) (bg : Nat → Bool) (i : Nat) (hs : L.getD i [] ≠ []) : ∀ k, i < k → ∃ t, t ∈ addTo' first L bg k ∧ t.to = first + i
  | 0, h => by omega
  | k + 1, h => by
    rw [addTo']
    by_cases e : i = k
    · subst e
      cases hl : L.getD i [] with
      | nil => exact absurd hl hs
      | cons x l => exact ⟨_, List.mem_append_right _ (by rw [addB]; exact List.mem_cons_self ..), rfl⟩
    · obtain ⟨t, h1, h2⟩ := addTo_has first L bg i hs k (by omega)
      exact ⟨t, List.mem_append_left _ h1, h2⟩
theorem begun_full (rows : List (List Nat)) (n i : Nat) (hi : i < 8 * rows.length) : ∀ j, begunTo rows j i = true → full n (planTo rows n j) (8 * n + i)
  | 0, h => by simp [begunTo] at h
  | j + 1, h => by
    rw [planTo]
    by_cases h1 : begunTo rows j i = true
    · exact (begun_full rows n i hi j h1).more _
    · have h2 : (needs rows j).getD i [] ≠ [] := by
        simp only [begunTo, h1, Bool.false_or, Bool.not_eq_true', List.isEmpty_eq_false_iff] at h; exact h
      obtain ⟨t, ht, e⟩ := addTo_has (8 * n) (listsTo (needs rows j) (8 * (n + rows.length)) (endOf (needs rows j) (8 * (n + rows.length)))) (begunTo rows j) i (listsTo_some _ _ i (by rw [needs_length]; exact hi) h2 _) (8 * rows.length) hi
      exact .inr ⟨t, List.mem_append_right _ (List.mem_append_right _ ht), e⟩
/-- ████ P7: nothing is taken that is not there, no step is in vain. ████ -/
theorem plan_fine {rows : List (List Nat)} {n : Nat} (e : Ends rows n) (hn : n ≤ 100) (hm : rows.length ≤ 6) : ∀ j, j ≤ n → Fine n rows.length [] (planTo rows n j)
  | 0, _ => trivial
  | j + 1, hj => by
    have ih := plan_fine e hn hm j (by omega)
    rw [planTo]
    refine ih.append ?_
    rw [List.nil_append]
    have hend := e j (by omega)
    have hle := end_le (j := j) (by omega) hend
    have H := needs_ok rows j (8 * (n + rows.length))
    have hbf := begun_full rows n
    unfold pieceSteps
    generalize endOf (needs rows j) (8 * (n + rows.length)) = K at hend hle
    have hok := listsTo_ok H (by omega) K
    have tail : Fine n rows.length (planTo rows n j ++ helpTo (needs rows j) (8 * (n + rows.length)) K) (addTo' (8 * n) (listsTo (needs rows j) (8 * (n + rows.length)) K) (begunTo rows j) (needs rows j).length) := by
      rw [needs_length]
      refine fine_addTo (by omega) _ _ _ (fun i hi x hx => ?_) (fun i hi hb => (hbf i hi j hb).more _) _ (Nat.le_refl _)
      have hl := at_mem (L := listsTo (needs rows j) (8 * (n + rows.length)) K) (i := i) (by rw [listsTo_length, needs_length]; exact hi)
      exact ⟨by have := hok.inn _ hl x hx; omega, in_full hok (by omega) hl hx _⟩
    have := fine_help H (by omega) (needs_length rows j) hend (by omega) (planTo rows n j) (begunTo rows j) tail K 0 (by omega)
    rw [helpTo, List.append_nil, needs_length] at this
    have h0 := helpTo_from (needs rows j) (8 * (n + rows.length)) K 0
    rw [helpTo, List.nil_append, Nat.zero_add] at h0
    rw [← h0]
    exact this
theorem Fine.ok {d s : Nat} {ss : List Stp} (h : Fine d s [] ss) : ∀ k, (hk : k < ss.length) → ss[k].ok 1000 := fun k hk => ⟨(h.at k hk).hi, (h.at k hk).src⟩
end Go.Proofs.YtokmllopbfmadabDoor.Plans

/- Numbers by their bits; words whose bits are those of eight bytes side by side. -/
namespace Go.Proofs.YtokmllopbfmadabDoor.Gf

theorem one_testBit (i : Nat) : (1 : Nat).testBit i = decide (i = 0) := by
  rw [show (1 : Nat) = 2 ^ 0 from rfl, Nat.testBit_two_pow]; simp [eq_comm]
/-- The number whose first n bits are these. -/
def bitsOf : Nat → (Nat → Bool) → Nat
  | 0, _ => 0
  | n + 1, p => 2 ^ n * (if p n then 1 else 0) + bitsOf n p
theorem bitsOf_lt (n : Nat) (p : Nat → Bool) : bitsOf n p < 2 ^ n := by
  induction n with
  | zero => simp [bitsOf]
  | succ n ih => unfold bitsOf; rw [Nat.pow_succ]; split <;> omega
theorem bitsOf_testBit (n : Nat) (p : Nat → Bool) (j : Nat) : (bitsOf n p).testBit j = (decide (j < n) && p j) := by
  induction n with
  | zero => simp [bitsOf]
  | succ n ih =>
    unfold bitsOf
    rw [Nat.testBit_two_pow_mul_add _ (bitsOf_lt n p)]
    by_cases h : j < n
    · rw [if_pos h, ih]; simp [h, show j < n + 1 by omega]
    · rw [if_neg h]
      by_cases e : j = n
      · subst e; cases p j <;> simp
      · have h2 : ¬ j < n + 1 := by omega
        have h3 : j - n ≠ 0 := by omega
        simp only [h2, decide_false, Bool.false_and]
        split
        · rw [one_testBit]; simp; omega
        · simp
theorem eq_bitsOf {n x : Nat} {p : Nat → Bool} (hx : x < 2 ^ n) (h : ∀ j, j < n → x.testBit j = p j) : x = bitsOf n p := by
  apply Nat.eq_of_testBit_eq
  intro j
  rw [bitsOf_testBit]
  by_cases hj : j < n
  · simp [hj, h j hj]
  · rw [Nat.testBit_lt_two_pow (Nat.lt_of_lt_of_le hx (Nat.pow_le_pow_right (by omega) (by omega)))]; simp [hj]
theorem bitsOf_congr {n : Nat} {p q : Nat → Bool} (h : ∀ j, j < n → p j = q j) : bitsOf n p = bitsOf n q :=
  eq_bitsOf (bitsOf_lt n p) fun j hj => by rw [bitsOf_testBit]; simp [hj, h j hj]
theorem bitsOf_self {n x : Nat} (hx : x < 2 ^ n) : bitsOf n x.testBit = x := (eq_bitsOf hx fun _ _ => rfl).symm
theorem xor_bitsOf (n : Nat) (p q : Nat → Bool) : bitsOf n p ^^^ bitsOf n q = bitsOf n fun j => p j ^^ q j := by
  refine eq_bitsOf (Nat.xor_lt_two_pow (bitsOf_lt n p) (bitsOf_lt n q)) fun j hj => ?_
  rw [Nat.testBit_xor, bitsOf_testBit, bitsOf_testBit]; simp [hj]
theorem or_bit {n : Nat} {p q : Nat → Bool} {j : Nat} (b : Bool) (hj : j < n) (hq : ∀ i, i < n → q i = (p i || (decide (i = j) && b))) : bitsOf n p ||| (if b then 2 ^ j else 0) = bitsOf n q := by
  refine eq_bitsOf (Nat.or_lt_two_pow (bitsOf_lt n p) ?_) fun i hi => ?_
  · split
    · exact Nat.pow_lt_pow_right (by omega) hj
    · exact Nat.two_pow_pos n
  · rw [Nat.testBit_or, bitsOf_testBit, hq i hi]
    cases b
    · simp [hi]
    · simp only [if_true, Nat.testBit_two_pow, hi, decide_true, Bool.true_and, Bool.and_true]
      congr 1
      by_cases e : i = j
      · subst e; simp
      · simp [e, Ne.symm e]

/-- A word of eight digits of the base 256. -/
def digs (d : Nat → Nat) : Nat → Nat
  | 0 => 0
  | n + 1 => 2 ^ (8 * n) * d n + digs d n
theorem digs_lt (d : Nat → Nat) (hd : ∀ i, d i < 256) (n : Nat) : digs d n < 2 ^ (8 * n) := by
  induction n with
  | zero => simp [digs]
  | succ n ih =>
    unfold digs
    have e : 2 ^ (8 * (n + 1)) = 2 ^ (8 * n) * 256 := by rw [Nat.mul_add, Nat.pow_add]
    have h1 : 2 ^ (8 * n) * d n ≤ 2 ^ (8 * n) * 255 := Nat.mul_le_mul_left _ (by have := hd n; omega)
    rw [e]
    have : 2 ^ (8 * n) * 256 = 2 ^ (8 * n) * 255 + 2 ^ (8 * n) := by omega
    omega
theorem digs_testBit (d : Nat → Nat) (hd : ∀ i, d i < 256) (n j : Nat) (hj : j < 8 * n) : (digs d n).testBit j = (d (j / 8)).testBit (j % 8) := by
  induction n with
  | zero => omega
  | succ n ih =>
    unfold digs
    rw [Nat.testBit_two_pow_mul_add _ (digs_lt d hd n)]
    by_cases h : j < 8 * n
    · rw [if_pos h]; exact ih h
    · rw [if_neg h, show j / 8 = n by omega, show j % 8 = j - 8 * n by omega]
theorem digs_mul (d : Nat → Nat) (p n : Nat) : digs d n * p = digs (fun i => d i * p) n := by
  induction n with
  | zero => simp [digs]
  | succ n ih => unfold digs; rw [Nat.add_mul, ih, Nat.mul_assoc]

/-- The planes of eight bytes. -/
def planes (v : Nat → Nat) : Nat := bitsOf 64 fun j => (v (j % 8)).testBit (j / 8)
/-- The moves of one column. -/
def moves (c : Nat) : Nat := bitsOf 64 fun j => decide (j % 8 = 0) && c.testBit (j / 8)
theorem moves_digs (c : Nat) : moves c = digs (fun i => if c.testBit i then 1 else 0) 8 := by
  have hd : ∀ i, (if c.testBit i then 1 else 0) < 256 := by intro i; split <;> omega
  refine (eq_bitsOf (digs_lt _ hd 8) fun j hj => ?_).symm
  rw [digs_testBit _ hd 8 j hj]
  by_cases h : c.testBit (j / 8)
  · rw [if_pos h, one_testBit]; simp [h]
  · rw [if_neg h]; simp [h]
theorem moves_mul (c p : Nat) (hp : p < 256) : moves c * p = bitsOf 64 fun j => c.testBit (j / 8) && p.testBit (j % 8) := by
  rw [moves_digs, digs_mul]
  have hd : ∀ i, (if c.testBit i then 1 else 0) * p < 256 := by intro i; split <;> omega
  refine eq_bitsOf (digs_lt _ hd 8) fun j hj => ?_
  rw [digs_testBit _ hd 8 j hj]
  by_cases h : c.testBit (j / 8)
  · simp [h]
  · simp [h]
/-- A plane out of the planes. -/
theorem plane_at (v : Nat → Nat) (b : Nat) (hb : b < 8) (k : Nat) (hk : k < 8) : (planes v / 2 ^ (8 * b) % 256).testBit k = (v k).testBit b := by
  rw [show (256 : Nat) = 2 ^ 8 from rfl, Nat.testBit_mod_two_pow, Nat.testBit_div_two_pow, planes, bitsOf_testBit]
  rw [show (k + 8 * b) % 8 = k by omega, show (k + 8 * b) / 8 = b by omega]
  simp [hk, show k + 8 * b < 64 by omega]
/-- The sum of the moved planes, behind n of them. -/
def moved (f : Nat) (w : Nat) : Nat → Nat
  | 0 => 0
  | n + 1 => moved f w n ^^^ moves (times f (2 ^ n)) * (w / 2 ^ (8 * n) % 256)
theorem bitsOf_step (n : Nat) (p : Nat → Bool) : bitsOf (n + 1) p = bitsOf n p ^^^ (if p n then 2 ^ n else 0) := by
  refine (eq_bitsOf (n := n + 1) (p := p) ?_ fun j hj => ?_).symm
  · refine Nat.xor_lt_two_pow (Nat.lt_of_lt_of_le (bitsOf_lt n p) (Nat.pow_le_pow_right (by omega) (by omega))) ?_
    split
    · exact Nat.pow_lt_pow_right (by omega) (by omega)
    · exact Nat.two_pow_pos _
  · rw [Nat.testBit_xor, bitsOf_testBit]
    by_cases e : j = n
    · subst e; cases p j <;> simp
    · have : j < n := by omega
      have hne : ¬ n = j := by omega
      split <;> simp [this, hne]
theorem times_bits (f n : Nat) (hf : f < 256) (p : Nat → Bool) : times f (bitsOf (n + 1) p) = times f (bitsOf n p) ^^^ (if p n then times f (2 ^ n) else 0) := by
  rw [bitsOf_step, times_xor_r f _ _ hf]
  split
  · rfl
  · rw [show times f 0 = 0 from times_zero f hf]
theorem moved_bits (f : Nat) (hf : f < 256) (v : Nat → Nat) (n : Nat) (hn : n ≤ 8) :
    moved f (planes v) n = bitsOf 64 fun j => (times f (bitsOf n (v (j % 8)).testBit)).testBit (j / 8) := by
  induction n with
  | zero =>
    rw [moved]
    refine eq_bitsOf (n := 64) (Nat.two_pow_pos 64) fun j _ => ?_
    rw [bitsOf, times_zero f hf]; simp
  | succ n ih =>
    have hp : planes v / 2 ^ (8 * n) % 256 < 256 := Nat.mod_lt _ (by omega)
    rw [moved, ih (by omega), moves_mul _ _ hp, xor_bitsOf]
    refine bitsOf_congr fun j hj => ?_
    rw [plane_at v n (by omega) (j % 8) (by omega), times_bits f n hf, Nat.testBit_xor]
    congr 1
    cases (v (j % 8)).testBit n <;> simp
/-- ████ The moved planes are those of the products. ████ -/
theorem moved_planes (f : Nat) (hf : f < 256) (v : Nat → Nat) (hv : ∀ k, v k < 256) : moved f (planes v) 8 = planes fun k => times f (v k) := by
  rw [moved_bits f hf v 8 (Nat.le_refl _)]
  exact bitsOf_congr fun j _ => by rw [bitsOf_self (n := 8) (hv _)]
theorem planes_xor (u v : Nat → Nat) : planes u ^^^ planes v = planes fun k => u k ^^^ v k := by
  unfold planes
  rw [xor_bitsOf]
  exact bitsOf_congr fun j _ => by rw [Nat.testBit_xor]
theorem moved_lt (f w : Nat) (n : Nat) : moved f w n < 2 ^ 64 := by
  induction n with
  | zero => exact Nat.two_pow_pos _
  | succ n ih =>
    unfold moved
    refine Nat.xor_lt_two_pow ih ?_
    rw [moves_mul _ _ (Nat.mod_lt _ (by omega))]
    exact bitsOf_lt _ _
end Go.Proofs.YtokmllopbfmadabDoor.Gf
