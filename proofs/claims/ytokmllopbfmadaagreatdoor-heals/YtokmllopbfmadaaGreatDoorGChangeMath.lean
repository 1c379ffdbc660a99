import Derived.Test.YtokmllopbfmadaaGreatDoorGSolve
/- What a writing makes of pieces, byte by byte. Nothing of the program. -/
namespace Go.Proofs.YtokmllopbfmadaaGreatDoor.Gf

/-- The data byte t of piece j, when the first k bytes of the writing stand. -/
def newD (L at_ : Nat) (text : List Nat) (k : Nat) (old : Nat → Nat → Nat) (j t : Nat) : Nat := if at_ ≤ j * L + t ∧ j * L + t < at_ + k then text.getD (j * L + t - at_) 0 else old j t
/-- The byte t of piece p. -/
def newP (d L at_ : Nat) (text : List Nat) (k : Nat) (old : Nat → Nat → Nat) (p t : Nat) : Nat :=
  if p < d then newD L at_ text k old p t else old p t ^^^ xs (fun j => times (inv (p ^^^ j)) (old j t ^^^ newD L at_ text k old j t)) d
theorem place_iff {L at_ k j t : Nat} (ht : t < L) : j * L + t = at_ + k ↔ j = (at_ + k) / L ∧ t = (at_ + k) % L := by
  constructor
  · intro h
    rw [← h]
    constructor
    · rw [Nat.add_comm, Nat.add_mul_div_right _ _ (by omega), Nat.div_eq_of_lt ht]; omega
    · rw [Nat.add_comm, Nat.add_mul_mod_self_right, Nat.mod_eq_of_lt ht]
  · rintro ⟨rfl, rfl⟩
    rw [Nat.mul_comm]; exact Nat.div_add_mod _ _
theorem newD_zero (L at_ : Nat) (text : List Nat) (old : Nat → Nat → Nat) (j t : Nat) : newD L at_ text 0 old j t = old j t := by unfold newD; rw [if_neg (by omega)]
theorem newP_zero (d L at_ : Nat) (text : List Nat) (old : Nat → Nat → Nat) (p t : Nat) : newP d L at_ text 0 old p t = old p t := by
  unfold newP
  rw [newD_zero]
  split
  · rfl
  · rw [xs_zero, Nat.xor_zero]
    intro j _
    rw [newD_zero, Nat.xor_self]
    have : ∀ a, times a 0 = 0 := fun a => by unfold times; simp [timesTo, dbl]
    exact this _
theorem newD_next {L at_ k j t : Nat} {text : List Nat} {old : Nat → Nat → Nat} (ht : t < L) : newD L at_ text (k + 1) old j t = if j = (at_ + k) / L ∧ t = (at_ + k) % L then text.getD k 0 else newD L at_ text k old j t := by
  unfold newD
  by_cases e : j * L + t = at_ + k
  · rw [if_pos ((place_iff ht).1 e), if_pos (by omega), show j * L + t - at_ = k by omega]
  · rw [if_neg (fun h => e ((place_iff ht).2 h))]
    by_cases h : at_ ≤ j * L + t ∧ j * L + t < at_ + k
    · rw [if_pos (by omega), if_pos h]
    · rw [if_neg (by omega), if_neg h]
theorem newD_here {L at_ k : Nat} {text : List Nat} {old : Nat → Nat → Nat} (hL : 0 < L) : newD L at_ text k old ((at_ + k) / L) ((at_ + k) % L) = old ((at_ + k) / L) ((at_ + k) % L) := by
  unfold newD
  have := (place_iff (L := L) (at_ := at_) (k := k) (j := (at_ + k) / L) (t := (at_ + k) % L) (Nat.mod_lt _ hL)).2 ⟨rfl, rfl⟩
  rw [if_neg (by omega)]
/-- A data piece: one byte is written. -/
theorem newP_data {d L at_ k p t : Nat} {text : List Nat} {old : Nat → Nat → Nat} (ht : t < L) (hp : p < d) : newP d L at_ text (k + 1) old p t = if p = (at_ + k) / L ∧ t = (at_ + k) % L then text.getD k 0 else newP d L at_ text k old p t := by
  unfold newP
  rw [if_pos hp, if_pos hp, newD_next ht]
/-- A spare piece: what was added to the data byte, times the factor, is added. -/
theorem newP_spare {d L at_ k p t : Nat} {text : List Nat} {old : Nat → Nat → Nat} (ht : t < L) (hp : ¬ p < d) (hp2 : p < 256) (hd : d ≤ 256) (hj : (at_ + k) / L < d) :
    newP d L at_ text (k + 1) old p t = if t = (at_ + k) % L then newP d L at_ text k old p t ^^^ times (inv (p ^^^ ((at_ + k) / L))) (newP d L at_ text k old ((at_ + k) / L) t ^^^ text.getD k 0) else newP d L at_ text k old p t := by
  have e0 : newP d L at_ text k old ((at_ + k) / L) t = newD L at_ text k old ((at_ + k) / L) t := by unfold newP; rw [if_pos hj]
  rw [e0]
  unfold newP
  rw [if_neg hp, if_neg hp]
  by_cases e : t = (at_ + k) % L
  · rw [if_pos e]
    have hF : ∀ j, j < d → inv (p ^^^ j) < 256 := fun j hj => inv_lt _ (xor_lt hp2 (by omega))
    have key : xs (fun j => times (inv (p ^^^ j)) (old j t ^^^ newD L at_ text (k + 1) old j t)) d =
        xs (fun j => times (inv (p ^^^ j)) (old j t ^^^ newD L at_ text k old j t)) d ^^^ times (inv (p ^^^ ((at_ + k) / L))) (newD L at_ text k old ((at_ + k) / L) t ^^^ text.getD k 0) := by
      have e2 : xs (fun j => if j = (at_ + k) / L then times (inv (p ^^^ ((at_ + k) / L))) (newD L at_ text k old ((at_ + k) / L) t ^^^ text.getD k 0) else 0) d = times (inv (p ^^^ ((at_ + k) / L))) (newD L at_ text k old ((at_ + k) / L) t ^^^ text.getD k 0) := by
        rw [xs_one _ d _ hj fun j _ hne => by rw [if_neg hne]]; rw [if_pos rfl]
      rw [← e2, ← xs_xor]
      refine xs_congr fun j hjd => ?_
      rw [newD_next ht]
      by_cases e3 : j = (at_ + k) / L
      · rw [if_pos ⟨e3, e⟩, if_pos e3, ← e3, ← times_xor_r _ _ _ (hF j hjd)]
        congr 1
        rw [Nat.xor_assoc, xcl]
      · rw [if_neg (fun h => e3 h.1), if_neg e3, Nat.xor_zero]
    rw [key, Nat.xor_assoc]
  · rw [if_neg e]
    congr 1
    refine xs_congr fun j _ => ?_
    rw [newD_next ht, if_neg (fun h => e h.2)]
theorem newP_lt {d L at_ k p t : Nat} {text : List Nat} {old : Nat → Nat → Nat} (hb : Bytes text) (ho : ∀ p t, old p t < 256) (hp : p < 256) (hd : d ≤ 256) : newP d L at_ text k old p t < 256 := by
  have hD : ∀ j t, newD L at_ text k old j t < 256 := fun j t => by
    unfold newD; split
    · exact hb.getD _
    · exact ho j t
  unfold newP
  split
  · exact hD p t
  · exact xor_lt (ho p t) (xs_lt _ _ fun j hj => times_lt _ _ (inv_lt _ (xor_lt hp (by omega))))
end Go.Proofs.YtokmllopbfmadaaGreatDoor.Gf

/- Rows and their undoing: what is done to both halves alike. Nothing of the program. -/
namespace Go.Proofs.YtokmllopbfmadaaGreatDoor.Gf

theorem xs_swap (g : Nat → Nat → Nat) (m : Nat) : ∀ n, xs (fun i => xs (fun k => g i k) m) n = xs (fun k => xs (fun i => g i k) n) m := by
  intro n
  induction n with
  | zero => rw [xs, xs_zero]; intro k _; rfl
  | succ n ih => rw [xs, ih, ← xs_xor]; rfl
theorem xs_times_r (m : Nat) (g : Nat → Nat) (n : Nat) (hm : m < 256) (hg : ∀ k, k < n → g k < 256) : times (xs g n) m = xs (fun k => times (g k) m) n := by
  rw [times_comm _ _ (xs_lt g n hg) hm, xs_times m g n hm]
  exact xs_congr fun k hk => times_comm _ _ hm (hg k hk)

/-- The wide rows behind c columns: the left half is made by the right half of the rows A; its first c columns are done; it has an inverse. -/
structure Wide (d c : Nat) (A M : Nat → Nat → Nat) : Prop where
  byte : ∀ r, r < d → ∀ k, k < 2 * d → M r k < 256
  made : ∀ r, r < d → ∀ k, k < d → M r k = xs (fun n => times (M r (d + n)) (A n k)) d
  unit : ∀ k, k < c → ∀ r, r < d → M r k = if r = k then 1 else 0
  ker : ∀ x : Nat → Nat, (∀ k, x k < 256) → (∀ r, r < d → dot d (M r) x = 0) → ∀ k, k < d → x k = 0

theorem Wide.pivot {d c : Nat} {A M : Nat → Nat → Nat} (h : Wide d c A M) (hc : c < d) : ∃ r, c ≤ r ∧ r < d ∧ M r c ≠ 0 := by
  apply Classical.byContradiction
  intro hno
  have hno : ∀ r, c ≤ r → r < d → M r c = 0 := by
    intro r h1 h2
    apply Classical.byContradiction
    intro hf
    exact hno ⟨r, h1, h2, hf⟩
  let z : Nat → Nat := fun k => if k = c then 1 else if k < c then M k c else 0
  have zc : z c = 1 := by simp [z]
  have zk : ∀ k, k < c → z k = M k c := fun k hk => by simp [z, hk, show k ≠ c by omega]
  have zo : ∀ k, k ≠ c → ¬ k < c → z k = 0 := fun k h1 h2 => by simp [z, h1, h2]
  have hz := h.ker z (fun k => by
    by_cases e : k = c
    · rw [e, zc]; decide
    · by_cases e2 : k < c
      · rw [zk k e2]; exact h.byte k (by omega) c (by omega)
      · rw [zo k e e2]; decide) (fun r hr => ?_) c hc
  · rw [zc] at hz; cases hz
  · by_cases hrc : r < c
    · have e : dot d (M r) z = times (M r r) (z r) ^^^ times (M r c) (z c) := xs_two _ d r c hr hc (by omega) fun k hk h1 h2 => by
        show times (M r k) (z k) = 0
        by_cases e2 : k < c
        · rw [h.unit k e2 r hr, if_neg (Ne.symm h1), zk k e2, zero_times _ (h.byte k hk c (by omega))]
        · rw [zo k h2 e2]; exact times_zero _ (h.byte r hr k (by omega))
      have b1 := h.byte r hr c (by omega)
      rw [e, zc, zk r hrc, h.unit r hrc r hr, if_pos rfl, one_times _ b1, times_one _ b1, Nat.xor_self]
    · refine xs_zero _ _ fun k hk => ?_
      show times (M r k) (z k) = 0
      by_cases e : k = c
      · subst e; rw [hno r (by omega) hr, zc]; rfl
      · by_cases e2 : k < c
        · rw [h.unit k e2 r hr, if_neg (by omega), zk k e2, zero_times _ (h.byte k hk c (by omega))]
        · rw [zo k e e2]; exact times_zero _ (h.byte r hr k (by omega))

/-- Rows c and r change places. -/
def swapR (M : Nat → Nat → Nat) (c r : Nat) : Nat → Nat → Nat := fun q => if q = c then M r else if q = r then M c else M q
theorem Wide.swap {d c r : Nat} {A M : Nat → Nat → Nat} (h : Wide d c A M) (hc : c < d) (hcr : c ≤ r) (hr : r < d) : Wide d c A (swapR M c r) := by
  have at_ : ∀ q, q < d → ∃ p, p < d ∧ swapR M c r q = M p ∧ (p = q ∨ (c ≤ p ∧ c ≤ q)) := fun q hq => by
    unfold swapR
    by_cases e : q = c
    · exact ⟨r, hr, by rw [if_pos e], .inr ⟨hcr, by omega⟩⟩
    · rw [if_neg e]
      by_cases e2 : q = r
      · exact ⟨c, hc, by rw [if_pos e2], .inr ⟨Nat.le_refl _, by omega⟩⟩
      · exact ⟨q, hq, by rw [if_neg e2], .inl rfl⟩
  have back : ∀ q, q < d → ∃ p, p < d ∧ swapR M c r p = M q := fun q hq => by
    by_cases e : q = c
    · by_cases e2 : r = c
      · exact ⟨c, hc, by simp [swapR, e2, e]⟩
      · exact ⟨r, hr, by simp [swapR, e2, e]⟩
    · by_cases e2 : q = r
      · exact ⟨c, hc, by simp [swapR, e2]⟩
      · exact ⟨q, hq, by simp [swapR, e, e2]⟩
  refine ⟨fun q hq k hk => ?_, fun q hq k hk => ?_, fun k hk q hq => ?_, fun x hx h0 => h.ker x hx fun q hq => ?_⟩
  · obtain ⟨p, hp, e, _⟩ := at_ q hq
    rw [e]; exact h.byte p hp k hk
  · obtain ⟨p, hp, e, _⟩ := at_ q hq
    rw [e]; exact h.made p hp k hk
  · obtain ⟨p, hp, e, h2⟩ := at_ q hq
    rw [e, h.unit k hk p hp]
    rcases h2 with rfl | ⟨h3, h4⟩
    · rfl
    · rw [if_neg (by omega), if_neg (by omega)]
  · obtain ⟨p, hp, e⟩ := back q hq
    rw [← e]; exact h0 p hp
/-- Row c times f. -/
def scaleR (M : Nat → Nat → Nat) (c f : Nat) : Nat → Nat → Nat := fun q k => if q = c then times (M c k) f else M q k
theorem Wide.scale {d c : Nat} {A M : Nat → Nat → Nat} (h : Wide d c A M) (hc : c < d) (hA : ∀ n, n < d → ∀ k, k < d → A n k < 256) (hp : M c c ≠ 0) : Wide d c A (scaleR M c (inv (M c c))) ∧ scaleR M c (inv (M c c)) c c = 1 := by
  have bc := h.byte c hc c (by omega)
  obtain ⟨f, hf⟩ : ∃ f, f = inv (M c c) := ⟨_, rfl⟩
  have bf : f < 256 := by rw [hf]; exact inv_lt _ bc
  have hone : times (M c c) f = 1 := by rw [hf]; exact inv_right _ bc hp
  rw [← hf]
  refine ⟨⟨fun q hq k hk => ?_, fun q hq k hk => ?_, fun k hk q hq => ?_, fun x hx h0 => h.ker x hx fun q hq => ?_⟩, by simp [scaleR, hone]⟩
  · unfold scaleR
    split
    · exact times_lt _ _ (h.byte c hc k hk)
    · exact h.byte q hq k hk
  · by_cases e : q = c
    · subst e
      show (if q = q then _ else _) = _
      rw [if_pos rfl, h.made q hq k hk, xs_times_r f _ _ bf (fun n hn => times_lt _ _ (h.byte q hq _ (by omega)))]
      refine xs_congr fun n hn => ?_
      have b1 := h.byte q hq (d + n) (by omega)
      have b2 := hA n hn k hk
      show times (times (M q (d + n)) (A n k)) f = times (if q = q then times (M q (d + n)) f else _) (A n k)
      rw [if_pos rfl, times_assoc _ _ _ b1 b2 bf, times_assoc _ _ _ b1 bf b2, times_comm _ _ b2 bf]
    · have e2 : ∀ k, scaleR M c f q k = M q k := fun k => by simp [scaleR, e]
      rw [e2, h.made q hq k hk]
      exact xs_congr fun n _ => by rw [e2]
  · unfold scaleR
    by_cases e : q = c
    · rw [if_pos e, h.unit k hk c hc, if_neg (by omega), zero_times _ bf, if_neg (by omega)]
    · rw [if_neg e]; exact h.unit k hk q hq
  · by_cases e : q = c
    · subst e
      have h1 := h0 q hq
      have e2 : dot d (scaleR M q f q) x = times (dot d (M q) x) f := by
        unfold dot
        rw [xs_times_r f _ _ bf (fun n hn => times_lt _ _ (h.byte q hq _ (by omega)))]
        refine xs_congr fun k hk => ?_
        have b1 := h.byte q hq k (by omega)
        show times (if q = q then times (M q k) f else _) (x k) = _
        rw [if_pos rfl, times_assoc _ _ _ b1 bf (hx k), times_assoc _ _ _ b1 (hx k) bf, times_comm _ _ bf (hx k)]
      rw [e2] at h1
      have bd := dot_lt d (M q) x fun k hk => h.byte q hq k (by omega)
      have h2 := congrArg (fun y => times y (M q q)) h1
      rw [times_assoc _ _ _ bd bf bc, times_comm _ _ bf bc, hone, times_one _ bd, zero_times _ bc] at h2
      exact h2
    · have := h0 q hq
      rw [← this]
      exact dot_congr (fun k _ => by simp [scaleR, e]) fun _ _ => rfl
/-- From each row but c so much of row c is taken that column c is gone. -/
def takeR (M : Nat → Nat → Nat) (c : Nat) : Nat → Nat → Nat := fun q k => if q = c then M c k else M q k ^^^ times (M q c) (M c k)
theorem Wide.take {d c : Nat} {A M : Nat → Nat → Nat} (h : Wide d c A M) (hc : c < d) (hA : ∀ n, n < d → ∀ k, k < d → A n k < 256) (hp : M c c = 1) : Wide d (c + 1) A (takeR M c) := by
  have bq : ∀ q, q < d → M q c < 256 := fun q hq => h.byte q hq c (by omega)
  have tc : ∀ k, takeR M c c k = M c k := fun k => by simp [takeR]
  have tq : ∀ q, q ≠ c → ∀ k, takeR M c q k = M q k ^^^ times (M q c) (M c k) := fun q hq k => by simp [takeR, hq]
  refine ⟨fun q hq k hk => ?_, fun q hq k hk => ?_, fun k hk q hq => ?_, fun x hx h0 => h.ker x hx ?_⟩
  · unfold takeR
    split
    · exact h.byte c hc k hk
    · exact xor_lt (h.byte q hq k hk) (times_lt _ _ (bq q hq))
  · by_cases e : q = c
    · subst e
      rw [tc, h.made q hq k hk]
      exact xs_congr fun n _ => by rw [tc]
    · rw [tq q e, h.made q hq k hk, h.made c hc k hk, xs_times _ _ _ (bq q hq), ← xs_xor]
      refine xs_congr fun n hn => ?_
      have b1 := h.byte q hq (d + n) (by omega)
      have b2 := h.byte c hc (d + n) (by omega)
      rw [tq q e, times_xor_l _ _ _ b1 (times_lt _ _ (bq q hq)), times_assoc _ _ _ (bq q hq) b2 (hA n hn k hk)]
  · by_cases e : q = c
    · subst e
      rw [tc]
      by_cases e2 : k = q
      · subst e2; rw [hp, if_pos rfl]
      · exact h.unit k (by omega) q hq
    · rw [tq q e]
      by_cases e2 : k = c
      · subst e2; rw [hp, times_one _ (bq q hq), Nat.xor_self, if_neg e]
      · rw [h.unit k (by omega) c hc, if_neg (by omega), times_zero _ (bq q hq), Nat.xor_zero]
        exact h.unit k (by omega) q hq
  · have hc0 : dot d (M c) x = 0 := by
      rw [← h0 c hc]; exact dot_congr (fun k _ => (tc k).symm) fun _ _ => rfl
    intro q hq
    by_cases e : q = c
    · subst e; exact hc0
    · have h1 := h0 q hq
      have e2 : dot d (takeR M c q) x = dot d (M q) x ^^^ times (M q c) (dot d (M c) x) := by
        rw [← dot_less d _ _ _ x (bq q hq) (fun k hk => h.byte q hq k (by omega)) (fun k hk => h.byte c hc k (by omega)) (fun k _ => hx k)]
        exact dot_congr (fun k _ => tq q e k) fun _ _ => rfl
      rw [e2, hc0, times_zero _ (bq q hq), Nat.xor_zero] at h1
      exact h1
/-- The wide rows at the start. -/
def wide0 (d : Nat) (A : Nat → Nat → Nat) : Nat → Nat → Nat := fun r k => if k < d then A r k else if k = d + r then 1 else 0
theorem Wide.start (d : Nat) (A : Nat → Nat → Nat) (hA : ∀ n, n < d → ∀ k, k < d → A n k < 256) (hker : ∀ x : Nat → Nat, (∀ k, x k < 256) → (∀ r, r < d → dot d (A r) x = 0) → ∀ k, k < d → x k = 0) : Wide d 0 A (wide0 d A) := by
  have lo : ∀ r k, k < d → wide0 d A r k = A r k := fun r k hk => by simp [wide0, hk]
  have hi : ∀ r n, wide0 d A r (d + n) = if n = r then 1 else 0 := fun r n => by
    unfold wide0
    rw [if_neg (by omega)]
    by_cases e : n = r
    · rw [if_pos (by omega), if_pos e]
    · rw [if_neg (by omega), if_neg e]
  refine ⟨fun r hr k hk => ?_, fun r hr k hk => ?_, fun k hk => by omega, fun x hx h0 => hker x hx fun r hr => ?_⟩
  · by_cases e : k < d
    · rw [lo r k e]; exact hA r hr k e
    · unfold wide0; rw [if_neg e]; split <;> decide
  · rw [lo r k hk, xs_one _ d r hr fun n hn hne => by rw [hi, if_neg hne]; exact zero_times _ (hA n hn k hk), hi, if_pos rfl, one_times _ (hA r hr k hk)]
  · rw [← h0 r hr]; exact dot_congr (fun k hk => (lo r k hk).symm) fun _ _ => rfl
/-- What the rows make of x, the right half leads back. -/
theorem Wide.back {d : Nat} {A M : Nat → Nat → Nat} (h : Wide d d A M) (hA : ∀ n, n < d → ∀ k, k < d → A n k < 256) (x : Nat → Nat) (hx : ∀ k, x k < 256) (r : Nat) (hr : r < d) :
    xs (fun n => times (M r (d + n)) (dot d (A n) x)) d = x r := by
  have e : xs (fun n => times (M r (d + n)) (dot d (A n) x)) d = xs (fun n => xs (fun k => times (times (M r (d + n)) (A n k)) (x k)) d) d := xs_congr fun n hn => by
    have b := h.byte r hr (d + n) (by omega)
    unfold dot
    rw [xs_times _ _ _ b]
    exact xs_congr fun k hk => (times_assoc _ _ _ b (hA n hn k hk) (hx k)).symm
  rw [e, xs_swap]
  have e2 : ∀ k, k < d → xs (fun n => times (times (M r (d + n)) (A n k)) (x k)) d = times (if r = k then 1 else 0) (x k) := fun k hk => by
    rw [← xs_times_r (x k) _ d (hx k) (fun n hn => times_lt _ _ (h.byte r hr _ (by omega))), ← h.made r hr k hk, h.unit k hk r hr]
  rw [xs_congr e2, xs_one _ d r hr fun k hk hne => by rw [if_neg (Ne.symm hne)]; exact zero_times _ (hx k), if_pos rfl, one_times _ (hx r)]
end Go.Proofs.YtokmllopbfmadaaGreatDoor.Gf
