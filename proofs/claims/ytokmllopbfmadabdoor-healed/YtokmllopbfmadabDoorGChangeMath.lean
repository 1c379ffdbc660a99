import Derived.Test.YtokmllopbfmadabDoorGSolve
import Derived.Test.YtokmllopbfmadabDoorGGf
/- What a writing makes of pieces, byte by byte. Nothing of the program. -/
namespace Go.Proofs.YtokmllopbfmadabDoor.Gf

/-- The data byte t of piece j, when the first k bytes of the writing stand. -/
def newD (L at_ : Nat) (text : List Nat) (k : Nat) (old : Nat → Nat → Nat) (j t : Nat) : Nat := if at_ ≤ j * L + t ∧ j * L + t < at_ + k then text.getD (j * L + t - at_) 0 else old j t
/-- The byte t of piece p. -/
def newP (d L at_ : Nat) (text : List Nat) (k : Nat) (old : Nat → Nat → Nat) (p t : Nat) : Nat :=
  if p < d then newD L at_ text k old p t else old p t ^^^ xs (fun j => times (inv (p ^^^ j)) (old j t ^^^ newD L at_ text k old j t)) d
theorem place_iff {L at_ k j t : Nat} (ht : t < L) : j * L + t = at_ + k ↔ j = (at_ + k) / L ∧ t = (at_ + k) % L := by
  constructor
  · intro h
    rw [← h]
    constructor
    · rw [Nat.add_comm, Nat.add_mul_div_right _ _ (by omega), Nat.div_eq_of_lt ht]; omega
    · rw [Nat.add_comm, Nat.add_mul_mod_self_right, Nat.mod_eq_of_lt ht]
  · rintro ⟨rfl, rfl⟩
    rw [Nat.mul_comm]; exact Nat.div_add_mod _ _
theorem newD_zero (L at_ : Nat) (text : List Nat) (old : Nat → Nat → Nat) (j t : Nat) : newD L at_ text 0 old j t = old j t := by unfold newD; rw [if_neg (by omega)]
theorem newP_zero (d L at_ : Nat) (text : List Nat) (old : Nat → Nat → Nat) (p t : Nat) : newP d L at_ text 0 old p t = old p t := by
  unfold newP
  rw [newD_zero]
  split
  · rfl
  · rw [xs_zero, Nat.xor_zero]
    intro j _
    rw [newD_zero, Nat.xor_self]
    have : ∀ a, times a 0 = 0 := fun a => by unfold times; simp [timesTo, dbl]
    exact this _
theorem newD_next {L at_ k j t : Nat} {text : List Nat} {old : Nat → Nat → Nat} (ht : t < L) : newD L at_ text (k + 1) old j t = if j = (at_ + k) / L ∧ t = (at_ + k) % L then text.getD k 0 else newD L at_ text k old j t := by
  unfold newD
  by_cases e : j * L + t = at_ + k
  · rw [if_pos ((place_iff ht).1 e), if_pos (by omega), show j * L + t - at_ = k by omega]
  · rw [if_neg (fun h => e ((place_iff ht).2 h))]
    by_cases h : at_ ≤ j * L + t ∧ j * L + t < at_ + k
    · rw [if_pos (by omega), if_pos h]
    · rw [if_neg (by omega), if_neg h]
theorem newD_here {L at_ k : Nat} {text : List Nat} {old : Nat → Nat → Nat} (hL : 0 < L) : newD L at_ text k old ((at_ + k) / L) ((at_ + k) % L) = old ((at_ + k) / L) ((at_ + k) % L) := by
  unfold newD
  have := (place_iff (L := L) (at_ := at_) (k := k) (j := (at_ + k) / L) (t := (at_ + k) % L) (Nat.mod_lt _ hL)).2 ⟨rfl, rfl⟩
  rw [if_neg (by omega)]
/-- A data piece: one byte is written. -/
theorem newP_data {d L at_ k p t : Nat} {text : List Nat} {old : Nat → Nat → Nat} (ht : t < L) (hp : p < d) : newP d L at_ text (k + 1) old p t = if p = (at_ + k) / L ∧ t = (at_ + k) % L then text.getD k 0 else newP d L at_ text k old p t := by
  unfold newP
  rw [if_pos hp, if_pos hp, newD_next ht]
/-- A spare piece: what was added to the data byte, times the factor, is added. -/
theorem newP_spare {d L at_ k p t : Nat} {text : List Nat} {old : Nat → Nat → Nat} (ht : t < L) (hp : ¬ p < d) (hp2 : p < 256) (hd : d ≤ 256) (hj : (at_ + k) / L < d) :
    newP d L at_ text (k + 1) old p t = if t = (at_ + k) % L then newP d L at_ text k old p t ^^^ times (inv (p ^^^ ((at_ + k) / L))) (newP d L at_ text k old ((at_ + k) / L) t ^^^ text.getD k 0) else newP d L at_ text k old p t := by
  have e0 : newP d L at_ text k old ((at_ + k) / L) t = newD L at_ text k old ((at_ + k) / L) t := by unfold newP; rw [if_pos hj]
  rw [e0]
  unfold newP
  rw [if_neg hp, if_neg hp]
  by_cases e : t = (at_ + k) % L
  · rw [if_pos e]
    have hF : ∀ j, j < d → inv (p ^^^ j) < 256 := fun j hj => inv_lt _ (xor_lt hp2 (by omega))
    have key : xs (fun j => times (inv (p ^^^ j)) (old j t ^^^ newD L at_ text (k + 1) old j t)) d =
        xs (fun j => times (inv (p ^^^ j)) (old j t ^^^ newD L at_ text k old j t)) d ^^^ times (inv (p ^^^ ((at_ + k) / L))) (newD L at_ text k old ((at_ + k) / L) t ^^^ text.getD k 0) := by
      have e2 : xs (fun j => if j = (at_ + k) / L then times (inv (p ^^^ ((at_ + k) / L))) (newD L at_ text k old ((at_ + k) / L) t ^^^ text.getD k 0) else 0) d = times (inv (p ^^^ ((at_ + k) / L))) (newD L at_ text k old ((at_ + k) / L) t ^^^ text.getD k 0) := by
        rw [xs_one _ d _ hj fun j _ hne => by rw [if_neg hne]]; rw [if_pos rfl]
      rw [← e2, ← xs_xor]
      refine xs_congr fun j hjd => ?_
      rw [newD_next ht]
      by_cases e3 : j = (at_ + k) / L
      · rw [if_pos ⟨e3, e⟩, if_pos e3, ← e3, ← times_xor_r _ _ _ (hF j hjd)]
        congr 1
        rw [Nat.xor_assoc, xcl]
      · rw [if_neg (fun h => e3 h.1), if_neg e3, Nat.xor_zero]
    rw [key, Nat.xor_assoc]
  · rw [if_neg e]
    congr 1
    refine xs_congr fun j _ => ?_
    rw [newD_next ht, if_neg (fun h => e h.2)]
theorem newP_lt {d L at_ k p t : Nat} {text : List Nat} {old : Nat → Nat → Nat} (hb : Bytes text) (ho : ∀ p t, old p t < 256) (hp : p < 256) (hd : d ≤ 256) : newP d L at_ text k old p t < 256 := by
  have hD : ∀ j t, newD L at_ text k old j t < 256 := fun j t => by
    unfold newD; split
    · exact hb.getD _
    · exact ho j t
  unfold newP
  split
  · exact hD p t
  · exact xor_lt (ho p t) (xs_lt _ _ fun j hj => times_lt _ _ (inv_lt _ (xor_lt hp (by omega))))
end Go.Proofs.YtokmllopbfmadabDoor.Gf

/- Rows and their undoing: what is done to both halves alike. Nothing of the program. -/
namespace Go.Proofs.YtokmllopbfmadabDoor.Gf

theorem xs_swap (g : Nat → Nat → Nat) (m : Nat) : ∀ n, xs (fun i => xs (fun k => g i k) m) n = xs (fun k => xs (fun i => g i k) n) m := by
  intro n
  induction n with
  | zero => rw [xs, xs_zero]; intro k _; rfl
  | succ n ih => rw [xs, ih, ← xs_xor]; rfl
theorem xs_times_r (m : Nat) (g : Nat → Nat) (n : Nat) (hm : m < 256) (hg : ∀ k, k < n → g k < 256) : times (xs g n) m = xs (fun k => times (g k) m) n := by
  rw [times_comm _ _ (xs_lt g n hg) hm, xs_times m g n hm]
  exact xs_congr fun k hk => times_comm _ _ hm (hg k hk)

/-- The wide rows behind c columns: the left half is made by the right half of the rows A; its first c columns are done; it has an inverse. -/
structure Wide (d c : Nat) (A M : Nat → Nat → Nat) : Prop where
  byte : ∀ r, r < d → ∀ k, k < 2 * d → M r k < 256
  made : ∀ r, r < d → ∀ k, k < d → M r k = xs (fun n => times (M r (d + n)) (A n k)) d
  unit : ∀ k, k < c → ∀ r, r < d → M r k = if r = k then 1 else 0
  ker : ∀ x : Nat → Nat, (∀ k, x k < 256) → (∀ r, r < d → dot d (M r) x = 0) → ∀ k, k < d → x k = 0

theorem Wide.pivot {d c : Nat} {A M : Nat → Nat → Nat} (h : Wide d c A M) (hc : c < d) : ∃ r, c ≤ r ∧ r < d ∧ M r c ≠ 0 := by
  apply Classical.byContradiction
  intro hno
  have hno : ∀ r, c ≤ r → r < d → M r c = 0 := by
    intro r h1 h2
    apply Classical.byContradiction
    intro hf
    exact hno ⟨r, h1, h2, hf⟩
  let z : Nat → Nat := fun k => if k = c then 1 else if k < c then M k c else 0
  have zc : z c = 1 := by simp [z]
  have zk : ∀ k, k < c → z k = M k c := fun k hk => by simp [z, hk, show k ≠ c by omega]
  have zo : ∀ k, k ≠ c → ¬ k < c → z k = 0 := fun k h1 h2 => by simp [z, h1, h2]
  have hz := h.ker z (fun k => by
    by_cases e : k = c
    · rw [e, zc]; decide
    · by_cases e2 : k < c
      · rw [zk k e2]; exact h.byte k (by omega) c (by omega)
      · rw [zo k e e2]; decide) (fun r hr => ?_) c hc
  · rw [zc] at hz; cases hz
  · by_cases hrc : r < c
    · have e : dot d (M r) z = times (M r r) (z r) ^^^ times (M r c) (z c) := xs_two _ d r c hr hc (by omega) fun k hk h1 h2 => by
        show times (M r k) (z k) = 0
        by_cases e2 : k < c
        · rw [h.unit k e2 r hr, if_neg (Ne.symm h1), zk k e2, zero_times _ (h.byte k hk c (by omega))]
        · rw [zo k h2 e2]; exact times_zero _ (h.byte r hr k (by omega))
      have b1 := h.byte r hr c (by omega)
      rw [e, zc, zk r hrc, h.unit r hrc r hr, if_pos rfl, one_times _ b1, times_one _ b1, Nat.xor_self]
    · refine xs_zero _ _ fun k hk => ?_
      show times (M r k) (z k) = 0
      by_cases e : k = c
      · subst e; rw [hno r (by omega) hr, zc]; rfl
      · by_cases e2 : k < c
        · rw [h.unit k e2 r hr, if_neg (by omega), zk k e2, zero_times _ (h.byte k hk c (by omega))]
        · rw [zo k e e2]; exact times_zero _ (h.byte r hr k (by omega))

/-- Rows c and r change places. -/
def swapR (M : Nat → Nat → Nat) (c r : Nat) : Nat → Nat → Nat := fun q => if q = c then M r else if q = r then M c else M q
theorem Wide.swap {d c r : Nat} {A M : Nat → Nat → Nat} (h : Wide d c A M) (hc : c < d) (hcr : c ≤ r) (hr : r < d) : Wide d c A (swapR M c r) := by
  have at_ : ∀ q, q < d → ∃ p, p < d ∧ swapR M c r q = M p ∧ (p = q ∨ (c ≤ p ∧ c ≤ q)) := fun q hq => by
    unfold swapR
    by_cases e : q = c
    · exact ⟨r, hr, by rw [if_pos e], .inr ⟨hcr, by omega⟩⟩
    · rw [if_neg e]
      by_cases e2 : q = r
      · exact ⟨c, hc, by rw [if_pos e2], .inr ⟨Nat.le_refl _, by omega⟩⟩
      · exact ⟨q, hq, by rw [if_neg e2], .inl rfl⟩
  have back : ∀ q, q < d → ∃ p, p < d ∧ swapR M c r p = M q := fun q hq => by
    by_cases e : q = c
    · by_cases e2 : r = c
      · exact ⟨c, hc, by simp [swapR, e2, e]⟩
      · exact ⟨r, hr, by simp [swapR, e2, e]⟩
    · by_cases e2 : q = r
      · exact ⟨c, hc, by simp [swapR, e2]⟩
      · exact ⟨q, hq, by simp [swapR, e, e2]⟩
  refine ⟨fun q hq k hk => ?_, fun q hq k hk => ?_, fun k hk q hq => ?_, fun x hx h0 => h.ker x hx fun q hq => ?_⟩
  · obtain ⟨p, hp, e, _⟩ := at_ q hq
    rw [e]; exact h.byte p hp k hk
  · obtain ⟨p, hp, e, _⟩ := at_ q hq
    rw [e]; exact h.made p hp k hk
  · obtain ⟨p, hp, e, h2⟩ := at_ q hq
    rw [e, h.unit k hk p hp]
    rcases h2 with rfl | ⟨h3, h4⟩
    · rfl
    · rw [if_neg (by omega), if_neg (by omega)]
  · obtain ⟨p, hp, e⟩ := back q hq
    rw [← e]; exact h0 p hp
/-- Row c times f. -/
def scaleR (M : Nat → Nat → Nat) (c f : Nat) : Nat → Nat → Nat := fun q k => if q = c then times (M c k) f else M q k
theorem Wide.scale {d c : Nat} {A M : Nat → Nat → Nat} (h : Wide d c A M) (hc : c < d) (hA : ∀ n, n < d → ∀ k, k < d → A n k < 256) (hp : M c c ≠ 0) : Wide d c A (scaleR M c (inv (M c c))) ∧ scaleR M c (inv (M c c)) c c = 1 := by
  have bc := h.byte c hc c (by omega)
  obtain ⟨f, hf⟩ : ∃ f, f = inv (M c c) := ⟨_, rfl⟩
  have bf : f < 256 := by rw [hf]; exact inv_lt _ bc
  have hone : times (M c c) f = 1 := by rw [hf]; exact inv_right _ bc hp
  rw [← hf]
  refine ⟨⟨fun q hq k hk => ?_, fun q hq k hk => ?_, fun k hk q hq => ?_, fun x hx h0 => h.ker x hx fun q hq => ?_⟩, by simp [scaleR, hone]⟩
  · unfold scaleR
    split
    · exact times_lt _ _ (h.byte c hc k hk)
    · exact h.byte q hq k hk
  · by_cases e : q = c
    · subst e
      show (if q = q then _ else _) = _
      rw [if_pos rfl, h.made q hq k hk, xs_times_r f _ _ bf (fun n hn => times_lt _ _ (h.byte q hq _ (by omega)))]
      refine xs_congr fun n hn => ?_
      have b1 := h.byte q hq (d + n) (by omega)
      have b2 := hA n hn k hk
      show times (times (M q (d + n)) (A n k)) f = times (if q = q then times (M q (d + n)) f else _) (A n k)
      rw [if_pos rfl, times_assoc _ _ _ b1 b2 bf, times_assoc _ _ _ b1 bf b2, times_comm _ _ b2 bf]
    · have e2 : ∀ k, scaleR M c f q k = M q k := fun k => by simp [scaleR, e]
      rw [e2, h.made q hq k hk]
      exact xs_congr fun n _ => by rw [e2]
  · unfold scaleR
    by_cases e : q = c
    · rw [if_pos e, h.unit k hk c hc, if_neg (by omega), zero_times _ bf, if_neg (by omega)]
    · rw [if_neg e]; exact h.unit k hk q hq
  · by_cases e : q = c
    · subst e
      have h1 := h0 q hq
      have e2 : dot d (scaleR M q f q) x = times (dot d (M q) x) f := by
        unfold dot
        rw [xs_times_r f _ _ bf (fun n hn => times_lt _ _ (h.byte q hq _ (by omega)))]
        refine xs_congr fun k hk => ?_
        have b1 := h.byte q hq k (by omega)
        show times (if q = q then times (M q k) f else _) (x k) = _
        rw [if_pos rfl, times_assoc _ _ _ b1 bf (hx k), times_assoc _ _ _ b1 (hx k) bf, times_comm _ _ bf (hx k)]
      rw [e2] at h1
      have bd := dot_lt d (M q) x fun k hk => h.byte q hq k (by omega)
      have h2 := congrArg (fun y => times y (M q q)) h1
      rw [times_assoc _ _ _ bd bf bc, times_comm _ _ bf bc, hone, times_one _ bd, zero_times _ bc] at h2
      exact h2
    · have := h0 q hq
      rw [← this]
      exact dot_congr (fun k _ => by simp [scaleR, e]) fun _ _ => rfl
/-- From each row but c so much of row c is taken that column c is gone. -/
def takeR (M : Nat → Nat → Nat) (c : Nat) : Nat → Nat → Nat := fun q k => if q = c then M c k else M q k ^^^ times (M q c) (M c k)
theorem Wide.take {d c : Nat} {A M : Nat → Nat → Nat} (h : Wide d c A M) (hc : c < d) (hA : ∀ n, n < d → ∀ k, k < d → A n k < 256) (hp : M c c = 1) : Wide d (c + 1) A (takeR M c) := by
  have bq : ∀ q, q < d → M q c < 256 := fun q hq => h.byte q hq c (by omega)
  have tc : ∀ k, takeR M c c k = M c k := fun k => by simp [takeR]
  have tq : ∀ q, q ≠ c → ∀ k, takeR M c q k = M q k ^^^ times (M q c) (M c k) := fun q hq k => by simp [takeR, hq]
  refine ⟨fun q hq k hk => ?_, fun q hq k hk => ?_, fun k hk q hq => ?_, fun x hx h0 => h.ker x hx ?_⟩
  · unfold takeR
    split
    · exact h.byte c hc k hk
    · exact xor_lt (h.byte q hq k hk) (times_lt _ _ (bq q hq))
  · by_cases e : q = c
    · subst e
      rw [tc, h.made q hq k hk]
      exact xs_congr fun n _ => by rw [tc]
    · rw [tq q e, h.made q hq k hk, h.made c hc k hk, xs_times _ _ _ (bq q hq), ← xs_xor]
      refine xs_congr fun n hn => ?_
      have b1 := h.byte q hq (d + n) (by omega)
      have b2 := h.byte c hc (d + n) (by omega)
      rw [tq q e, times_xor_l _ _ _ b1 (times_lt _ _ (bq q hq)), times_assoc _ _ _ (bq q hq) b2 (hA n hn k hk)]
  · by_cases e : q = c
    · subst e
      rw [tc]
      by_cases e2 : k = q
      · subst e2; rw [hp, if_pos rfl]
      · exact h.unit k (by omega) q hq
    · rw [tq q e]
      by_cases e2 : k = c
      · subst e2; rw [hp, times_one _ (bq q hq), Nat.xor_self, if_neg e]
      · rw [h.unit k (by omega) c hc, if_neg (by omega), times_zero _ (bq q hq), Nat.xor_zero]
        exact h.unit k (by omega) q hq
  · have hc0 : dot d (M c) x = 0 := by
      rw [← h0 c hc]; exact dot_congr (fun k _ => (tc k).symm) fun _ _ => rfl
    intro q hq
    by_cases e : q = c
    · subst e; exact hc0
    · have h1 := h0 q hq
      have e2 : dot d (takeR M c q) x = dot d (M q) x ^^^ times (M q c) (dot d (M c) x) := by
        rw [← dot_less d _ _ _ x (bq q hq) (fun k hk => h.byte q hq k (by omega)) (fun k hk => h.byte c hc k (by omega)) (fun k _ => hx k)]
        exact dot_congr (fun k _ => tq q e k) fun _ _ => rfl
      rw [e2, hc0, times_zero _ (bq q hq), Nat.xor_zero] at h1
      exact h1
/-- The wide rows at the start. -/
def wide0 (d : Nat) (A : Nat → Nat → Nat) : Nat → Nat → Nat := fun r k => if k < d then A r k else if k = d + r then 1 else 0
theorem Wide.start (d : Nat) (A : Nat → Nat → Nat) (hA : ∀ n, n < d → ∀ k, k < d → A n k < 256) (hker : ∀ x : Nat → Nat, (∀ k, x k < 256) → (∀ r, r < d → dot d (A r) x = 0) → ∀ k, k < d → x k = 0) : Wide d 0 A (wide0 d A) := by
  have lo : ∀ r k, k < d → wide0 d A r k = A r k := fun r k hk => by simp [wide0, hk]
  have hi : ∀ r n, wide0 d A r (d + n) = if n = r then 1 else 0 := fun r n => by
    unfold wide0
    rw [if_neg (by omega)]
    by_cases e : n = r
    · rw [if_pos (by omega), if_pos e]
    · rw [if_neg (by omega), if_neg e]
  refine ⟨fun r hr k hk => ?_, fun r hr k hk => ?_, fun k hk => by omega, fun x hx h0 => hker x hx fun r hr => ?_⟩
  · by_cases e : k < d
    · rw [lo r k e]; exact hA r hr k e
    · unfold wide0; rw [if_neg e]; split <;> decide
  · rw [lo r k hk, xs_one _ d r hr fun n hn hne => by rw [hi, if_neg hne]; exact zero_times _ (hA n hn k hk), hi, if_pos rfl, one_times _ (hA r hr k hk)]
  · rw [← h0 r hr]; exact dot_congr (fun k hk => (lo r k hk).symm) fun _ _ => rfl
/-- What the rows make of x, the right half leads back. -/
theorem Wide.back {d : Nat} {A M : Nat → Nat → Nat} (h : Wide d d A M) (hA : ∀ n, n < d → ∀ k, k < d → A n k < 256) (x : Nat → Nat) (hx : ∀ k, x k < 256) (r : Nat) (hr : r < d) :
    xs (fun n => times (M r (d + n)) (dot d (A n) x)) d = x r := by
  have e : xs (fun n => times (M r (d + n)) (dot d (A n) x)) d = xs (fun n => xs (fun k => times (times (M r (d + n)) (A n k)) (x k)) d) d := xs_congr fun n hn => by
    have b := h.byte r hr (d + n) (by omega)
    unfold dot
    rw [xs_times _ _ _ b]
    exact xs_congr fun k hk => (times_assoc _ _ _ b (hA n hn k hk) (hx k)).symm
  rw [e, xs_swap]
  have e2 : ∀ k, k < d → xs (fun n => times (times (M r (d + n)) (A n k)) (x k)) d = times (if r = k then 1 else 0) (x k) := fun k hk => by
    rw [← xs_times_r (x k) _ d (hx k) (fun n hn => times_lt _ _ (h.byte r hr _ (by omega))), ← h.made r hr k hk, h.unit k hk r hr]
  rw [xs_congr e2, xs_one _ d r hr fun k hk hne => by rw [if_neg (Ne.symm hne)]; exact zero_times _ (hx k), if_pos rfl, one_times _ (hx r)]
end Go.Proofs.YtokmllopbfmadabDoor.Gf

namespace Go.Proofs.YtokmllopbfmadabDoor.Plans
open Go.RowKit Mem

/-- A step of a plan. -/
structure Stp where
  to : Nat
  src : Nat
  fresh : Bool
def Stp.cells (s : Stp) : List Value := [.int .i64 s.to, .int .i64 s.src, .bool s.fresh]
/-- The slice v reads as these steps. -/
def StepsAt (w : World) (v : Value) (ss : List Stp) : Prop :=
  ∃ ao cap, v = .slice ao ss.length cap ∧ (ss = [] ∨ ∃ g cur, ao = some ⟨g, 0, none⟩ ∧ w.heap[g]? = some (.cells cur 141 (0, 0)) ∧ ∀ k, (h : k < ss.length) → ∀ r, r < 3 → cur[k * 3 + r]? = (ss[k].cells)[r]?)
theorem StepsAt.but {w w' : World} {v : Value} {ss : List Stp} {S : Nat} {us : List Value} {t : TypeId} (h : StepsAt w v ss) (hb : But S w w') (hS : Blk w S t us) (ht : 141 ≠ t) : StepsAt w' v ss := by
  obtain ⟨ao, cap, rfl, h⟩ := h
  refine ⟨ao, cap, rfl, ?_⟩
  rcases h with h | ⟨g, cur, rfl, hg, hc⟩
  · exact .inl h
  · exact .inr ⟨g, cur, rfl, by rw [hb.rest g (Blk.type_ne (w := w) (vs := cur.toList) (by unfold Blk; rw [hg]) hS ht) (lt_of_block hg)]; exact hg, hc⟩
theorem StepsAt.to {w w' : World} {v : Value} {ss : List Stp} (h : StepsAt w v ss) (hb : Below w.heap.size w w') : StepsAt w' v ss := by
  obtain ⟨ao, cap, rfl, h⟩ := h
  refine ⟨ao, cap, rfl, ?_⟩
  rcases h with h | ⟨g, cur, rfl, hg, hc⟩
  · exact .inl h
  · exact .inr ⟨g, cur, rfl, by rw [hb.block g (lt_of_block hg)]; exact hg, hc⟩
/-- What one step makes of the slots. -/
def step1 (f : Nat → Nat) (s : Stp) : Nat → Nat := upd f s.to (if s.fresh then f s.src else f s.to ^^^ f s.src)
def runOn (f : Nat → Nat) (ss : List Stp) : Nat → Nat := ss.foldl step1 f
def Stp.ok (m : Nat) (s : Stp) : Prop := s.to < m ∧ s.src < m
theorem upd_lt {f : Nat → Nat} {B k x : Nat} (hf : ∀ i, f i < B) (hx : x < B) : ∀ i, upd f k x i < B := by
  intro i; unfold upd; split
  · exact hx
  · exact hf i
theorem step1_lt {f : Nat → Nat} (s : Stp) (hf : ∀ i, f i < 18446744073709551616) : ∀ i, step1 f s i < 18446744073709551616 := by
  refine upd_lt hf ?_
  split
  · exact hf _
  · exact Nat.xor_lt_two_pow (n := 64) (hf _) (hf _)
theorem runOn_lt (ss : List Stp) : ∀ (f : Nat → Nat), (∀ i, f i < 18446744073709551616) → ∀ i, runOn f ss i < 18446744073709551616 := by
  induction ss with
  | nil => intro f hf; exact hf
  | cons s ss ih => intro f hf; exact ih _ (step1_lt s hf)
theorem runOn_take (f : Nat → Nat) (ss : List Stp) (k : Nat) (hk : k < ss.length) : runOn f (ss.take (k + 1)) = step1 (runOn f (ss.take k)) ss[k] := by
  unfold runOn
  rw [List.take_add_one, List.getElem?_eq_getElem hk, List.foldl_append]
  rfl
end Go.Proofs.YtokmllopbfmadabDoor.Plans

/- The slots that turn a bit; sums of slots. -/
namespace Go.Proofs.YtokmllopbfmadabDoor.Plans
open Go.RowKit Mem

/-- The slots of one piece that turn a bit of its product with f: behind b of its bits. -/
def turnIn (f bit o : Nat) : Nat → List Nat
  | 0 => []
  | b + 1 => turnIn f bit o b ++ (if (Gf.times f (2 ^ b)).testBit bit then [o + b] else [])
/-- The slots of the first j pieces that turn a bit of the sum. -/
def turnTo (row : List Nat) (bit : Nat) : Nat → List Nat
  | 0 => []
  | j + 1 => turnTo row bit j ++ turnIn (row.getD j 0) bit (8 * j) 8
theorem turnIn_le (f bit o b : Nat) : (turnIn f bit o b).length ≤ b := by
  induction b with
  | zero => simp [turnIn]
  | succ b ih => unfold turnIn; split <;> simp <;> omega
theorem turnTo_le (row : List Nat) (bit j : Nat) : (turnTo row bit j).length ≤ 8 * j := by
  induction j with
  | zero => simp [turnTo]
  | succ j ih => unfold turnTo; have := turnIn_le (row.getD j 0) bit (8 * j) 8; rw [List.length_append]; omega
theorem turn_yes (f bit o b : Nat) (h : (Gf.times f (2 ^ b)).testBit bit = true) : turnIn f bit o (b + 1) = turnIn f bit o b ++ [o + b] := by
  simp [turnIn, h]
theorem turn_no (f bit o b : Nat) (h : (Gf.times f (2 ^ b)).testBit bit = false) : turnIn f bit o (b + 1) = turnIn f bit o b := by
  simp [turnIn, h]
theorem turnIn_mem (f bit o : Nat) : ∀ b x, x ∈ turnIn f bit o b → o ≤ x ∧ x < o + b
  | 0, x, h => by simp [turnIn] at h
  | b + 1, x, h => by
    rw [turnIn, List.mem_append] at h
    rcases h with h | h
    · have := turnIn_mem f bit o b x h; omega
    · split at h
      · simp at h; omega
      · cases h
theorem turnIn_rising (f bit o : Nat) : ∀ b, (turnIn f bit o b).Pairwise (· < ·)
  | 0 => by simp [turnIn]
  | b + 1 => by
    rw [turnIn, List.pairwise_append]
    refine ⟨turnIn_rising f bit o b, by split <;> simp, fun x hx y hy => ?_⟩
    have := turnIn_mem f bit o b x hx
    split at hy
    · simp at hy; omega
    · cases hy
theorem turnTo_mem (row : List Nat) (bit : Nat) : ∀ j x, x ∈ turnTo row bit j → x < 8 * j
  | 0, x, h => by simp [turnTo] at h
  | j + 1, x, h => by
    rw [turnTo, List.mem_append] at h
    rcases h with h | h
    · have := turnTo_mem row bit j x h; omega
    · have := turnIn_mem _ _ _ _ _ h; omega

/-- The sum of these slots. -/
def xs (f : Nat → Nat) (ts : List Nat) : Nat := (ts.map f).foldl (· ^^^ ·) 0
theorem foldl_xor (l : List Nat) : ∀ a, l.foldl (· ^^^ ·) a = a ^^^ l.foldl (· ^^^ ·) 0 := by
  induction l with
  | nil => intro a; simp
  | cons x l ih => intro a; rw [List.foldl_cons, ih, List.foldl_cons, ih (0 ^^^ x)]; simp [Nat.xor_assoc]
theorem xs_append (f : Nat → Nat) (a b : List Nat) : xs f (a ++ b) = xs f a ^^^ xs f b := by
  unfold xs; rw [List.map_append, List.foldl_append, foldl_xor]
theorem xs_nil (f : Nat → Nat) : xs f [] = 0 := rfl
theorem xs_one (f : Nat → Nat) (x : Nat) : xs f [x] = f x := by simp [xs]
theorem xs_cons (f : Nat → Nat) (x : Nat) (l : List Nat) : xs f (x :: l) = f x ^^^ xs f l := by
  have := xs_append f [x] l
  rw [xs_one] at this; exact this
theorem xs_congr {f g : Nat → Nat} {ts : List Nat} (h : ∀ x, x ∈ ts → f x = g x) : xs f ts = xs g ts := by
  unfold xs; rw [List.map_congr_left h]
theorem runOn_append (f : Nat → Nat) (a b : List Stp) : runOn f (a ++ b) = runOn (runOn f a) b := by simp [runOn]
theorem xs_filter1 (f : Nat → Nat) (a : Nat) : ∀ l : List Nat, l.Pairwise (· < ·) → a ∈ l → xs f l = xs f (l.filter fun x => x != a) ^^^ f a
  | [], _, h => by cases h
  | x :: l, hp, h => by
    rw [List.pairwise_cons] at hp
    by_cases e : x = a
    · subst e
      have hf : l.filter (fun y => y != x) = l := List.filter_eq_self.2 fun y hy => by have := hp.1 y hy; simp; omega
      rw [xs_cons, List.filter_cons_of_neg (by simp), hf, Nat.xor_comm]
    · have ha : a ∈ l := by
        rcases List.mem_cons.1 h with h | h
        · exact absurd h.symm e
        · exact h
      rw [xs_cons, List.filter_cons_of_pos (by simp [e]), xs_cons, xs_filter1 f a l hp.2 ha, Nat.xor_assoc]
theorem length_filter1 (a : Nat) : ∀ l : List Nat, l.Pairwise (· < ·) → a ∈ l → (l.filter fun x => x != a).length + 1 = l.length
  | [], _, h => by cases h
  | x :: l, hp, h => by
    rw [List.pairwise_cons] at hp
    by_cases e : x = a
    · subst e
      have hf : l.filter (fun y => y != x) = l := List.filter_eq_self.2 fun y hy => by have := hp.1 y hy; simp; omega
      rw [List.filter_cons_of_neg (by simp), hf]; rfl
    · have ha : a ∈ l := by
        rcases List.mem_cons.1 h with h | h
        · exact absurd h.symm e
        · exact h
      rw [List.filter_cons_of_pos (by simp [e]), List.length_cons, length_filter1 a l hp.2 ha]; rfl
/-- What is left of a list behind the pair. -/
def rest2 (a b : Nat) (l : List Nat) : List Nat := l.filter fun x => !(x == a || x == b)
theorem rest2_eq (a b : Nat) (l : List Nat) : rest2 a b l = (l.filter fun x => x != a).filter fun x => x != b := by
  unfold rest2; rw [List.filter_filter]
  refine List.filter_congr fun x _ => ?_
  cases h1 : (x == a) <;> cases h2 : (x == b) <;> simp [bne, h1, h2]
theorem rest2_xs (f : Nat → Nat) {a b : Nat} {l : List Nat} (hp : l.Pairwise (· < ·)) (hab : a ≠ b) (ha : a ∈ l) (hb : b ∈ l) : xs f l = xs f (rest2 a b l) ^^^ (f a ^^^ f b) := by
  have hb' : b ∈ l.filter fun x => x != a := by simp [hb, Ne.symm hab]
  rw [rest2_eq, xs_filter1 f a l hp ha, xs_filter1 f b _ (hp.filter _) hb', Nat.xor_assoc, Nat.xor_comm (f b)]
theorem rest2_length {a b : Nat} {l : List Nat} (hp : l.Pairwise (· < ·)) (hab : a ≠ b) (ha : a ∈ l) (hb : b ∈ l) : (rest2 a b l).length + 2 = l.length := by
  have hb' : b ∈ l.filter fun x => x != a := by simp [hb, Ne.symm hab]
  have h1 := length_filter1 a l hp ha
  have h2 := length_filter1 b _ (hp.filter (fun x => x != a)) hb'
  rw [rest2_eq]; omega
theorem rest2_mem {a b x : Nat} {l : List Nat} : x ∈ rest2 a b l ↔ x ∈ l ∧ x ≠ a ∧ x ≠ b := by simp [rest2]
end Go.Proofs.YtokmllopbfmadabDoor.Plans

/- The plan, in plain numbers: pairs that many lists have are made once. -/
namespace Go.Proofs.YtokmllopbfmadabDoor.Plans

/-- Does the list have both? -/
def both (a b : Nat) (l : List Nat) : Bool := decide (a ∈ l) && decide (b ∈ l)
/-- How many lists have both. -/
def cnt (L : List (List Nat)) (a b : Nat) : Nat := if a < b then L.countP (both a b) else 0
/-- The pair that most lists have: the least of those. -/
def IsBest (L : List (List Nat)) (p : Nat × Nat) (t : Nat) : Prop :=
  (∀ x y, cnt L x y ≤ t) ∧ ((t = 0 ∧ p = (0, 0)) ∨ (0 < t ∧ cnt L p.1 p.2 = t ∧ ∀ x y, cnt L x y = t → p.1 < x ∨ (p.1 = x ∧ p.2 ≤ y)))
theorem IsBest.one {L : List (List Nat)} {p q : Nat × Nat} {t u : Nat} (h : IsBest L p t) (k : IsBest L q u) : p = q ∧ t = u := by
  obtain ⟨h1, h2⟩ := h
  obtain ⟨k1, k2⟩ := k
  rcases h2 with ⟨ht, hp⟩ | ⟨ht, hp, hl⟩
  · rcases k2 with ⟨ku, kp⟩ | ⟨ku, kp, kl⟩
    · exact ⟨hp.trans kp.symm, by omega⟩
    · have := h1 q.1 q.2; omega
  · rcases k2 with ⟨ku, kp⟩ | ⟨ku, kp, kl⟩
    · have := k1 p.1 p.2; omega
    · have e1 := h1 q.1 q.2
      have e2 := k1 p.1 p.2
      have e : t = u := by omega
      have a := hl q.1 q.2 (by omega)
      have b := kl p.1 p.2 (by omega)
      refine ⟨Prod.ext (by omega) (by omega), e⟩
open Classical in
noncomputable def best (L : List (List Nat)) : (Nat × Nat) × Nat := if h : ∃ q : (Nat × Nat) × Nat, IsBest L q.1 q.2 then Classical.choose h else ((0, 0), 0)
theorem best_eq {L : List (List Nat)} {p : Nat × Nat} {t : Nat} (h : IsBest L p t) : best L = (p, t) := by
  have hex : ∃ q : (Nat × Nat) × Nat, IsBest L q.1 q.2 := ⟨(p, t), h⟩
  unfold best
  rw [dif_pos hex]
  have := (Classical.choose_spec hex).one h
  exact Prod.ext this.1 this.2
/-- The helper in the pair's place. -/
def putH (L : List (List Nat)) (p : Nat × Nat) (h : Nat) : List (List Nat) := L.map fun l => if both p.1 p.2 l then rest2 p.1 p.2 l ++ [h] else l
/-- The lists behind k helpers. -/
noncomputable def listsTo (L : List (List Nat)) (h : Nat) : Nat → List (List Nat)
  | 0 => L
  | k + 1 => putH (listsTo L h k) (best (listsTo L h k)).1 (h + k)
/-- The helpers' steps. -/
noncomputable def helpTo (L : List (List Nat)) (h : Nat) : Nat → List Stp
  | 0 => []
  | k + 1 => helpTo L h k ++ [⟨h + k, (best (listsTo L h k)).1.1, true⟩, ⟨h + k, (best (listsTo L h k)).1.2, false⟩]
/-- So many helpers are made. -/
def IsEnd (L : List (List Nat)) (h K : Nat) : Prop := (best (listsTo L h K)).2 < 3 ∧ (∀ k, k < K → 3 ≤ (best (listsTo L h k)).2) ∧ ∀ k, k ≤ K → ∃ p t, IsBest (listsTo L h k) p t
theorem IsEnd.one {L : List (List Nat)} {h K M : Nat} (a : IsEnd L h K) (b : IsEnd L h M) : K = M := by
  by_cases h1 : K < M
  · have := b.2.1 K h1; have := a.1; omega
  · by_cases h2 : M < K
    · have := a.2.1 M h2; have := b.1; omega
    · omega
open Classical in
noncomputable def endOf (L : List (List Nat)) (h : Nat) : Nat := if e : ∃ K, IsEnd L h K then Classical.choose e else 0
theorem endOf_eq {L : List (List Nat)} {h K : Nat} (e : IsEnd L h K) : endOf L h = K := by
  have hex : ∃ K, IsEnd L h K := ⟨K, e⟩
  unfold endOf
  rw [dif_pos hex]
  exact (Classical.choose_spec hex).one e
/-- The lists of one piece. -/
def needs (rows : List (List Nat)) (j : Nat) : List (List Nat) := (List.range (8 * rows.length)).map fun k => turnIn ((rows.getD (k / 8) []).getD j 0) (k % 8) (8 * j) 8
/-- The steps into one sum's bit. -/
def addB (dst : Nat) : List Nat → Bool → List Stp
  | [], _ => []
  | x :: l, b => ⟨dst, x, !b⟩ :: addB dst l true
/-- The steps into the sums' bits, of the first k lists. -/
def addTo' (first : Nat) (L : List (List Nat)) (begun : Nat → Bool) : Nat → List Stp
  | 0 => []
  | k + 1 => addTo' first L begun k ++ addB (first + k) (L.getD k []) (begun k)
/-- Which bits have had a step, behind the first j pieces. -/
def begunTo (rows : List (List Nat)) : Nat → Nat → Bool
  | 0, _ => false
  | j + 1, k => begunTo rows j k || !((needs rows j).getD k []).isEmpty
noncomputable def pieceSteps (rows : List (List Nat)) (n j : Nat) : List Stp :=
  helpTo (needs rows j) (8 * (n + rows.length)) (endOf (needs rows j) (8 * (n + rows.length))) ++ addTo' (8 * n) (listsTo (needs rows j) (8 * (n + rows.length)) (endOf (needs rows j) (8 * (n + rows.length)))) (begunTo rows j) (8 * rows.length)
/-- ████ The plan. ████ -/
noncomputable def planTo (rows : List (List Nat)) (n : Nat) : Nat → List Stp
  | 0 => []
  | j + 1 => planTo rows n j ++ pieceSteps rows n j
/-- Each piece's helpers come to an end. -/
def Ends (rows : List (List Nat)) (n : Nat) : Prop := ∀ j, j < n → IsEnd (needs rows j) (8 * (n + rows.length)) (endOf (needs rows j) (8 * (n + rows.length)))

/-! ### what the lists are -/
structure LOk (L : List (List Nat)) (o h k : Nat) : Prop where
  up : ∀ l, l ∈ L → l.Pairwise (· < ·)
  inn : ∀ l, l ∈ L → ∀ x, x ∈ l → (o ≤ x ∧ x < o + 8) ∨ (h ≤ x ∧ x < h + k)
def total (L : List (List Nat)) : Nat := (L.map List.length).sum
theorem putH_length (L : List (List Nat)) (p : Nat × Nat) (h : Nat) : (putH L p h).length = L.length := by simp [putH]
theorem listsTo_length (L : List (List Nat)) (h k : Nat) : (listsTo L h k).length = L.length := by
  induction k with
  | zero => rfl
  | succ k ih => rw [listsTo, putH_length, ih]
theorem needs_length (rows : List (List Nat)) (j : Nat) : (needs rows j).length = 8 * rows.length := by simp [needs]
theorem needs_ok (rows : List (List Nat)) (j h : Nat) : LOk (needs rows j) (8 * j) h 0 := by
  constructor
  · intro l hl
    simp only [needs, List.mem_map] at hl
    obtain ⟨k, _, rfl⟩ := hl
    exact turnIn_rising _ _ _ _
  · intro l hl x hx
    simp only [needs, List.mem_map] at hl
    obtain ⟨k, _, rfl⟩ := hl
    exact .inl (turnIn_mem _ _ _ _ _ hx)
theorem LOk.put {L : List (List Nat)} {o h k : Nat} (H : LOk L o h k) (ho : o + 8 ≤ h) (p : Nat × Nat) : LOk (putH L p (h + k)) o h (k + 1) := by
  constructor
  · intro l hl
    simp only [putH, List.mem_map] at hl
    obtain ⟨m, hm, rfl⟩ := hl
    split
    · rw [List.pairwise_append]
      refine ⟨(H.up m hm).filter _, by simp, fun x hx y hy => ?_⟩
      have := H.inn m hm x (rest2_mem.1 hx).1
      simp at hy; omega
    · exact H.up m hm
  · intro l hl x hx
    simp only [putH, List.mem_map] at hl
    obtain ⟨m, hm, rfl⟩ := hl
    split at hx
    · rcases List.mem_append.1 hx with hx | hx
      · have := H.inn m hm x (rest2_mem.1 hx).1; omega
      · simp at hx; omega
    · have := H.inn m hm x hx; omega
theorem listsTo_ok {L : List (List Nat)} {o h : Nat} (H : LOk L o h 0) (ho : o + 8 ≤ h) : ∀ k, LOk (listsTo L h k) o h k
  | 0 => H
  | k + 1 => (listsTo_ok H ho k).put ho _
theorem both_iff {a b : Nat} {l : List Nat} : both a b l = true ↔ a ∈ l ∧ b ∈ l := by simp [both]
theorem total_put {p : Nat × Nat} (hp : p.1 < p.2) (h : Nat) : ∀ (L : List (List Nat)), (∀ l, l ∈ L → l.Pairwise (· < ·)) → total (putH L p h) + L.countP (both p.1 p.2) = total L
  | [], _ => rfl
  | l :: L, hu => by
    have ih := total_put hp h L (fun l hl => hu l (List.mem_cons_of_mem _ hl))
    have e1 : total (putH (l :: L) p h) = (if both p.1 p.2 l then rest2 p.1 p.2 l ++ [h] else l).length + total (putH L p h) := by simp [total, putH]
    have e2 : total (l :: L) = l.length + total L := by simp [total]
    rw [e1, e2]
    by_cases hb : both p.1 p.2 l = true
    · have hm := both_iff.1 hb
      have := rest2_length (hu l (List.mem_cons_self ..)) (by omega) hm.1 hm.2
      rw [List.countP_cons_of_pos hb, if_pos hb, List.length_append, List.length_singleton]; omega
    · rw [List.countP_cons_of_neg hb, if_neg hb]; omega
theorem cnt_pos {L : List (List Nat)} {a b : Nat} (h : 0 < cnt L a b) : a < b ∧ ∃ l, l ∈ L ∧ a ∈ l ∧ b ∈ l := by
  unfold cnt at h
  split at h
  · rename_i hab
    obtain ⟨l, hl, hb⟩ := List.countP_pos_iff.1 h
    exact ⟨hab, l, hl, both_iff.1 hb⟩
  · omega
theorem IsBest.pair {L : List (List Nat)} {p : Nat × Nat} {t : Nat} (h : IsBest L p t) (ht : 3 ≤ t) : p.1 < p.2 ∧ L.countP (both p.1 p.2) = t ∧ ∃ l, l ∈ L ∧ p.1 ∈ l ∧ p.2 ∈ l := by
  rcases h.2 with ⟨h0, _⟩ | ⟨_, hc, _⟩
  · omega
  · obtain ⟨h1, h2⟩ := cnt_pos (L := L) (a := p.1) (b := p.2) (by omega)
    refine ⟨h1, ?_, h2⟩
    unfold cnt at hc; rw [if_pos h1] at hc; exact hc
/-- What is known behind k helpers. -/
theorem pair_at {L : List (List Nat)} {h K : Nat} (e : IsEnd L h K) {k : Nat} (hk : k < K) : IsBest (listsTo L h k) (best (listsTo L h k)).1 (best (listsTo L h k)).2 ∧ 3 ≤ (best (listsTo L h k)).2 := by
  obtain ⟨p, t, hb⟩ := e.2.2 k (by omega)
  have := best_eq hb
  refine ⟨?_, e.2.1 k hk⟩
  rw [this]; exact hb
theorem total_to {L : List (List Nat)} {o h K : Nat} (H : LOk L o h 0) (ho : o + 8 ≤ h) (e : IsEnd L h K) : ∀ k, k ≤ K → total (listsTo L h k) + 3 * k ≤ total L
  | 0, _ => Nat.le_refl _
  | k + 1, hk => by
    have ih := total_to H ho e k (by omega)
    obtain ⟨hb, ht⟩ := pair_at e (k := k) (by omega)
    obtain ⟨h1, h2, _⟩ := hb.pair ht
    have := total_put h1 (h + k) _ (listsTo_ok H ho k).up
    rw [listsTo]; omega
theorem total_le (m : Nat) : ∀ (L : List (List Nat)), (∀ l, l ∈ L → l.length ≤ m) → total L ≤ m * L.length
  | [], _ => by simp [total]
  | l :: L, h => by
    have := total_le m L (fun l hl => h l (List.mem_cons_of_mem _ hl))
    have := h l (List.mem_cons_self ..)
    have e2 : total (l :: L) = l.length + total L := by simp [total]
    rw [e2, List.length_cons, Nat.mul_add, Nat.mul_one]; omega
theorem needs_total (rows : List (List Nat)) (j : Nat) : total (needs rows j) ≤ 64 * rows.length := by
  have := total_le 8 (needs rows j) (fun l hl => by
    simp only [needs, List.mem_map] at hl
    obtain ⟨k, _, rfl⟩ := hl
    exact turnIn_le _ _ _ _)
  rw [needs_length] at this; omega
theorem end_le {rows : List (List Nat)} {n j K : Nat} (hj : j < n) (e : IsEnd (needs rows j) (8 * (n + rows.length)) K) : 3 * K ≤ 64 * rows.length := by
  have h1 := total_to (needs_ok rows j _) (by omega) e K (Nat.le_refl _)
  have h2 := needs_total rows j
  omega
/-! ### how many steps there are -/
theorem helpTo_length (L : List (List Nat)) (h k : Nat) : (helpTo L h k).length = 2 * k := by
  induction k with
  | zero => rfl
  | succ k ih => rw [helpTo, List.length_append, ih]; rfl
theorem addB_length (dst : Nat) : ∀ (l : List Nat) (b : Bool), (addB dst l b).length = l.length
  | [], _ => rfl
  | x :: l, b => by rw [addB, List.length_cons, addB_length dst l, List.length_cons]
theorem addB_snoc (dst x : Nat) : ∀ (l : List Nat) (b : Bool), addB dst (l ++ [x]) b = addB dst l b ++ [⟨dst, x, !(b || !l.isEmpty)⟩]
  | [], b => by simp [addB]
  | y :: l, b => by
    rw [List.cons_append, addB, addB_snoc dst x l true]
    simp [addB]
theorem addTo_length (first : Nat) (L : List (List Nat)) (b : Nat → Bool) : ∀ k, k ≤ L.length → (addTo' first L b k).length = total (L.take k)
  | 0, _ => rfl
  | k + 1, hk => by
    have hlt : k < L.length := by omega
    have e1 : L.take (k + 1) = L.take k ++ [L[k]] := by rw [List.take_add_one, List.getElem?_eq_getElem hlt]; rfl
    have e2 : total (L.take k ++ [L[k]]) = total (L.take k) + L[k].length := by unfold total; rw [List.map_append, List.sum_append]; simp
    have e3 : L.getD k [] = L[k] := by simp [hlt]
    rw [addTo', List.length_append, addTo_length first L b k (by omega), addB_length, e1, e2, e3]
theorem piece_few {rows : List (List Nat)} {n j : Nat} (hj : j < n) (e : IsEnd (needs rows j) (8 * (n + rows.length)) (endOf (needs rows j) (8 * (n + rows.length)))) : (pieceSteps rows n j).length ≤ total (needs rows j) := by
  have h1 := total_to (needs_ok rows j _) (by omega) e _ (Nat.le_refl _)
  unfold pieceSteps
  rw [List.length_append, helpTo_length, addTo_length _ _ _ _ (by rw [listsTo_length, needs_length]; omega), List.take_of_length_le (by rw [listsTo_length, needs_length]; omega)]
  omega
/-- How many pairs of bits there are, of the first j pieces. -/
def needsTo (rows : List (List Nat)) : Nat → Nat
  | 0 => 0
  | j + 1 => needsTo rows j + total (needs rows j)
theorem plan_few {rows : List (List Nat)} {n : Nat} (e : Ends rows n) : ∀ j, j ≤ n → (planTo rows n j).length ≤ needsTo rows j
  | 0, _ => Nat.le_refl _
  | j + 1, hj => by
    have := plan_few e j (by omega)
    have := piece_few (j := j) (by omega) (e j (by omega))
    rw [planTo, List.length_append, needsTo]; omega
theorem needsTo_le (rows : List (List Nat)) (j : Nat) : needsTo rows j ≤ 64 * rows.length * j := by
  induction j with
  | zero => simp [needsTo]
  | succ j ih => have := needs_total rows j; rw [needsTo, Nat.mul_add, Nat.mul_one]; omega
end Go.Proofs.YtokmllopbfmadabDoor.Plans
