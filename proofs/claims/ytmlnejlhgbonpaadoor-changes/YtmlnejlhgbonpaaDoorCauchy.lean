/- Any square of factors has an inverse: the elimination of one unknown and one equation of inverses of sums. -/
import Derived.Test.YtmlnejlhgbonpaaDoorGf
namespace Go.Proofs.YtmlnejlhgbonpaaDoor.Gf

theorem inv_mul (a : Nat) (ha : a < 256) (h : a ≠ 0) : times (inv a) a = 1 := by rw [times_comm _ _ (inv_lt a ha) ha]; exact inv_right a ha h
theorem times_eq_zero (a b : Nat) (ha : a < 256) (hb : b < 256) (h : times a b = 0) : a = 0 ∨ b = 0 := by
  by_cases h0 : a = 0
  · exact .inl h0
  · refine .inr ?_
    have e : times (times (inv a) a) b = times (inv a) (times a b) := times_assoc _ _ _ (inv_lt a ha) ha hb
    rw [inv_mul a ha h0, one_times b hb, h, times_zero _ (inv_lt a ha)] at e
    exact e
theorem inv_ne_zero (a : Nat) (ha : a < 256) (h : a ≠ 0) : inv a ≠ 0 := by
  have := inv_pos a ha h; omega
theorem xor_eq_zero {a b : Nat} (h : a ^^^ b = 0) : a = b := by
  have := congrArg (a ^^^ ·) h
  simp only [xcl, Nat.xor_zero] at this
  exact this.symm
theorem xor_ne_zero {a b : Nat} (h : a ≠ b) : a ^^^ b ≠ 0 := fun e => h (xor_eq_zero e)

/-- Two inverses, on one denominator. -/
theorem inv_add (a b : Nat) (ha : a < 256) (hb : b < 256) (ha0 : a ≠ 0) (hb0 : b ≠ 0) : inv a ^^^ inv b = times (a ^^^ b) (times (inv b) (inv a)) := by
  have la := inv_lt a ha
  have lb := inv_lt b hb
  rw [times_xor_l a b _ ha hb]
  have e1 : times a (times (inv b) (inv a)) = inv b := by
    rw [times_comm (inv b) (inv a) lb la, ← times_assoc a _ _ ha la lb, inv_right a ha ha0, one_times _ lb]
  have e2 : times b (times (inv b) (inv a)) = inv a := by
    rw [← times_assoc b _ _ hb lb la, inv_right b hb hb0, one_times _ la]
  rw [e1, e2, Nat.xor_comm]
/-- What is left of an unknown behind the elimination. -/
theorem elim_one (a b c : Nat) (ha : a < 256) (hb : b < 256) (hc : c < 256) (ha0 : a ≠ 0) (hb0 : b ≠ 0) :
    times (a ^^^ c) (inv a) ^^^ times (b ^^^ c) (inv b) = times (a ^^^ b) (times (times c (inv b)) (inv a)) := by
  have la := inv_lt a ha
  have lb := inv_lt b hb
  rw [times_xor_l a c _ ha hc, times_xor_l b c _ hb hc, inv_right a ha ha0, inv_right b hb hb0, xor4, Nat.xor_self, Nat.zero_xor, ← times_xor_r c _ _ hc, inv_add a b ha hb ha0 hb0]
  have lab : a ^^^ b < 256 := xor_lt ha hb
  have lba : times (inv b) (inv a) < 256 := times_lt _ _ lb
  rw [← times_assoc c _ _ hc lab lba, times_comm c _ hc lab, times_assoc _ c _ lab hc lba, times_assoc c _ _ hc lb la]

/-- The sum of the unknowns, each divided by p plus its place. -/
def csum (x : Nat → Nat) (p : Nat) : List Nat → Nat
  | [] => 0
  | j :: J => times (x j) (inv (p ^^^ j)) ^^^ csum x p J
theorem csum_lt (x : Nat → Nat) (p : Nat) (J : List Nat) (hx : ∀ j, j ∈ J → x j < 256) : csum x p J < 256 := by
  induction J with
  | nil => simp [csum]
  | cons j J ih => exact xor_lt (times_lt _ _ (hx j (by simp))) (ih fun i hi => hx i (by simp [hi]))
/-- p's sum times so much, and p0's times so much, come to one sum with less unknowns. -/
theorem csum_elim (x : Nat → Nat) (p p0 j0 : Nat) (hp : p < 256) (hp0 : p0 < 256) (hj0 : j0 < 256) (J : List Nat) (hx : ∀ j, j ∈ J → x j < 256) (hJ : ∀ j, j ∈ J → j < 256) (h1 : ∀ j, j ∈ J → p ≠ j) (h2 : ∀ j, j ∈ J → p0 ≠ j) :
    times (p ^^^ j0) (csum x p J) ^^^ times (p0 ^^^ j0) (csum x p0 J) = times (p ^^^ p0) (csum (fun j => times (x j) (times (j ^^^ j0) (inv (p0 ^^^ j)))) p J) := by
  have lpj : p ^^^ j0 < 256 := xor_lt hp hj0
  have lp0j : p0 ^^^ j0 < 256 := xor_lt hp0 hj0
  have lpp : p ^^^ p0 < 256 := xor_lt hp hp0
  induction J with
  | nil => simp only [csum]; rw [times_zero _ lpj, times_zero _ lp0j, times_zero _ lpp]; rfl
  | cons j J ih =>
    have ih := ih (fun i hi => hx i (by simp [hi])) (fun i hi => hJ i (by simp [hi])) (fun i hi => h1 i (by simp [hi])) (fun i hi => h2 i (by simp [hi]))
    have hxj := hx j (by simp)
    have hjb := hJ j (by simp)
    have la : p ^^^ j < 256 := xor_lt hp hjb
    have lb : p0 ^^^ j < 256 := xor_lt hp0 hjb
    have lc : j ^^^ j0 < 256 := xor_lt hjb hj0
    have na := xor_ne_zero (h1 j (by simp))
    have nb := xor_ne_zero (h2 j (by simp))
    have lia := inv_lt _ la
    have lib := inv_lt _ lb
    simp only [csum]
    rw [times_xor_r _ _ _ lpj, times_xor_r _ _ _ lp0j, times_xor_r _ _ _ lpp, xor4, ih]
    congr 1
    -- the one unknown
    have e := elim_one (p ^^^ j) (p0 ^^^ j) (j ^^^ j0) la lb lc na nb
    have s1 : (p ^^^ j) ^^^ (j ^^^ j0) = p ^^^ j0 := by rw [Nat.xor_assoc, xcl]
    have s2 : (p0 ^^^ j) ^^^ (j ^^^ j0) = p0 ^^^ j0 := by rw [Nat.xor_assoc, xcl]
    have s3 : (p ^^^ j) ^^^ (p0 ^^^ j) = p ^^^ p0 := by rw [xor4, Nat.xor_self, Nat.xor_zero]
    rw [s1, s2, s3] at e
    have q1 : times (p ^^^ j0) (times (x j) (inv (p ^^^ j))) = times (x j) (times (p ^^^ j0) (inv (p ^^^ j))) := by
      rw [← times_assoc _ _ _ lpj hxj lia, times_comm _ _ lpj hxj, times_assoc _ _ _ hxj lpj lia]
    have q2 : times (p0 ^^^ j0) (times (x j) (inv (p0 ^^^ j))) = times (x j) (times (p0 ^^^ j0) (inv (p0 ^^^ j))) := by
      rw [← times_assoc _ _ _ lp0j hxj lib, times_comm _ _ lp0j hxj, times_assoc _ _ _ hxj lp0j lib]
    have lcb : times (j ^^^ j0) (inv (p0 ^^^ j)) < 256 := times_lt _ _ lc
    rw [q1, q2, ← times_xor_r _ _ _ hxj, e, ← times_assoc _ _ _ hxj lpp (times_lt _ _ lcb), times_comm _ _ hxj lpp, times_assoc _ _ _ lpp hxj (times_lt _ _ lcb), times_assoc _ _ _ hxj lcb lia]

/-- ████ Where as many sums are nothing as there are unknowns, each unknown is nothing. ████ -/
theorem cauchy : ∀ (J P : List Nat), J.length = P.length → J.Nodup → P.Nodup → (∀ j, j ∈ J → j < 256) → (∀ p, p ∈ P → p < 256) → (∀ j, j ∈ J → ∀ p, p ∈ P → p ≠ j) →
    ∀ x : Nat → Nat, (∀ j, j ∈ J → x j < 256) → (∀ p, p ∈ P → csum x p J = 0) → ∀ j, j ∈ J → x j = 0
  | [], _, _, _, _, _, _, _, _, _, _ => fun j hj => by cases hj
  | j0 :: J, [], h, _, _, _, _, _, _, _, _ => by simp at h
  | j0 :: J, p0 :: P, hl, hJ, hP, bJ, bP, hne, x, bx, hs => by
    have hj0 : j0 < 256 := bJ j0 (by simp)
    have hp0 : p0 < 256 := bP p0 (by simp)
    have hJ1 := (List.nodup_cons.1 hJ)
    have hP1 := (List.nodup_cons.1 hP)
    have by_ : ∀ j, j ∈ J → (fun j => times (x j) (times (j ^^^ j0) (inv (p0 ^^^ j)))) j < 256 := fun j hj => times_lt _ _ (bx j (by simp [hj]))
    have key := cauchy J P (by simpa using hl) hJ1.2 hP1.2 (fun j hj => bJ j (by simp [hj])) (fun p hp => bP p (by simp [hp])) (fun j hj p hp => hne j (by simp [hj]) p (by simp [hp]))
      (fun j => times (x j) (times (j ^^^ j0) (inv (p0 ^^^ j)))) by_ (fun p hp => ?_)
    · have hz : ∀ j, j ∈ J → x j = 0 := by
        intro j hj
        have hjb := bJ j (by simp [hj])
        have k := key j hj
        have lb : p0 ^^^ j < 256 := xor_lt hp0 hjb
        have nb := xor_ne_zero (hne j (by simp [hj]) p0 (by simp))
        have hjj : j ≠ j0 := fun e => hJ1.1 (e ▸ hj)
        rcases times_eq_zero _ _ (bx j (by simp [hj])) (times_lt _ _ (xor_lt hjb hj0)) k with k | k
        · exact k
        · rcases times_eq_zero _ _ (xor_lt hjb hj0) (inv_lt _ lb) k with k | k
          · exact absurd k (xor_ne_zero hjj)
          · exact absurd k (inv_ne_zero _ lb nb)
      have hrest : ∀ (K : List Nat), (∀ j, j ∈ K → x j = 0 ∧ j < 256) → csum x p0 K = 0 := by
        intro K
        induction K with
        | nil => intro _; rfl
        | cons j K ih =>
          intro h
          have hj := h j (by simp)
          rw [csum, hj.1, zero_times _ (inv_lt _ (xor_lt hp0 hj.2)), ih fun i hi => h i (by simp [hi])]; rfl
      intro j hj
      rcases List.mem_cons.1 hj with rfl | hj
      · have e := hs p0 (by simp)
        rw [csum, hrest J (fun j hj => ⟨hz j hj, bJ j (by simp [hj])⟩), Nat.xor_zero] at e
        have lb : p0 ^^^ j < 256 := xor_lt hp0 hj0
        rcases times_eq_zero _ _ (bx j (by simp)) (inv_lt _ lb) e with k | k
        · exact k
        · exact absurd k (inv_ne_zero _ lb (xor_ne_zero (hne j (by simp) p0 (by simp))))
      · exact hz j hj
    · have hpb := bP p (by simp [hp])
      have e1 := hs p (by simp [hp])
      have e0 := hs p0 (by simp)
      have hel := csum_elim x p p0 j0 hpb hp0 hj0 (j0 :: J) bx bJ (fun j hj => hne j hj p (by simp [hp])) (fun j hj => hne j hj p0 (by simp))
      rw [e1, e0, times_zero _ (xor_lt hpb hj0), times_zero _ (xor_lt hp0 hj0), Nat.xor_self] at hel
      have hpp : p ≠ p0 := fun e => hP1.1 (e ▸ hp)
      have lpp : p ^^^ p0 < 256 := xor_lt hpb hp0
      have ly : ∀ j, j ∈ j0 :: J → (fun j => times (x j) (times (j ^^^ j0) (inv (p0 ^^^ j)))) j < 256 := fun j hj => times_lt _ _ (bx j hj)
      rcases times_eq_zero _ _ lpp (csum_lt _ _ _ ly) hel.symm with k | k
      · exact absurd k (xor_ne_zero hpp)
      · rw [csum] at k
        have z : times (x j0) (times (j0 ^^^ j0) (inv (p0 ^^^ j0))) = 0 := by
          rw [Nat.xor_self, zero_times _ (inv_lt _ (xor_lt hp0 hj0)), times_zero _ (bx j0 (by simp))]
        rw [z, zero_times _ (inv_lt _ (xor_lt hpb hj0)), Nat.zero_xor] at k
        exact k
end Go.Proofs.YtmlnejlhgbonpaaDoor.Gf
