import Derived.Test.YtokmllopbfmadaaDoorGMem
import Derived.Test.YtokmllopbfmadaaDoorGNLists
import Derived.Test.YtokmllopbfmadaaDoorGGf
/- More on blocks of memory. -/
namespace Go.Proofs.YtokmllopbfmadaaDoor.Mem
open Go.RowKit
theorem Laid.again {w W W' : World} {B i : Nat} {u v : Value} {t : TypeId} {us : List Value} (h : Laid w W B i u) (hb : Below w.heap.size W W') (hB : Blk w B t us) : Laid w (W'.setCell ⟨B, i, none⟩ v) B i v := by
  have hlt := hB.lt
  refine ⟨by have := hb.size; have := h.size; simp [World.setCell]; omega, fun b h1 h2 => ?_, ?_⟩
  · rw [Below.heap_setCell _ _ _ _ h1, hb.block b h2]; exact h.rest b h1 h2
  · have e : W'.heap[B]? = some (.cells ((us.set i u)).toArray t (0, 0)) := by
      rw [hb.block B hlt, h.row]; exact hB.set i u
    have e1 : Blk (W'.setCell ⟨B, i, none⟩ v) B t ((us.set i u).set i v) := Blk.set (w := W') e i v
    have e2 : Blk (w.setCell ⟨B, i, none⟩ v) B t (us.set i v) := hB.set i v
    rw [List.set_set] at e1
    exact e1.trans e2.symm
/-- The same as one step of a region that draws its order. -/
theorem step_append_one {P : Program} {w : World} {ops : Array Oper} {o : Oper} {a : Act} {K : Act → World → Prop} {Q : Exit → Act → World → Prop} {E : Prop}
    (hgd : o.guard = none) (s x : Operand) (t : TypeId) (hop : o.op = Op.call { callee := Callee.builtin Builtin.append, args := #[s, x], argTypes := #[t, t] })
    (base : Nat) (e : TypeId) (z : Value) (bytes : Nat) (ht : P.underlying t = some (.slice e)) (hinfo : (P.info? e).map (fun i => (i.zero, i.size, i.bytes)) = some (some z, 1, bytes)) (hz : z.cells.size = 1) (hby : bytes ≤ 1000)
    (v : Value) (n : Nat) (xs : List Value) (hs : a.eval s = v) (hown : w.ownsRow base e 1 v n xs) (ad : Addr) (c : Nat) (u : Value) (hx : a.eval x = .slice (some ad) 1 c) (hu : w.cell? ad = some u) (h1 : u.oneCell' = true) (hn : n ≤ 100000) (hbase : base ≤ w.heap.size)
    (hK : ∀ v' w', w'.ownsRow base e 1 v' (n + 1) (xs ++ [u]) → (∀ B a, Below B a w → B ≤ base → Below B a w') → K (a.put o.dst v') w') :
    if Region.wanted o (yielded ops a.tmps) = true then Oper.wp P o a w K Q else E := by
  have hw : Region.wanted o (yielded ops a.tmps) = true := by simp [Region.wanted, hgd]
  rw [if_pos hw]
  obtain ⟨i0, hi, hz0, hz1, hz2⟩ := info_parts hinfo
  obtain ⟨v', w', hrun, ho, hg, _⟩ := run_append_own (P := P) w base t o.type e i0 z 1 bytes ht hi hz0 hz1 hz2 hz (by decide) v n xs hown ad 1 c [u] rfl (fun j y hy => by
    match j, hy with
    | 0, hy => simp at hy; subst hy; rw [Addr.add_zero']; exact hu
    | j + 1, hy => simp at hy) (fun y hy => by simp at hy; subst hy; exact h1) (by unfold maxLen; omega) (by
    have : (n + 1) * bytes ≤ 100001 * 1000 := Nat.mul_le_mul (by omega) hby
    omega) hbase
  unfold Oper.wp
  simp [execOp, hop, resolve, invoke, builtin, hs, hx, hrun, Result.andThen]
  exact hK v' w' ho (fun B b hb hB => below_grown hb hown hg (Nat.le_trans hB hbase) hB)
theorem ownsRow_laid {w W : World} {B i : Nat} {u : Value} {us : List Value} {tB : TypeId} {base : Nat} {e : TypeId} {v : Value} {n : Nat} {xs : List Value} (h : w.ownsRow base e 1 v n xs) (hl : Laid w W B i u) (hB : Blk w B tB us) (ht : e ≠ tB) : W.ownsRow base e 1 v n xs := by
  obtain ⟨h1, h2⟩ := h
  refine ⟨h1, ?_⟩
  rcases h2 with h2 | ⟨g, cap, cur, hv, hg, hh, r⟩
  · exact Or.inl h2
  · have hne : g ≠ B := Blk.type_ne (w := w) (vs := cur.toList) (by unfold Blk; rw [hh]) hB ht
    exact Or.inr ⟨g, cap, cur, hv, hg, by rw [hl.rest g hne (lt_of_block hh)]; exact hh, r⟩
theorem BsAt.of_owns {w : World} {base : Nat} {t : TypeId} {v : Value} {l : List Nat} (h : w.ownsRow base t 1 v l.length (bytesV l)) : BsAt w v l := by
  obtain ⟨hl, h2⟩ := h
  rcases h2 with ⟨rfl, h0⟩ | ⟨g, cap, cur, rfl, hg, hh, _, _, _, ht⟩
  · exact ⟨none, 0, by rw [h0], .inl (List.eq_nil_of_length_eq_zero h0)⟩
  · refine ⟨_, cap, rfl, .inr ⟨g, 0, rfl, lt_of_block hh, fun k hk => ?_⟩⟩
    rw [Nat.zero_add, cell_of_row w g k cur t (0, 0) hh]
    rw [Nat.mul_one] at ht
    have : (cur.toList.take l.length)[k]? = some (.int .u8 (l[k] : Nat)) := by rw [ht]; exact bytesV_at hk
    rw [List.getElem?_take_of_lt hk] at this
    simpa using this
end Go.Proofs.YtokmllopbfmadaaDoor.Mem

namespace Go.Proofs.YtokmllopbfmadaaDoor.Plans
open Go.RowKit Mem

set_option maxRecDepth 100000 in
theorem isNaN_any (x : Int) (w : World) : Calls Tryd.prog 162 #[.int .i64 x] w fun e w' => e = .returned (.bool false) ∧ w' = w := by
  go_enter Tryd.func162, Tryd.ntmps162
  go_wp2
  go_ret
  exact ⟨rfl, rfl⟩
def cmpI (x y : Nat) : Int := if x < y then -1 else if y < x then 1 else 0
set_option maxRecDepth 100000 in
theorem cmp_any (x y : Nat) (w : World) : Calls Tryd.prog 156 #[.int .i64 x, .int .i64 y] w fun e w' => e = .returned (.int .i64 (cmpI x y)) ∧ w' = w := by
  go_enter Tryd.func156, Tryd.ntmps156
  go_wp2_with fail
  refine (isNaN_any _ _).mono ?_
  rintro e w1 ⟨rfl, hw1⟩
  obtain rfl : w = w1 := hw1.symm
  go_wp2_with fail
  refine (isNaN_any _ _).mono ?_
  rintro e w1 ⟨rfl, hw1⟩
  obtain rfl : w = w1 := hw1.symm
  by_cases h1 : x < y
  · go_wp2
    go_ret
    exact ⟨by simp [cmpI, h1], rfl⟩
  · by_cases h2 : y < x
    · go_wp2
      go_ret
      exact ⟨by simp [cmpI, h1, h2], rfl⟩
    · go_wp2
      go_ret
      exact ⟨by simp [cmpI, h1, h2], rfl⟩
/-- Two pairs compared. -/
def cmp2 (x y a b : Nat) : Int := if cmpI x a = 0 then cmpI y b else cmpI x a
theorem cmpI_zero {x y : Nat} : cmpI x y = 0 ↔ x = y := by
  unfold cmpI; split
  · omega
  · split <;> omega
theorem cmp2_neg (x y a b : Nat) : cmp2 x y a b < 0 ↔ (x < a ∨ (x = a ∧ y < b)) := by
  unfold cmp2 cmpI
  by_cases h1 : x < a
  · simp [h1]
  · by_cases h2 : a < x
    · simp [h1, h2]; omega
    · by_cases h3 : y < b
      · simp [h1, h2, h3]; omega
      · by_cases h4 : b < y
        · simp [h1, h2, h3, h4]
        · simp [h1, h2, h3, h4]
set_option maxRecDepth 100000 in
set_option maxHeartbeats 1000000 in
theorem compare_any (x y a b g1 g2 : Nat) (w : World) (h1 : Blk w g1 159 [.int .i64 x, .int .i64 y]) (h2 : Blk w g2 159 [.int .i64 a, .int .i64 b]) :
    Calls Tryd.prog 139 #[.slice (some ⟨g1, 0, none⟩) 2 2, .slice (some ⟨g2, 0, none⟩) 2 2] w fun e w' => e = .returned (.int .i64 (cmp2 x y a b)) ∧ w' = w := by
  have x0 := h1.cell_some (k := 0) (v := .int .i64 x) rfl
  have x1 := h1.cell_some (k := 1) (v := .int .i64 y) rfl
  have a0 := h2.cell_some (k := 0) (v := .int .i64 a) rfl
  have a1 := h2.cell_some (k := 1) (v := .int .i64 b) rfl
  clear h1 h2
  go_enter Tryd.func139, Tryd.ntmps139
  go_wp2
  go_loopw [11] (fun iv wr => ((iv = .int .i64 0) ∨ (iv = .int .i64 1 ∧ x = a) ∨ (iv = .int .i64 2 ∧ x = a ∧ y = b)) ∧ w = wr) (fun iv _ => 2 - (intOf iv).toNat)
  case atStart => exact ⟨.inl rfl, rfl⟩
  case round =>
    obtain ⟨hc, rfl⟩ := hrel
    rcases hc with rfl | ⟨rfl, hxa⟩ | ⟨rfl, hxa, hyb⟩
    · have hz : cmpI x a = 0 ↔ x = a := cmpI_zero
      have HC2 : Hid (cmp2 x y a b = if cmpI x a = 0 then cmpI y b else cmpI x a) := rfl
      go_wp2_with fail
      refine (cmp_any x a _).mono ?_
      rintro e w1 ⟨rfl, hw1⟩
      obtain rfl : w = w1 := hw1.symm
      generalize cmpI x a = c at hz HC2
      by_cases hc : c = 0
      · subst hc
        have hxa := hz.1 rfl
        clear hz HC2
        go_wp2
        go_roundw
        case rel => exact ⟨.inr (.inl ⟨rfl, hxa⟩), trivial⟩
        case measure => simp [intOf]
      · have HR : Hid (cmp2 x y a b = c) := by show _ = _; rw [HC2.out, if_neg hc]
        clear hz HC2
        go_wp2
        go_ret
        exact ⟨by rw [HR.out]; rfl, rfl⟩
    · have hz : cmpI y b = 0 ↔ y = b := cmpI_zero
      have HC2 : Hid (cmp2 x y a b = cmpI y b) := by show _ = _; unfold cmp2; rw [if_pos (cmpI_zero.2 hxa)]
      have HXA : Hid (x = a) := hxa
      clear hxa
      go_wp2_with fail
      refine (cmp_any y b _).mono ?_
      rintro e w1 ⟨rfl, hw1⟩
      obtain rfl : w = w1 := hw1.symm
      generalize cmpI y b = c at hz HC2
      by_cases hc : c = 0
      · subst hc
        have hyb := hz.1 rfl
        clear hz HC2
        go_wp2
        go_roundw
        case rel => exact ⟨.inr (.inr ⟨rfl, HXA.out, hyb⟩), trivial⟩
        case measure => simp [intOf]
      · clear hz
        go_wp2
        go_ret
        exact ⟨by rw [HC2.out]; rfl, rfl⟩
    · have HR : Hid (cmp2 x y a b = 0) := by show _ = _; unfold cmp2; rw [if_pos (cmpI_zero.2 hxa)]; exact cmpI_zero.2 hyb
      clear hxa hyb
      go_wp2
      go_ret
      exact ⟨by rw [HR.out]; rfl, rfl⟩
end Go.Proofs.YtokmllopbfmadaaDoor.Plans

/- Any square of factors has an inverse: the elimination of one unknown and one equation of inverses of sums. -/
namespace Go.Proofs.YtokmllopbfmadaaDoor.Gf

theorem inv_mul (a : Nat) (ha : a < 256) (h : a ≠ 0) : times (inv a) a = 1 := by rw [times_comm _ _ (inv_lt a ha) ha]; exact inv_right a ha h
theorem times_eq_zero (a b : Nat) (ha : a < 256) (hb : b < 256) (h : times a b = 0) : a = 0 ∨ b = 0 := by
  by_cases h0 : a = 0
  · exact .inl h0
  · refine .inr ?_
    have e : times (times (inv a) a) b = times (inv a) (times a b) := times_assoc _ _ _ (inv_lt a ha) ha hb
    rw [inv_mul a ha h0, one_times b hb, h, times_zero _ (inv_lt a ha)] at e
    exact e
theorem inv_ne_zero (a : Nat) (ha : a < 256) (h : a ≠ 0) : inv a ≠ 0 := by
  have := inv_pos a ha h; omega
theorem xor_eq_zero {a b : Nat} (h : a ^^^ b = 0) : a = b := by
  have := congrArg (a ^^^ ·) h
  simp only [xcl, Nat.xor_zero] at this
  exact this.symm
theorem xor_ne_zero {a b : Nat} (h : a ≠ b) : a ^^^ b ≠ 0 := fun e => h (xor_eq_zero e)

/-- Two inverses, on one denominator. -/
theorem inv_add (a b : Nat) (ha : a < 256) (hb : b < 256) (ha0 : a ≠ 0) (hb0 : b ≠ 0) : inv a ^^^ inv b = times (a ^^^ b) (times (inv b) (inv a)) := by
  have la := inv_lt a ha
  have lb := inv_lt b hb
  rw [times_xor_l a b _ ha hb]
  have e1 : times a (times (inv b) (inv a)) = inv b := by
    rw [times_comm (inv b) (inv a) lb la, ← times_assoc a _ _ ha la lb, inv_right a ha ha0, one_times _ lb]
  have e2 : times b (times (inv b) (inv a)) = inv a := by
    rw [← times_assoc b _ _ hb lb la, inv_right b hb hb0, one_times _ la]
  rw [e1, e2, Nat.xor_comm]
/-- What is left of an unknown behind the elimination. -/
theorem elim_one (a b c : Nat) (ha : a < 256) (hb : b < 256) (hc : c < 256) (ha0 : a ≠ 0) (hb0 : b ≠ 0) :
    times (a ^^^ c) (inv a) ^^^ times (b ^^^ c) (inv b) = times (a ^^^ b) (times (times c (inv b)) (inv a)) := by
  have la := inv_lt a ha
  have lb := inv_lt b hb
  rw [times_xor_l a c _ ha hc, times_xor_l b c _ hb hc, inv_right a ha ha0, inv_right b hb hb0, xor4, Nat.xor_self, Nat.zero_xor, ← times_xor_r c _ _ hc, inv_add a b ha hb ha0 hb0]
  have lab : a ^^^ b < 256 := xor_lt ha hb
  have lba : times (inv b) (inv a) < 256 := times_lt _ _ lb
  rw [← times_assoc c _ _ hc lab lba, times_comm c _ hc lab, times_assoc _ c _ lab hc lba, times_assoc c _ _ hc lb la]

/-- The sum of the unknowns, each divided by p plus its place. -/
def csum (x : Nat → Nat) (p : Nat) : List Nat → Nat
  | [] => 0
  | j :: J => times (x j) (inv (p ^^^ j)) ^^^ csum x p J
theorem csum_lt (x : Nat → Nat) (p : Nat) (J : List Nat) (hx : ∀ j, j ∈ J → x j < 256) : csum x p J < 256 := by
  induction J with
  | nil => simp [csum]
  | cons j J ih => exact xor_lt (times_lt _ _ (hx j (by simp))) (ih fun i hi => hx i (by simp [hi]))
/-- p's sum times so much, and p0's times so much, come to one sum with less unknowns. -/
theorem csum_elim (x : Nat → Nat) (p p0 j0 : Nat) (hp : p < 256) (hp0 : p0 < 256) (hj0 : j0 < 256) (J : List Nat) (hx : ∀ j, j ∈ J → x j < 256) (hJ : ∀ j, j ∈ J → j < 256) (h1 : ∀ j, j ∈ J → p ≠ j) (h2 : ∀ j, j ∈ J → p0 ≠ j) :
    times (p ^^^ j0) (csum x p J) ^^^ times (p0 ^^^ j0) (csum x p0 J) = times (p ^^^ p0) (csum (fun j => times (x j) (times (j ^^^ j0) (inv (p0 ^^^ j)))) p J) := by
  have lpj : p ^^^ j0 < 256 := xor_lt hp hj0
  have lp0j : p0 ^^^ j0 < 256 := xor_lt hp0 hj0
  have lpp : p ^^^ p0 < 256 := xor_lt hp hp0
  induction J with
  | nil => simp only [csum]; rw [times_zero _ lpj, times_zero _ lp0j, times_zero _ lpp]; rfl
  | cons j J ih =>
    have ih := ih (fun i hi => hx i (by simp [hi])) (fun i hi => hJ i (by simp [hi])) (fun i hi => h1 i (by simp [hi])) (fun i hi => h2 i (by simp [hi]))
    have hxj := hx j (by simp)
    have hjb := hJ j (by simp)
    have la : p ^^^ j < 256 := xor_lt hp hjb
    have lb : p0 ^^^ j < 256 := xor_lt hp0 hjb
    have lc : j ^^^ j0 < 256 := xor_lt hjb hj0
    have na := xor_ne_zero (h1 j (by simp))
    have nb := xor_ne_zero (h2 j (by simp))
    have lia := inv_lt _ la
    have lib := inv_lt _ lb
    simp only [csum]
    rw [times_xor_r _ _ _ lpj, times_xor_r _ _ _ lp0j, times_xor_r _ _ _ lpp, xor4, ih]
    congr 1
    -- the one unknown
    have e := elim_one (p ^^^ j) (p0 ^^^ j) (j ^^^ j0) la lb lc na nb
    have s1 : (p ^^^ j) ^^^ (j ^^^ j0) = p ^^^ j0 := by rw [Nat.xor_assoc, xcl]
    have s2 : (p0 ^^^ j) ^^^ (j ^^^ j0) = p0 ^^^ j0 := by rw [Nat.xor_assoc, xcl]
    have s3 : (p ^^^ j) ^^^ (p0 ^^^ j) = p ^^^ p0 := by rw [xor4, Nat.xor_self, Nat.xor_zero]
    rw [s1, s2, s3] at e
    have q1 : times (p ^^^ j0) (times (x j) (inv (p ^^^ j))) = times (x j) (times (p ^^^ j0) (inv (p ^^^ j))) := by
      rw [← times_assoc _ _ _ lpj hxj lia, times_comm _ _ lpj hxj, times_assoc _ _ _ hxj lpj lia]
    have q2 : times (p0 ^^^ j0) (times (x j) (inv (p0 ^^^ j))) = times (x j) (times (p0 ^^^ j0) (inv (p0 ^^^ j))) := by
      rw [← times_assoc _ _ _ lp0j hxj lib, times_comm _ _ lp0j hxj, times_assoc _ _ _ hxj lp0j lib]
    have lcb : times (j ^^^ j0) (inv (p0 ^^^ j)) < 256 := times_lt _ _ lc
    rw [q1, q2, ← times_xor_r _ _ _ hxj, e, ← times_assoc _ _ _ hxj lpp (times_lt _ _ lcb), times_comm _ _ hxj lpp, times_assoc _ _ _ lpp hxj (times_lt _ _ lcb), times_assoc _ _ _ hxj lcb lia]

/-- ████ Where as many sums are nothing as there are unknowns, each unknown is nothing. ████ -/
theorem cauchy : ∀ (J P : List Nat), J.length = P.length → J.Nodup → P.Nodup → (∀ j, j ∈ J → j < 256) → (∀ p, p ∈ P → p < 256) → (∀ j, j ∈ J → ∀ p, p ∈ P → p ≠ j) →
    ∀ x : Nat → Nat, (∀ j, j ∈ J → x j < 256) → (∀ p, p ∈ P → csum x p J = 0) → ∀ j, j ∈ J → x j = 0
  | [], _, _, _, _, _, _, _, _, _, _ => fun j hj => by cases hj
  | j0 :: J, [], h, _, _, _, _, _, _, _, _ => by simp at h
  | j0 :: J, p0 :: P, hl, hJ, hP, bJ, bP, hne, x, bx, hs => by
    have hj0 : j0 < 256 := bJ j0 (by simp)
    have hp0 : p0 < 256 := bP p0 (by simp)
    have hJ1 := (List.nodup_cons.1 hJ)
    have hP1 := (List.nodup_cons.1 hP)
    have by_ : ∀ j, j ∈ J → (fun j => times (x j) (times (j ^^^ j0) (inv (p0 ^^^ j)))) j < 256 := fun j hj => times_lt _ _ (bx j (by simp [hj]))
    have key := cauchy J P (by simpa using hl) hJ1.2 hP1.2 (fun j hj => bJ j (by simp [hj])) (fun p hp => bP p (by simp [hp])) (fun j hj p hp => hne j (by simp [hj]) p (by simp [hp]))
      (fun j => times (x j) (times (j ^^^ j0) (inv (p0 ^^^ j)))) by_ (fun p hp => ?_)
    · have hz : ∀ j, j ∈ J → x j = 0 := by
        intro j hj
        have hjb := bJ j (by simp [hj])
        have k := key j hj
        have lb : p0 ^^^ j < 256 := xor_lt hp0 hjb
        have nb := xor_ne_zero (hne j (by simp [hj]) p0 (by simp))
        have hjj : j ≠ j0 := fun e => hJ1.1 (e ▸ hj)
        rcases times_eq_zero _ _ (bx j (by simp [hj])) (times_lt _ _ (xor_lt hjb hj0)) k with k | k
        · exact k
        · rcases times_eq_zero _ _ (xor_lt hjb hj0) (inv_lt _ lb) k with k | k
          · exact absurd k (xor_ne_zero hjj)
          · exact absurd k (inv_ne_zero _ lb nb)
      have hrest : ∀ (K : List Nat), (∀ j, j ∈ K → x j = 0 ∧ j < 256) → csum x p0 K = 0 := by
        intro K
        induction K with
        | nil => intro _; rfl
        | cons j K ih =>
          intro h
          have hj := h j (by simp)
          rw [csum, hj.1, zero_times _ (inv_lt _ (xor_lt hp0 hj.2)), ih fun i hi => h i (by simp [hi])]; rfl
      intro j hj
      rcases List.mem_cons.1 hj with rfl | hj
      · have e := hs p0 (by simp)
        rw [csum, hrest J (fun j hj => ⟨hz j hj, bJ j (by simp [hj])⟩), Nat.xor_zero] at e
        have lb : p0 ^^^ j < 256 := xor_lt hp0 hj0
        rcases times_eq_zero _ _ (bx j (by simp)) (inv_lt _ lb) e with k | k
        · exact k
        · exact absurd k (inv_ne_zero _ lb (xor_ne_zero (hne j (by simp) p0 (by simp))))
      · exact hz j hj
    · have hpb := bP p (by simp [hp])
      have e1 := hs p (by simp [hp])
      have e0 := hs p0 (by simp)
      have hel := csum_elim x p p0 j0 hpb hp0 hj0 (j0 :: J) bx bJ (fun j hj => hne j hj p (by simp [hp])) (fun j hj => hne j hj p0 (by simp))
      rw [e1, e0, times_zero _ (xor_lt hpb hj0), times_zero _ (xor_lt hp0 hj0), Nat.xor_self] at hel
      have hpp : p ≠ p0 := fun e => hP1.1 (e ▸ hp)
      have lpp : p ^^^ p0 < 256 := xor_lt hpb hp0
      have ly : ∀ j, j ∈ j0 :: J → (fun j => times (x j) (times (j ^^^ j0) (inv (p0 ^^^ j)))) j < 256 := fun j hj => times_lt _ _ (bx j hj)
      rcases times_eq_zero _ _ lpp (csum_lt _ _ _ ly) hel.symm with k | k
      · exact absurd k (xor_ne_zero hpp)
      · rw [csum] at k
        have z : times (x j0) (times (j0 ^^^ j0) (inv (p0 ^^^ j0))) = 0 := by
          rw [Nat.xor_self, zero_times _ (inv_lt _ (xor_lt hp0 hj0)), times_zero _ (bx j0 (by simp))]
        rw [z, zero_times _ (inv_lt _ (xor_lt hpb hj0)), Nat.zero_xor] at k
        exact k
end Go.Proofs.YtokmllopbfmadaaDoor.Gf

/- Sums over unknowns, equations, and what taking one unknown out of all others but one keeps. Nothing of the program. -/
namespace Go.Proofs.YtokmllopbfmadaaDoor.Gf

/-- The sum of g 0 .. g (n - 1). -/
def xs (g : Nat → Nat) : Nat → Nat
  | 0 => 0
  | n + 1 => xs g n ^^^ g n
theorem xs_lt (g : Nat → Nat) (n : Nat) (h : ∀ k, k < n → g k < 256) : xs g n < 256 := by
  induction n with
  | zero => simp [xs]
  | succ n ih => exact xor_lt (ih fun k hk => h k (by omega)) (h n (by omega))
theorem xs_congr {g h : Nat → Nat} {n : Nat} (e : ∀ k, k < n → g k = h k) : xs g n = xs h n := by
  induction n with
  | zero => rfl
  | succ n ih => rw [xs, xs, ih fun k hk => e k (by omega), e n (by omega)]
theorem xs_xor (g h : Nat → Nat) (n : Nat) : xs (fun k => g k ^^^ h k) n = xs g n ^^^ xs h n := by
  induction n with
  | zero => simp [xs]
  | succ n ih => rw [xs, xs, xs, ih, xor4]
theorem xs_zero (g : Nat → Nat) (n : Nat) (h : ∀ k, k < n → g k = 0) : xs g n = 0 := by
  induction n with
  | zero => rfl
  | succ n ih => rw [xs, ih fun k hk => h k (by omega), h n (by omega)]; rfl
theorem xs_one (g : Nat → Nat) (n j : Nat) (hj : j < n) (h : ∀ k, k < n → k ≠ j → g k = 0) : xs g n = g j := by
  induction n with
  | zero => omega
  | succ n ih =>
    rw [xs]
    by_cases e : j = n
    · subst e; rw [xs_zero g j fun k hk => h k (by omega) (by omega), Nat.zero_xor]
    · rw [ih (by omega) fun k hk hn => h k (by omega) hn, h n (by omega) (by omega), Nat.xor_zero]
theorem xs_two (g : Nat → Nat) (n i j : Nat) (hi : i < n) (hj : j < n) (hij : i ≠ j) (h : ∀ k, k < n → k ≠ i → k ≠ j → g k = 0) : xs g n = g i ^^^ g j := by
  have e : xs g n = xs (fun k => (if k = i then g k else 0) ^^^ (if k = i then 0 else g k)) n := xs_congr fun k _ => by
    by_cases e : k = i <;> simp [e]
  rw [e, xs_xor, xs_one (fun k => if k = i then g k else 0) n i hi fun k _ hk => by simp [hk], xs_one (fun k => if k = i then 0 else g k) n j hj fun k hk hkj => by
    by_cases e : k = i
    · simp [e]
    · simp [e, h k hk e hkj]]
  simp [Ne.symm hij]
theorem xs_times (m : Nat) (g : Nat → Nat) (n : Nat) (hm : m < 256) : times m (xs g n) = xs (fun k => times m (g k)) n := by
  induction n with
  | zero => rw [xs, xs, times_zero m hm]
  | succ n ih => rw [xs, xs, times_xor_r m _ _ hm, ih]

/-- What an equation's left side comes to. -/
def dot (d : Nat) (f x : Nat → Nat) : Nat := xs (fun k => times (f k) (x k)) d
theorem dot_lt (d : Nat) (f x : Nat → Nat) (hf : ∀ k, k < d → f k < 256) : dot d f x < 256 := xs_lt _ _ fun k hk => times_lt _ _ (hf k hk)
theorem dot_congr {d : Nat} {f g x y : Nat → Nat} (e : ∀ k, k < d → f k = g k) (e' : ∀ k, k < d → x k = y k) : dot d f x = dot d g y := xs_congr fun k hk => by rw [e k hk, e' k hk]
theorem dot_less (d m : Nat) (f h x : Nat → Nat) (hm : m < 256) (hf : ∀ k, k < d → f k < 256) (hh : ∀ k, k < d → h k < 256) (hx : ∀ k, k < d → x k < 256) :
    dot d (fun k => f k ^^^ times m (h k)) x = dot d f x ^^^ times m (dot d h x) := by
  unfold dot
  rw [xs_times m _ _ hm, ← xs_xor]
  refine xs_congr fun k hk => ?_
  rw [times_xor_l _ _ _ (hf k hk) (times_lt _ _ hm), times_assoc m _ _ hm (hh k hk) (hx k hk)]
theorem dot_xor (d : Nat) (f x y : Nat → Nat) (hf : ∀ k, k < d → f k < 256) : dot d f (fun k => x k ^^^ y k) = dot d f x ^^^ dot d f y := by
  unfold dot
  rw [← xs_xor]
  exact xs_congr fun k hk => times_xor_r _ _ _ (hf k hk)

/-- Row q less so much of row r that the unknown j is gone; row r stays. -/
def outOf (F : Nat → Nat → Nat) (j r by_ : Nat) (G : Nat → Nat → Nat) : Nat → Nat → Nat :=
  fun q k => if q = r then G q k else G q k ^^^ times (times (F q j) by_) (G r k)

/-- The unknowns below j are done: each has an equation of its own, and stands in no other. -/
structure Gauss (d j : Nat) (F : Nat → Nat → Nat) (W : Nat → Nat) (U : Nat → Bool) : Prop where
  byte : ∀ r, r < d → ∀ k, k < d → F r k < 256
  wlt : ∀ i, i < j → W i < d
  inj : ∀ i, i < j → ∀ k, k < j → W i = W k → i = k
  one : ∀ i, i < j → F (W i) i ≠ 0
  zero : ∀ i, i < j → ∀ r, r < d → r ≠ W i → F r i = 0
  used : ∀ r, r < d → (U r = true ↔ ∃ i, i < j ∧ W i = r)
  ker : ∀ x : Nat → Nat, (∀ k, x k < 256) → (∀ r, r < d → dot d (F r) x = 0) → ∀ k, k < d → x k = 0

theorem Gauss.pivot {d j : Nat} {F : Nat → Nat → Nat} {W : Nat → Nat} {U : Nat → Bool} (h : Gauss d j F W U) (hj : j < d) : ∃ r, r < d ∧ U r = false ∧ F r j ≠ 0 := by
  apply Classical.byContradiction
  intro hno
  have hno : ∀ r, r < d → U r = false → F r j = 0 := by
    intro r hr hu
    apply Classical.byContradiction
    intro hf
    exact hno ⟨r, hr, hu, hf⟩
  let z : Nat → Nat := fun k => if k = j then 1 else if k < j then times (F (W k) j) (inv (F (W k) k)) else 0
  have zj : z j = 1 := by simp [z]
  have zk : ∀ k, k < j → z k = times (F (W k) j) (inv (F (W k) k)) := fun k hk => by simp [z, hk, show k ≠ j by omega]
  have zo : ∀ k, k ≠ j → ¬ k < j → z k = 0 := fun k h1 h2 => by simp [z, h1, h2]
  have hz := h.ker z (fun k => by
    by_cases e : k = j
    · rw [e, zj]; decide
    · by_cases e2 : k < j
      · rw [zk k e2]; exact times_lt _ _ (h.byte _ (h.wlt k e2) _ hj)
      · rw [zo k e e2]; decide) (fun r hr => ?_) j hj
  · rw [zj] at hz; cases hz
  · cases hu : U r
    · refine xs_zero _ _ fun k hk => ?_
      show times (F r k) (z k) = 0
      by_cases e : k = j
      · subst e; rw [hno r hr hu, zj]; rfl
      · by_cases e2 : k < j
        · have : F r k = 0 := h.zero k e2 r hr fun e => by
            have := (h.used r hr).2 ⟨k, e2, e.symm⟩
            rw [hu] at this; cases this
          rw [this, zk k e2, zero_times _ (times_lt _ _ (h.byte _ (h.wlt k e2) _ hj))]
        · rw [zo k e e2]; exact times_zero _ (h.byte r hr k hk)
    · obtain ⟨i, hi, rfl⟩ := (h.used r hr).1 hu
      have e : dot d (F (W i)) z = times (F (W i) i) (z i) ^^^ times (F (W i) j) (z j) := xs_two _ d i j (by omega) hj (by omega) fun k hk h1 h2 => by
        show times (F (W i) k) (z k) = 0
        by_cases e2 : k < j
        · rw [h.zero k e2 _ hr fun e => h1 (h.inj k e2 i hi e.symm), zk k e2, zero_times _ (times_lt _ _ (h.byte _ (h.wlt k e2) _ hj))]
        · rw [zo k h2 e2]; exact times_zero _ (h.byte _ hr k hk)
      have b1 := h.byte _ hr i (by omega)
      have b2 := h.byte _ hr j hj
      have b3 := inv_lt _ b1
      rw [e, zj, zk i hi, times_one _ b2, times_comm _ (inv (F (W i) i)) b2 b3, ← times_assoc _ _ _ b1 b3 b2, inv_right _ b1 (h.one i hi), one_times _ b2, Nat.xor_self]

theorem outOf_byte {d : Nat} {F G : Nat → Nat → Nat} {j r by_ L : Nat} (hF : ∀ q, q < d → F q j < 256) (hG : ∀ q, q < d → ∀ k, k < L → G q k < 256) : ∀ q, q < d → ∀ k, k < L → outOf F j r by_ G q k < 256 := by
  intro q hq k hk
  unfold outOf
  split
  · exact hG q hq k hk
  · exact xor_lt (hG q hq k hk) (times_lt _ _ (times_lt _ _ (hF q hq)))

/-- What solves the equations behind the step solves those ahead of it. -/
theorem outOf_back {d : Nat} {F : Nat → Nat → Nat} {V : Nat → Nat} {j r by_ : Nat} (hj : j < d) (hr : r < d) (hF : ∀ q, q < d → ∀ k, k < d → F q k < 256) (x : Nat → Nat) (hx : ∀ k, k < d → x k < 256)
    (h : ∀ q, q < d → dot d (outOf F j r by_ F q) x = if q = r then V q else V q ^^^ times (times (F q j) by_) (V r)) : ∀ q, q < d → dot d (F q) x = V q := by
  have hr' : dot d (F r) x = V r := by
    have := h r hr
    rw [if_pos rfl] at this
    rw [← this]; exact dot_congr (fun k _ => by simp [outOf]) fun _ _ => rfl
  intro q hq
  by_cases e : q = r
  · subst e; exact hr'
  · have := h q hq
    rw [if_neg e] at this
    have hm : times (F q j) by_ < 256 := times_lt _ _ (hF q hq j hj)
    have e2 : dot d (outOf F j r by_ F q) x = dot d (F q) x ^^^ times (times (F q j) by_) (dot d (F r) x) := by
      rw [← dot_less d _ _ _ x hm (hF q hq) (hF r hr) hx]
      exact dot_congr (fun k _ => by simp [outOf, e]) fun _ _ => rfl
    rw [e2, hr'] at this
    have := congrArg (· ^^^ times (times (F q j) by_) (V r)) this
    simpa [Nat.xor_assoc, Nat.xor_self] using this

theorem Gauss.next {d j r : Nat} {F : Nat → Nat → Nat} {W W' : Nat → Nat} {U U' : Nat → Bool} (h : Gauss d j F W U) (hj : j < d) (hr : r < d) (hu : U r = false) (hf : F r j ≠ 0)
    (hW : ∀ i, i < j → W' i = W i) (hWj : W' j = r) (hU : ∀ q, q < d → U' q = (U q || q == r)) : Gauss d (j + 1) (outOf F j r (inv (F r j)) F) W' U' := by
  have hnr : ∀ i, i < j → r ≠ W i := fun i hi e => by
    have := (h.used r hr).2 ⟨i, hi, e.symm⟩
    rw [hu] at this; cases this
  have hz : ∀ i, i < j → F r i = 0 := fun i hi => h.zero i hi r hr (hnr i hi)
  have bj := h.byte r hr j hj
  have old : ∀ q, q < d → ∀ i, i < j → outOf F j r (inv (F r j)) F q i = F q i := fun q hq i hi => by
    unfold outOf
    split
    · rfl
    · rw [hz i hi, times_zero _ (times_lt _ _ (h.byte q hq j hj)), Nat.xor_zero]
  refine ⟨outOf_byte (fun q hq => h.byte q hq j hj) h.byte, fun i hi => ?_, fun i hi k hk e => ?_, fun i hi => ?_, fun i hi q hq hn => ?_, fun q hq => ?_, fun x hx hd => ?_⟩
  · by_cases e : i = j
    · subst e; rw [hWj]; exact hr
    · rw [hW i (by omega)]; exact h.wlt i (by omega)
  · by_cases e1 : i = j
    · by_cases e2 : k = j
      · omega
      · subst e1; rw [hWj, hW k (by omega)] at e; exact absurd e (hnr k (by omega))
    · by_cases e2 : k = j
      · subst e2; rw [hWj, hW i (by omega)] at e; exact absurd e.symm (hnr i (by omega))
      · rw [hW i (by omega), hW k (by omega)] at e; exact h.inj i (by omega) k (by omega) e
  · by_cases e : i = j
    · subst e; rw [hWj]; simpa [outOf] using hf
    · rw [hW i (by omega), old _ (h.wlt i (by omega)) i (by omega)]; exact h.one i (by omega)
  · by_cases e : i = j
    · subst e
      rw [hWj] at hn
      have bq := h.byte q hq i hj
      unfold outOf
      rw [if_neg hn, times_assoc _ _ _ bq (inv_lt _ bj) bj, inv_mul _ bj hf, times_one _ bq, Nat.xor_self]
    · rw [hW i (by omega)] at hn
      rw [old q hq i (by omega)]; exact h.zero i (by omega) q hq hn
  · rw [hU q hq]
    constructor
    · intro hh
      rcases Bool.or_eq_true _ _ ▸ hh with hh | hh
      · obtain ⟨i, hi, e⟩ := (h.used q hq).1 hh
        exact ⟨i, by omega, by rw [hW i hi]; exact e⟩
      · exact ⟨j, by omega, by rw [hWj]; exact (beq_iff_eq.1 hh).symm⟩
    · rintro ⟨i, hi, e⟩
      by_cases e1 : i = j
      · subst e1; rw [hWj] at e; subst e; simp
      · rw [hW i (by omega)] at e
        rw [(h.used q hq).2 ⟨i, by omega, e⟩]; rfl
  · refine h.ker x hx (outOf_back (by_ := inv (F r j)) (V := fun _ => 0) hj hr h.byte x (fun k _ => hx k) fun q hq => ?_)
    rw [hd q hq]
    split
    · rfl
    · rw [times_zero _ (times_lt _ _ (h.byte q hq j hj))]; rfl

/-- As many different ones as there are places fill all places. -/
theorem onto (d : Nat) : ∀ f : Nat → Nat, (∀ i, i < d → f i < d) → (∀ i, i < d → ∀ k, k < d → f i = f k → i = k) → ∀ q, q < d → ∃ i, i < d ∧ f i = q := by
  induction d with
  | zero => intro f _ _ q hq; omega
  | succ d ih =>
    intro f hf hi q hq
    have hfd := hf d (by omega)
    have key := ih (fun k => if f k = d then f d else f k) (fun i hid => by
      have := hf i (by omega)
      by_cases e : f i = d
      · rw [if_pos e]
        have : f d ≠ d := fun e2 => by have := hi i (by omega) d (by omega) (e.trans e2.symm); omega
        omega
      · rw [if_neg e]; omega) (fun i hid k hkd e => by
      have hne : ∀ m, m < d → f m ≠ f d := fun m hm e2 => by have := hi m (by omega) d (by omega) e2; omega
      by_cases e1 : f i = d <;> by_cases e2 : f k = d
      · exact hi i (by omega) k (by omega) (e1.trans e2.symm)
      · rw [if_pos e1, if_neg e2] at e; exact absurd e.symm (hne k hkd)
      · rw [if_neg e1, if_pos e2] at e; exact absurd e (hne i hid)
      · rw [if_neg e1, if_neg e2] at e; exact hi i (by omega) k (by omega) e)
    by_cases e : f d = q
    · exact ⟨d, by omega, e⟩
    · by_cases hqd : q < d
      · obtain ⟨i, hid, hiq⟩ := key q hqd
        by_cases e1 : f i = d
        · rw [if_pos e1] at hiq; exact absurd hiq e
        · rw [if_neg e1] at hiq; exact ⟨i, by omega, hiq⟩
      · obtain ⟨i, hid, hiq⟩ := key (f d) (by omega)
        by_cases e1 : f i = d
        · exact ⟨i, by omega, by omega⟩
        · rw [if_neg e1] at hiq
          have := hi i (by omega) d (by omega) hiq; omega

/-- All unknowns are done: each is its equation's value by its factor. -/
theorem Gauss.done {d : Nat} {F : Nat → Nat → Nat} {W : Nat → Nat} {U : Nat → Bool} (h : Gauss d d F W U) (V : Nat → Nat) (hV : ∀ r, r < d → V r < 256) (q : Nat) (hq : q < d) :
    dot d (F q) (fun k => times (V (W k)) (inv (F (W k) k))) = V q := by
  obtain ⟨i, hi, rfl⟩ := onto d W h.wlt h.inj q hq
  have e : dot d (F (W i)) (fun k => times (V (W k)) (inv (F (W k) k))) = times (F (W i) i) (times (V (W i)) (inv (F (W i) i))) := xs_one _ d i hi fun k hk hki => by
    show times (F (W i) k) _ = 0
    rw [h.zero k hk _ hq fun e => hki (h.inj k hk i hi e.symm), zero_times _ (times_lt _ _ (hV _ (h.wlt k hk)))]
  have b1 := h.byte _ hq i hi
  have b2 := hV _ hq
  have b3 := inv_lt _ b1
  rw [e, times_comm _ (inv (F (W i) i)) b2 b3, ← times_assoc _ _ _ b1 b3 b2, inv_right _ b1 (h.one i hi), one_times _ b2]

/-- Where nothing but nothing is made nothing, there is one solution alone. -/
theorem sole {d : Nat} {F : Nat → Nat → Nat} (hF : ∀ r, r < d → ∀ k, k < d → F r k < 256) (ker : ∀ x : Nat → Nat, (∀ k, x k < 256) → (∀ r, r < d → dot d (F r) x = 0) → ∀ k, k < d → x k = 0)
    (x y : Nat → Nat) (hx : ∀ k, x k < 256) (hy : ∀ k, y k < 256) (e : ∀ r, r < d → dot d (F r) x = dot d (F r) y) : ∀ k, k < d → x k = y k := by
  intro k hk
  have := ker (fun k => x k ^^^ y k) (fun k => xor_lt (hx k) (hy k)) (fun r hr => by rw [dot_xor d _ _ _ (hF r hr), e r hr, Nat.xor_self]) k hk
  exact xor_eq_zero this
end Go.Proofs.YtokmllopbfmadaaDoor.Gf
