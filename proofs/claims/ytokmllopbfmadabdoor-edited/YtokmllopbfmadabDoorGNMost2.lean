import Derived.Test.YtokmllopbfmadabDoorGNDelete
import Derived.Test.YtokmllopbfmadabDoorGPlanSt
import Derived.Test.YtokmllopbfmadabDoorGNReplace
import Derived.Test.YtokmllopbfmadabDoorGPlanRun
namespace Go.Proofs.YtokmllopbfmadabDoor.Plans
open Go.RowKit Mem

/-- What is known of the pair that was needed most so far. -/
structure BInv (L : List (List Nat)) (D : DataW Unit) (left : Lit → Bool) (p : Nat × Nat) (t : Nat) : Prop where
  top : ∀ x y : Nat, x < 1000000 → y < 1000000 → Maps.has D (kl x y) = true → left (kl x y) = false → cnt L x y ≤ t
  one : (t = 0 ∧ p = (0, 0)) ∨ (0 < t ∧ cnt L p.1 p.2 = t ∧ ∀ x y : Nat, x < 1000000 → y < 1000000 → Maps.has D (kl x y) = true → left (kl x y) = false → cnt L x y = t → p.1 < x ∨ (p.1 = x ∧ p.2 ≤ y))
  lt : p.1 < 1000000 ∧ p.2 < 1000000
theorem BInv.start (L : List (List Nat)) (D : DataW Unit) : BInv L D (Maps.has D) (0, 0) 0 :=
  ⟨fun x y _ _ h1 h2 => (by rw [h1] at h2; cases h2), .inl ⟨rfl, rfl⟩, by decide, by decide⟩
theorem struck {left : Lit → Bool} {x y x0 y0 : Nat} (hx : x < 1000000) (hy : y < 1000000) (hx0 : x0 < 1000000) (hy0 : y0 < 1000000) (h : (left (kl x y) && !(kl x y).sameKey (kl x0 y0)) = false) : left (kl x y) = false ∨ (x = x0 ∧ y = y0) := by
  by_cases h1 : left (kl x y) = false
  · exact .inl h1
  · right
    have h1 : left (kl x y) = true := by simpa using h1
    rw [h1] at h
    have h2 : (kl x y).sameKey (kl x0 y0) = true := by simpa using h
    have h3 := (WideAt.sameKey_iff (kl_key (okN x0 (by omega)) (okN y0 (by omega)))).1 h2
    have := kl_inj (okN x (by omega)) (okN y (by omega)) (okN x0 (by omega)) (okN y0 (by omega)) h3
    omega
theorem BInv.keep {L : List (List Nat)} {D : DataW Unit} {left : Lit → Bool} {p : Nat × Nat} {t x0 y0 : Nat} (h : BInv L D left p t) (hx0 : x0 < 1000000) (hy0 : y0 < 1000000) (h1 : cnt L x0 y0 ≤ t) (h2 : cnt L x0 y0 = t → ¬ (x0 < p.1 ∨ (x0 = p.1 ∧ y0 < p.2))) :
    BInv L D (fun z => left z && !z.sameKey (kl x0 y0)) p t := by
  refine ⟨fun x y hx hy ha hl => ?_, ?_, h.lt⟩
  · rcases struck hx hy hx0 hy0 hl with hl | ⟨rfl, rfl⟩
    · exact h.top x y hx hy ha hl
    · exact h1
  · rcases h.one with h3 | ⟨h3, h4, h5⟩
    · exact .inl h3
    · refine .inr ⟨h3, h4, fun x y hx hy ha hl hc => ?_⟩
      rcases struck hx hy hx0 hy0 hl with hl | ⟨rfl, rfl⟩
      · exact h5 x y hx hy ha hl hc
      · have := h2 hc; omega
theorem BInv.take {L : List (List Nat)} {D : DataW Unit} {left : Lit → Bool} {p : Nat × Nat} {t x0 y0 : Nat} (h : BInv L D left p t) (hx0 : x0 < 1000000) (hy0 : y0 < 1000000) (h1 : t < cnt L x0 y0 ∨ (cnt L x0 y0 = t ∧ (x0 < p.1 ∨ (x0 = p.1 ∧ y0 < p.2)))) :
    BInv L D (fun z => left z && !z.sameKey (kl x0 y0)) (x0, y0) (cnt L x0 y0) := by
  have hpos : 0 < cnt L x0 y0 := by
    rcases h1 with h1 | ⟨h1, h2⟩
    · omega
    · rcases h.one with ⟨h3, h4⟩ | ⟨h3, _⟩
      · rw [h4] at h2; simp at h2
      · omega
  refine ⟨fun x y hx hy ha hl => ?_, .inr ⟨hpos, rfl, fun x y hx hy ha hl hc => ?_⟩, hx0, hy0⟩
  · rcases struck hx hy hx0 hy0 hl with hl | ⟨rfl, rfl⟩
    · have := h.top x y hx hy ha hl; omega
    · exact Nat.le_refl _
  · rcases struck hx hy hx0 hy0 hl with hl | ⟨rfl, rfl⟩
    · have h6 := h.top x y hx hy ha hl
      rcases h1 with h1 | ⟨h1, h2⟩
      · omega
      · rcases h.one with ⟨h3, h4⟩ | ⟨_, _, h5⟩
        · omega
        · have := h5 x y hx hy ha hl (by omega)
          show x0 < x ∨ (x0 = x ∧ y0 ≤ y)
          omega
    · exact .inr ⟨rfl, Nat.le_refl _⟩
theorem BInv.done {L : List (List Nat)} {D : DataW Unit} {left : Lit → Bool} {p : Nat × Nat} {t : Nat} (h : BInv L D left p t) (hl : ∀ k, left k = false) (hall : ∀ x y, 0 < cnt L x y → x < 1000000 ∧ y < 1000000 ∧ Maps.has D (kl x y) = true) : IsBest L p t := by
  refine ⟨fun x y => ?_, ?_⟩
  · by_cases h0 : 0 < cnt L x y
    · obtain ⟨h1, h2, h3⟩ := hall x y h0
      exact h.top x y h1 h2 h3 (hl _)
    · omega
  · rcases h.one with h1 | ⟨h1, h2, h3⟩
    · exact .inl h1
    · refine .inr ⟨h1, h2, fun x y hc => ?_⟩
      obtain ⟨h4, h5, h6⟩ := hall x y (by omega)
      exact h3 x y h4 h5 h6 (hl _) hc
theorem ranges_keep {w w' : World} {b r n : Nat} {D : DataW Unit} {left : Lit → Bool} {c : Nat} (h : w.ranges Tryd.prog 149 (plainElem Tryd.prog 3) b r n D left c) (e1 : w'.heap[b]? = w.heap[b]?) (e2 : w'.heap[r]? = w.heap[r]?) : w'.ranges Tryd.prog 149 (plainElem Tryd.prog 3) b r n D left c := by
  obtain ⟨es, clock, since, seen, c0, hb, F, hs, hD, hr, rest⟩ := h
  exact ⟨es, clock, since, seen, c0, e1.trans hb, F, hs, hD, e2.trans hr, rest⟩
theorem entry_is {L : List (List Nat)} {D : DataW Unit} (hat : ∀ x y : Nat, okI x → okI y → D.atKey (kl x y) (.lit (.int .i64 0)) = .lit (.int .i64 (cntI L x y))) (hks : ∀ l, Maps.has D l = true → ∃ x y : Nat, x < 1000000 ∧ y < 1000000 ∧ l = kl x y)
    {q : Int × Int} {v : Int} {l : Lit} {y : DataW Unit × List MemPlace} (hkey : keyOf Tryd.prog 149 (.agg #[.int .i64 q.1, .int .i64 q.2]) = some l) (hv : plainElem Tryd.prog 3 (.int .i64 v) = some y) (hy : ∀ z, D.atKey l z = y.1) :
    ∃ a b : Nat, a < 1000000 ∧ b < 1000000 ∧ q = ((a : Int), (b : Int)) ∧ l = kl a b ∧ v = (cnt L a b : Nat) := by
  have hh := Maps.has_true_of_atKey hy
  obtain ⟨a, b, ha, hb, rfl⟩ := hks l hh
  have oa := okN a (by omega)
  have ob := okN b (by omega)
  have h1 := pairLaw.inj hkey (key_mk a b oa ob)
  simp only [kv, Value.agg.injEq, Array.mk.injEq, List.cons.injEq, Value.int.injEq] at h1
  obtain ⟨c, h2, h3, _⟩ := plainElem_int_inv intU hv
  have h4 := hat a b oa ob
  rw [hy, h3] at h4
  injection h4 with h4; injection h4 with _ h4
  injection h2 with _ h2
  refine ⟨a, b, ha, hb, Prod.ext h1.1.2 h1.2.1.2, rfl, ?_⟩
  rw [h2, h4]; rfl
/-- The step of the loop over the pairs. -/
theorem wpList_next_pairs {L : List (List Nat)} {D : DataW Unit} (hat : ∀ x y : Nat, okI x → okI y → D.atKey (kl x y) (.lit (.int .i64 0)) = .lit (.int .i64 (cntI L x y))) (hks : ∀ l, Maps.has D l = true → ∃ x y : Nat, x < 1000000 ∧ y < 1000000 ∧ l = kl x y)
    (w : World) {ops : Array Oper} {rest : List Oper} {o : Oper} {a : Act} {Q : Exit → Act → World → Prop} (hg : o.guard = none) (it : Operand) (hop : o.op = Op.next it false) (b r n : Nat) (left : Lit → Bool) (c : Nat)
    (hit : a.eval it = .pointer (some ⟨r, 0, none⟩)) (h : w.ranges Tryd.prog 149 (plainElem Tryd.prog 3) b r n D left c)
    (hDone : (∀ kl, left kl = false) → wpList Tryd.prog ops Q rest (a.put o.dst (.tuple #[.bool false])) w)
    (hMore : ∀ (x y m : Nat) (w' : World) (c' : Nat), x < 1000000 → y < 1000000 → m = cnt L x y → w'.ranges Tryd.prog 149 (plainElem Tryd.prog 3) b r n D (fun z => left z && !z.sameKey (kl x y)) c' → c' < c →
      w.grownBy w' (some r) → w'.heap.size = w.heap.size → (Instr.entry (.pointer (some ⟨r, 0, none⟩))).run Tryd.prog w' = .ok (.tuple #[.agg #[.int .i64 x, .int .i64 y], .int .i64 m]) w' → wpList Tryd.prog ops Q rest (a.put o.dst (.tuple #[.bool true, .agg #[.int .i64 x, .int .i64 y], .int .i64 m])) w') :
    wpList Tryd.prog ops Q (o :: rest) a w := by
  refine wpList_next_ranges w hg it hop 149 pairKeyed (plainElem Tryd.prog 3) (fun q : Int × Int => .agg #[.int .i64 q.1, .int .i64 q.2]) (Value.int .i64) (fun key l hk => by obtain ⟨x, y, h, _⟩ := key_inv key l hk; exact ⟨(x, y), h⟩) (fun v y hv => by obtain ⟨c, h, _⟩ := plainElem_int_inv intU hv; exact ⟨c, h⟩) b r n D left c hit h (fun _ hl => hDone hl) ?_
  intro q v l y w1 c1 hkey hlk hv hy hrg1 hlt hg1 hs1 hen
  obtain ⟨x, z, hx, hz, rfl, rfl, rfl⟩ := entry_is hat hks hkey hv hy
  exact hMore x z _ w1 c1 hx hz rfl hrg1 hlt hg1 hs1 hen

set_option maxRecDepth 100000 in
set_option maxHeartbeats 2000000 in
theorem mostNeeded_any (L : List (List Nat)) (B M N m : Nat) (w : World) (hM : PM w M N (cntI L)) (hL : ∀ l, l ∈ L → ∀ x, x ∈ l → x < 1000000) (hlen : L.length ≤ 1000) :
    Calls Tryd.prog 86 #[.agg (needsV B M m).toArray] w fun e w' => ∃ (p : Nat × Nat) (t : Nat), e = .returned (.tuple #[.agg #[.int .i64 p.1, .int .i64 p.2], .int .i64 t]) ∧ IsBest L p t ∧ Below w.heap.size w w' := by
  obtain ⟨D, hown, hat, hks⟩ := hM
  have hMlt := hown.lt
  have HALL : Hid (∀ x y, 0 < cnt L x y → x < 1000000 ∧ y < 1000000 ∧ Maps.has D (kl x y) = true) := by
    intro x y h0
    obtain ⟨_, l, hl, hx, hy⟩ := cnt_pos h0
    have h1 := hL l hl x hx
    have h2 := hL l hl y hy
    refine ⟨h1, h2, ?_⟩
    by_cases hh : Maps.has D (kl x y) = true
    · exact hh
    · have h3 : Maps.has D (kl x y) = false := by simpa using hh
      have h4 := hat x y (okN x (by omega)) (okN y (by omega))
      rw [Maps.atKey_of_not_has h3] at h4
      injection h4 with h4; injection h4 with _ h4
      unfold cntI at h4; omega
  have HAT : Hid (∀ x y : Nat, okI x → okI y → D.atKey (kl x y) (.lit (.int .i64 0)) = .lit (.int .i64 (cntI L x y))) := hat
  have HKS : Hid (∀ l, Maps.has D l = true → ∃ x y : Nat, x < 1000000 ∧ y < 1000000 ∧ l = kl x y) := hks
  have HCL : Hid (∀ x y, cnt L x y ≤ 1000) := fun x y => Nat.le_trans (cnt_le L x y) hlen
  clear hat hks hL hlen
  simp only [needsV]
  go_enter Tryd.func86, Tryd.ntmps86
  go_wp2_with (first
    | (at_range; refine wpList_range_own _ rfl _ 136 rfl 149 3 pairKeyed mapU _ M N _ rfl (((hown.alloc _).alloc _).alloc _) ?_; intro w0 hrg0 hg0 hs0)
    | go_in)
  go_frame
  have e1 : (((w.alloc (.cells #[.slice (some ⟨B, 0, none⟩) m m, .map (some M)] 138)).alloc (.cells #[.int .i64 0, .int .i64 0] 149)).alloc (.cells #[.int .i64 0, .int .i64 0] 149)).heap.size = w.heap.size + 1 + 1 + 1 := by simp
  rw [e1] at hrg0 hs0 ⊢
  have hR0 : Blk w0 (w.heap.size + 1) 149 [.int .i64 0, .int .i64 0] := by
    have := (Blk.new1 w (.cells #[.slice (some ⟨B, 0, none⟩) m m, .map (some M)] 138) #[.int .i64 0, .int .i64 0] 149).alloc (.cells #[.int .i64 0, .int .i64 0] 149)
    unfold Blk at this ⊢
    rw [hg0.block _ (by simp) (by simp)]; exact this
  have hP0 : Blk w0 (w.heap.size + 1 + 1) 149 [.int .i64 0, .int .i64 0] := by
    have := Blk.new ((w.alloc (.cells #[.slice (some ⟨B, 0, none⟩) m m, .map (some M)] 138)).alloc (.cells #[.int .i64 0, .int .i64 0] 149)) #[.int .i64 0, .int .i64 0] 149
    unfold Blk at this ⊢
    rw [hg0.block _ (by simp) (by simp)]; simpa using this
  have hB0 : Below w.heap.size w w0 := ((((Below.refl _ _).alloc (Nat.le_refl _) _).alloc (by simp) _).alloc (by simp; omega) _).grown hg0 (by simp; omega) (fun j hj => by cases hj)
  have HR0 : Hid (Blk w0 (w.heap.size + 1) 149 [.int .i64 0, .int .i64 0]) := hR0
  have HP0 : Hid (Blk w0 (w.heap.size + 1 + 1) 149 [.int .i64 0, .int .i64 0]) := hP0
  have HB0 : Hid (Below w.heap.size w w0) := hB0
  have HG0 : Hid (w0.ranges Tryd.prog 149 (plainElem Tryd.prog 3) M (w.heap.size + 1 + 1 + 1) N D (Maps.has D) (Maps.size D)) := hrg0
  clear hR0 hP0 hB0 hrg0 hg0 hs0 e1 hown
  go_loopw [5] (fun tv wr => ∃ (left : Lit → Bool) (c : Nat) (p : Nat × Nat) (t : Nat), tv = .int .i64 t ∧ wr.ranges Tryd.prog 149 (plainElem Tryd.prog 3) M (w.heap.size + 1 + 1 + 1) N D left c ∧ Blk wr (w.heap.size + 1) 149 [.int .i64 0, .int .i64 0] ∧ Blk wr (w.heap.size + 1 + 1) 149 [.int .i64 p.1, .int .i64 p.2] ∧ BInv L D left p t ∧ t ≤ 1000 ∧ Below w.heap.size w wr) (fun _ wr => wr.rangeLeft M (w.heap.size + 1 + 1 + 1))
  case atStart => exact ⟨_, _, (0, 0), 0, rfl, HG0.out, HR0.out, HP0.out, BInv.start L D, by omega, HB0.out⟩
  case round =>
    clear HG0 HR0 HP0 HB0
    obtain ⟨left, c, p, t, rfl, hrg, hres, hbest, hinv, ht, hbel⟩ := hrel
    have HRES : Hid (Blk wr (w.heap.size + 1) 149 [.int .i64 0, .int .i64 0]) := hres
    have HBEST : Hid (Blk wr (w.heap.size + 1 + 1) 149 [.int .i64 p.1, .int .i64 p.2]) := hbest
    have HINV : Hid (BInv L D left p t) := hinv
    have HRG : Hid (wr.ranges Tryd.prog 149 (plainElem Tryd.prog 3) M (w.heap.size + 1 + 1 + 1) N D left c) := hrg
    have HBEL : Hid (Below w.heap.size w wr) := hbel
    clear hres hbest hinv hrg hbel
    go_wp2_with (first
      | (at_next; refine wpList_next_pairs HAT.out HKS.out _ rfl _ rfl M (w.heap.size + 1 + 1 + 1) N _ _ rfl HRG.out ?_ ?_)
      | go_in)
    · intro hl0
      have HL0 : Hid (IsBest L p t) := HINV.out.done hl0 HALL.out
      have r0 := HRES.out.cell_some (k := 0) (v := .int .i64 0) rfl
      have r1 := HRES.out.cell_some (k := 1) (v := .int .i64 0) rfl
      have f0 := HRES.out.free 0
      have f1 := HRES.out.free 1
      have p0 := HBEST.out.cell_some (k := 0) (v := .int .i64 p.1) rfl
      have p1 := HBEST.out.cell_some (k := 1) (v := .int .i64 p.2) rfl
      clear hl0
      have HF : Hid (Blk ((wr.setCell ⟨w.heap.size + 1, 0, none⟩ (.int .i64 p.1)).setCell ⟨w.heap.size + 1, 1, none⟩ (.int .i64 p.2)) (w.heap.size + 1) 149 [.int .i64 p.1, .int .i64 p.2]) := ((HRES.out.set 0 _).set 1 _)
      have HBF : Hid (Below w.heap.size w ((wr.setCell ⟨w.heap.size + 1, 0, none⟩ (.int .i64 p.1)).setCell ⟨w.heap.size + 1, 1, none⟩ (.int .i64 p.2))) := (HBEL.out.setCell (by show _ ≤ w.heap.size + 1; omega) _).setCell (by show _ ≤ w.heap.size + 1; omega) _
      go_wp2
      exact bodyPost_ret (v := .tuple #[.agg #[.int .i64 p.1, .int .i64 p.2], .int .i64 t]) (results_row_tmp (p := 2) (u := 3) (ty := 149) (by kernel_rfl) _ _ (w.heap.size + 1) 149 #[.int .i64 p.1, .int .i64 p.2] (0, 0) _ rfl HF.out keyU rfl (by kernel_rfl) _ rfl) rfl ⟨p, t, rfl, HL0.out, HBF.out⟩
    · intro a b n w1 c1 ha hb hn hrg1 hlt hg1 hs1 hen
      have HRG1 : Hid (w1.ranges Tryd.prog 149 (plainElem Tryd.prog 3) M (w.heap.size + 1 + 1 + 1) N D (fun z => left z && !z.sameKey (kl a b)) c1) := hrg1
      have hR1 : Blk w1 (w.heap.size + 1) 149 [.int .i64 0, .int .i64 0] := by
        have := HRES.out
        unfold Blk at this ⊢
        rw [hg1.block _ HRES.out.lt (by simp)]; exact this
      have hP1 : Blk w1 (w.heap.size + 1 + 1) 149 [.int .i64 p.1, .int .i64 p.2] := by
        have := HBEST.out
        unfold Blk at this ⊢
        rw [hg1.block _ HBEST.out.lt (by simp)]; exact this
      have hB1 : Below w.heap.size w w1 := HBEL.out.grown hg1 HBEL.out.size (fun j hj => by cases hj; omega)
      have hcl := HCL.out a b
      have HBT : Hid (t < cnt L a b ∨ (cnt L a b = t ∧ (a < p.1 ∨ (a = p.1 ∧ b < p.2))) → BInv L D (fun z => left z && !z.sameKey (kl a b)) (a, b) (cnt L a b)) := fun h => HINV.out.take ha hb h
      have HBK : Hid (cnt L a b ≤ t → (cnt L a b = t → ¬ (a < p.1 ∨ (a = p.1 ∧ b < p.2))) → BInv L D (fun z => left z && !z.sameKey (kl a b)) p t) := fun h1 h2 => HINV.out.keep ha hb h1 h2
      rw [← hn] at hcl HBT HBK
      clear hrg1 HINV hn
      obtain ⟨p1, p2⟩ := p
      simp only at hP1 HBT HBK
      have hsz1 := hB1.size
      clear hs1
      go_wp2
      have hK2 : Blk (w1.alloc (.cells #[.int .i64 (a : Nat), .int .i64 (b : Nat)] 149)) w1.heap.size 149 [.int .i64 (a : Nat), .int .i64 (b : Nat)] := Blk.new w1 _ _
      have hP2 := hP1.alloc (.cells #[.int .i64 (a : Nat), .int .i64 (b : Nat)] 149)
      have hR2 := hR1.alloc (.cells #[.int .i64 (a : Nat), .int .i64 (b : Nat)] 149)
      have hB2 := hB1.alloc hsz1 (.cells #[.int .i64 (a : Nat), .int .i64 (b : Nat)] 149)
      have HRG2 : Hid ((w1.alloc (.cells #[.int .i64 (a : Nat), .int .i64 (b : Nat)] 149)).ranges Tryd.prog 149 (plainElem Tryd.prog 3) M (w.heap.size + 1 + 1 + 1) N D (fun z => left z && !z.sameKey (kl a b)) c1) := HRG1.out.alloc _
      obtain ⟨w2, hw2⟩ : ∃ w2, w2 = w1.alloc (.cells #[.int .i64 (a : Nat), .int .i64 (b : Nat)] 149) := ⟨_, rfl⟩
      rw [← hw2] at hK2 hP2 hR2 hB2 HRG2 ⊢
      clear hw2 hP1 hR1 hB1 HRG1 hen
      have HAFT : Hid (∀ (k : Nat) (W : World), W = w2.drewN k → ∀ n', BInv L D (fun z => left z && !z.sameKey (kl a b)) (a, b) n' → n' ≤ 1000 → ((W.setCell ⟨w.heap.size + 1 + 1, 0, none⟩ (.int .i64 a)).setCell ⟨w.heap.size + 1 + 1, 1, none⟩ (.int .i64 b)).ranges Tryd.prog 149 (plainElem Tryd.prog 3) M (w.heap.size + 1 + 1 + 1) N D (fun z => left z && !z.sameKey (kl a b)) c1 ∧ Blk ((W.setCell ⟨w.heap.size + 1 + 1, 0, none⟩ (.int .i64 a)).setCell ⟨w.heap.size + 1 + 1, 1, none⟩ (.int .i64 b)) (w.heap.size + 1) 149 [.int .i64 0, .int .i64 0] ∧
          Blk ((W.setCell ⟨w.heap.size + 1 + 1, 0, none⟩ (.int .i64 a)).setCell ⟨w.heap.size + 1 + 1, 1, none⟩ (.int .i64 b)) (w.heap.size + 1 + 1) 149 [.int .i64 a, .int .i64 b] ∧ Below w.heap.size w ((W.setCell ⟨w.heap.size + 1 + 1, 0, none⟩ (.int .i64 a)).setCell ⟨w.heap.size + 1 + 1, 1, none⟩ (.int .i64 b))) := by
        rintro k W rfl n' _ _
        have hh : ∀ g, g ≠ w.heap.size + 1 + 1 → (((w2.drewN k).setCell ⟨w.heap.size + 1 + 1, 0, none⟩ (.int .i64 a)).setCell ⟨w.heap.size + 1 + 1, 1, none⟩ (.int .i64 b)).heap[g]? = w2.heap[g]? := fun g hg => by
          rw [Below.heap_setCell _ _ _ _ (by exact hg), Below.heap_setCell _ _ _ _ (by exact hg)]; rfl
        refine ⟨ranges_keep HRG2.out (hh _ (by omega)) (hh _ (by omega)), ?_, ?_, ?_⟩
        · unfold Blk; rw [hh _ (by omega)]; exact hR2
        · have h0 : Blk (w2.drewN k) (w.heap.size + 1 + 1) 149 [.int .i64 p1, .int .i64 p2] := hP2
          exact (h0.set 0 _).set 1 _
        · have h0 : Below w.heap.size w (w2.drewN k) := ⟨hB2.os, hB2.tape, hB2.output, hB2.size, hB2.block⟩
          exact (h0.setCell (by show _ ≤ w.heap.size + 1 + 1; omega) _).setCell (by show _ ≤ w.heap.size + 1 + 1; omega) _
      have HSTAY : Hid (∀ (k : Nat), (w2.drewN k).ranges Tryd.prog 149 (plainElem Tryd.prog 3) M (w.heap.size + 1 + 1 + 1) N D (fun z => left z && !z.sameKey (kl a b)) c1 ∧ Blk (w2.drewN k) (w.heap.size + 1) 149 [.int .i64 0, .int .i64 0] ∧ Blk (w2.drewN k) (w.heap.size + 1 + 1) 149 [.int .i64 p1, .int .i64 p2] ∧ Below w.heap.size w (w2.drewN k)) := fun k =>
        ⟨ranges_keep HRG2.out rfl rfl, hR2, hP2, ⟨hB2.os, hB2.tape, hB2.output, hB2.size, hB2.block⟩⟩
      have HK2 : Hid (∀ k, Blk (w2.drewN k) w1.heap.size 149 [.int .i64 a, .int .i64 b]) := fun k => hK2
      have HOLD : Hid (wr.rangeLeft M (w.heap.size + 1 + 1 + 1) = c) := HRG.out.left_eq
      have HKK : Hid (Blk w2 w1.heap.size 149 [.int .i64 a, .int .i64 b]) := hK2
      have HPP : Hid (Blk w2 (w.heap.size + 1 + 1) 149 [.int .i64 p1, .int .i64 p2]) := hP2
      clear hK2 hP2 hR2 hB2 HRG2
      by_cases h1 : t < n
      · have g1 : decide ((t : Int) < (n : Int)) = true := decide_eq_true (by omega)
        go_quiet (fail)
        obtain ⟨W, hW⟩ : ∃ W, W = w2.drewN nq := ⟨_, rfl⟩
        have hk3 := HK2.out nq
        have hs3 := HSTAY.out nq
        rw [← hW] at hk3 hs3 ⊢
        have c0 := hk3.cell_some (k := 0) (v := .int .i64 a) rfl
        have c1' := hk3.cell_some (k := 1) (v := .int .i64 b) rfl
        have d0 := hs3.2.2.1.cell_some (k := 0) (v := .int .i64 p1) rfl
        have d1 := hs3.2.2.1.cell_some (k := 1) (v := .int .i64 p2) rfl
        have f0 := hs3.2.2.1.free 0
        have f1 := hs3.2.2.1.free 1
        have HA := HAFT.out nq W hW n (HBT.out (.inl h1)) hcl
        have HA2 : Hid _ := HA
        have HT2 : Hid (BInv L D (fun z => left z && !z.sameKey (kl a b)) (a, b) n) := HBT.out (.inl h1)
        clear hs3 hk3 HA hW
        go_wp2
        exact ⟨⟨_, c1, (a, b), n, rfl, HA2.out.1, HA2.out.2.1, HA2.out.2.2.1, HT2.out, hcl, HA2.out.2.2.2⟩, by rw [HA2.out.1.left_eq, HOLD.out]; exact hlt⟩
      · have g1 : decide ((t : Int) < (n : Int)) = false := decide_eq_false (by omega)
        by_cases h2 : n = t
        · have g2 : ((n : Int) == (t : Int)) = true := by simp [h2]
          obtain ⟨r, hr⟩ : ∃ r, r = cmp2 a b p1 p2 := ⟨_, rfl⟩
          have hrn := cmp2_neg a b p1 p2
          rw [← hr] at hrn
          have HCM : Hid (∀ k, Calls Tryd.prog 92 #[.slice (some ⟨w1.heap.size, 0, none⟩) 2 2, .slice (some ⟨w.heap.size + 1 + 1, 0, none⟩) 2 2] (w2.drewN k) fun e w' => e = .returned (.int .i64 r) ∧ w' = w2.drewN k) := by
            intro k; rw [hr]; exact compare_any a b p1 p2 w1.heap.size (w.heap.size + 1 + 1) _ (HK2.out k) HPP.out
          clear hr
          by_cases h3 : a < p1 ∨ (a = p1 ∧ b < p2)
          · have g3 : decide (r < 0) = true := decide_eq_true (hrn.2 h3)
            clear hrn
            go_quiet ((go_at_call 92; exact Calls.quiet_of_same (HCM.out _)))
            obtain ⟨W, hW⟩ : ∃ W, W = w2.drewN nq := ⟨_, rfl⟩
            have hk3 := HK2.out nq
            have hs3 := HSTAY.out nq
            rw [← hW] at hk3 hs3 ⊢
            have c0 := hk3.cell_some (k := 0) (v := .int .i64 a) rfl
            have c1' := hk3.cell_some (k := 1) (v := .int .i64 b) rfl
            have d0 := hs3.2.2.1.cell_some (k := 0) (v := .int .i64 p1) rfl
            have d1 := hs3.2.2.1.cell_some (k := 1) (v := .int .i64 p2) rfl
            have f0 := hs3.2.2.1.free 0
            have f1 := hs3.2.2.1.free 1
            have HT2 : Hid (BInv L D (fun z => left z && !z.sameKey (kl a b)) (a, b) n) := HBT.out (.inr ⟨h2, h3⟩)
            have HA := HAFT.out nq W hW n HT2.out hcl
            have HA2 : Hid _ := HA
            clear hs3 hk3 HA hW h3
            go_wp2
            exact ⟨⟨_, c1, (a, b), n, rfl, HA2.out.1, HA2.out.2.1, HA2.out.2.2.1, HT2.out, hcl, HA2.out.2.2.2⟩, by rw [HA2.out.1.left_eq, HOLD.out]; exact hlt⟩
          · have g3 : decide (r < 0) = false := decide_eq_false (fun h => h3 (hrn.1 h))
            clear hrn
            go_quiet ((go_at_call 92; exact Calls.quiet_of_same (HCM.out _)))
            obtain ⟨W, hW⟩ : ∃ W, W = w2.drewN nq := ⟨_, rfl⟩
            have hs3 := HSTAY.out nq
            rw [← hW] at hs3 ⊢
            have HS3 : Hid _ := hs3
            have HT2 : Hid (BInv L D (fun z => left z && !z.sameKey (kl a b)) (p1, p2) t) := HBK.out (by omega) (fun _ => h3)
            clear hs3 hW h3
            go_wp2
            exact ⟨⟨_, c1, (p1, p2), t, rfl, HS3.out.1, HS3.out.2.1, HS3.out.2.2.1, HT2.out, ht, HS3.out.2.2.2⟩, by rw [HS3.out.1.left_eq, HOLD.out]; exact hlt⟩
        · have g2 : ((n : Int) == (t : Int)) = false := by simp; omega
          go_quiet (fail)
          obtain ⟨W, hW⟩ : ∃ W, W = w2.drewN nq := ⟨_, rfl⟩
          have hs3 := HSTAY.out nq
          rw [← hW] at hs3 ⊢
          have HS3 : Hid _ := hs3
          have HT2 : Hid (BInv L D (fun z => left z && !z.sameKey (kl a b)) (p1, p2) t) := HBK.out (by omega) (fun h => absurd h h2)
          clear hs3 hW
          go_wp2
          exact ⟨⟨_, c1, (p1, p2), t, rfl, HS3.out.1, HS3.out.2.1, HS3.out.2.2.1, HT2.out, ht, HS3.out.2.2.2⟩, by rw [HS3.out.1.left_eq, HOLD.out]; exact hlt⟩
end Go.Proofs.YtokmllopbfmadabDoor.Plans

namespace Go.Proofs.YtokmllopbfmadabDoor.Plans
open Go.RowKit Mem

theorem rest2_short {a b : Nat} {l : List Nat} (ha : a ∈ l) : (rest2 a b l).length < l.length := by
  unfold rest2
  refine Nat.lt_of_le_of_ne (List.length_filter_le ..) fun e => ?_
  have := (List.length_filter_eq_length_iff.1 e) a ha
  simp at this
theorem lists_short {L : List (List Nat)} (h : Nat) (hL : ∀ l, l ∈ L → l.length ≤ 8) : ∀ k l, l ∈ listsTo L h k → l.length ≤ 8
  | 0, l, hl => hL l hl
  | k + 1, l, hl => by
    rw [listsTo] at hl
    simp only [putH, List.mem_map] at hl
    obtain ⟨m, hm, rfl⟩ := hl
    have := lists_short h hL k m hm
    split
    · rename_i hb
      have := rest2_short (b := (best (listsTo L h k)).1.2) (both_iff.1 hb).1
      rw [List.length_append, List.length_singleton]; omega
    · exact this
theorem NSt.turnedP {w w' : World} {B M base b2 N : Nat} {L : List (List Nat)} (h : NSt w B M base N L) (ht : TurnedP b2 w w') : NSt w' B M base N L := by
  obtain ⟨vs, hvs, hB, _⟩ := id h.lists
  have kk : ∀ g t us, Blk w g t us → t = 3 ∨ t = 32 → w'.heap[g]? = w.heap[g]? := fun g t us hg e =>
    ht.keep g hg.lt (fun vs hv => hg.type_ne hv (by rcases e with rfl | rfl <;> decide) rfl) (fun vs hv => hg.type_ne hv (by rcases e with rfl | rfl <;> decide) rfl) (fun vs hv => hg.type_ne hv (by rcases e with rfl | rfl <;> decide) rfl)
  refine ⟨h.lists.keep (kk _ _ _ hB (.inr rfl)) (fun g us hg => kk g _ us hg (.inl rfl)), h.pairs.block (ht.keep M h.pairs.lt (fun us hu => h.pairs.ne hu rfl) (fun us hu => h.pairs.ne hu rfl) (fun us hu => h.pairs.ne hu rfl))⟩
theorem TurnedP.blk {b2 : Nat} {w w' : World} {g : Nat} {t : TypeId} {us : List Value} (ht : TurnedP b2 w w') (hg : Blk w g t us) (h1 : t ≠ 133) (h2 : t ≠ 141) (h3 : t ≠ 4) : Blk w' g t us := by
  unfold Blk
  rw [ht.keep g hg.lt (fun vs hv => hg.type_ne hv h1 rfl) (fun vs hv => hg.type_ne hv h2 rfl) (fun vs hv => hg.type_ne hv h3 rfl)]
  exact hg
/-- The bits that have had a step, behind i lists and c places of the next. -/
def bgTo (bg : Nat → Bool) (L : List (List Nat)) (i : Nat) : Nat → Bool := fun q => bg q || (decide (q < i) && !(L.getD q []).isEmpty)
def bgIn (bg : Nat → Bool) (L : List (List Nat)) (i c : Nat) : Nat → Bool := fun q => bgTo bg L i q || (q == i && decide (0 < c))
theorem bgIn_zero (bg : Nat → Bool) (L : List (List Nat)) (i : Nat) : bgIn bg L i 0 = bgTo bg L i := by funext q; simp [bgIn]
theorem bgTo_zero (bg : Nat → Bool) (L : List (List Nat)) : bgTo bg L 0 = bg := by funext q; simp [bgTo]
theorem bgIn_next (bg : Nat → Bool) (L : List (List Nat)) (i c q : Nat) : (if q = i then true else bgIn bg L i c q) = bgIn bg L i (c + 1) q := by
  by_cases h : q = i
  · subst h; simp [bgIn]
  · have : (q == i) = false := by simp [h]
    simp [bgIn, this, h]
theorem bgIn_all (bg : Nat → Bool) (L : List (List Nat)) (i : Nat) : bgIn bg L i (L.getD i []).length = bgTo bg L (i + 1) := by
  funext q
  unfold bgIn bgTo
  by_cases h : q = i
  · subst h
    have e1 : decide (q < q) = false := by simp
    have e2 : decide (q < q + 1) = true := by simp
    rw [e1, e2]
    cases hl : L.getD q [] with
    | nil => simp
    | cons x l => simp
  · have e1 : (q == i) = false := by simp [h]
    have e2 : decide (q < i + 1) = decide (q < i) := by
      by_cases h2 : q < i
      · rw [decide_eq_true h2, decide_eq_true (by omega)]
      · rw [decide_eq_false h2, decide_eq_false (by omega)]
    rw [e1, e2]; simp
theorem bgIn_at (bg : Nat → Bool) (L : List (List Nat)) (i c : Nat) (l : List Nat) (hc : c ≤ l.length) : (!bgIn bg L i c i) = !(bg i || !(l.take c).isEmpty) := by
  have e : (!(l.take c).isEmpty) = decide (0 < c) := by
    cases c with
    | zero => simp
    | succ c =>
      cases l with
      | nil => simp at hc
      | cons x l => simp
  rw [e]; simp [bgIn, bgTo]
theorem bgTo_needs (bg : Nat → Bool) (L : List (List Nat)) (h K : Nat) : ∀ q, q < L.length → bgTo bg (listsTo L h K) L.length q = (bg q || !(L.getD q []).isEmpty) := by
  intro q hq
  unfold bgTo
  rw [decide_eq_true hq, Bool.true_and]
  by_cases hl : L.getD q [] = []
  · rw [listsTo_none L h q hq hl K, hl]
  · have h2 := listsTo_some L h q hq hl K
    have e1 : (L.getD q []).isEmpty = false := by simpa using hl
    have e2 : ((listsTo L h K).getD q []).isEmpty = false := by simpa using h2
    rw [e1, e2]
theorem PSt.flagsEq {w : World} {PB GB base m8 fs fh : Nat} {ss : List Stp} {bg bg' : Nat → Bool} {sv : Value} (h : PSt w PB GB base m8 fs fh ss bg sv) (e : ∀ k, k < m8 → bg k = bg' k) : PSt w PB GB base m8 fs fh ss bg' sv := ⟨h.blk, h.own, h.flags.eq (flagsV_congr e)⟩
end Go.Proofs.YtokmllopbfmadabDoor.Plans
