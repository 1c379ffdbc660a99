import Derived.Deep.RegionHeld3
import Derived.Deep.RegionLaw
import Derived.Test.YtokmllopbfmadabDoorGNDelete
import Derived.Test.YtokmllopbfmadabDoorGPlanSt
import Derived.Test.YtokmllopbfmadabDoorGMem
import Derived.Test.YtokmllopbfmadabDoorGSpoilMath
namespace Go.Proofs.YtokmllopbfmadabDoor.Plans
open Go.RowKit Mem

theorem step_append_blk {P : Program} {w : World} {ops : Array Oper} {o : Oper} {a : Act} {K : Act → World → Prop} {Q : Exit → Act → World → Prop} {E : Prop}
    (hgd : o.guard = none) (s x : Operand) (t : TypeId) (hop : o.op = Op.call { callee := Callee.builtin Builtin.append, args := #[s, x], argTypes := #[t, t] })
    (e : TypeId) (z : Value) (bytes : Nat) (ht : P.underlying t = some (.slice e)) (hinfo : (P.info? e).map (fun i => (i.zero, i.size, i.bytes)) = some (some z, 1, bytes))
    (g k cap : Nat) (cur : List Value) (hs : a.eval s = .slice (some ⟨g, 0, none⟩) k cap) (hg : Blk w g e cur) (ad : Addr) (c : Nat) (u : Value) (hx : a.eval x = .slice (some ad) 1 c) (hu : w.cell? ad = some u) (h1 : u.oneCell' = true) (hk : k < cap) (hcap : cur.length = cap)
    (hK : ∀ w', Blk w' g e (cur.set k u) → But g w w' → K (a.put o.dst (.slice (some ⟨g, 0, none⟩) (k + 1) cap)) w') :
    if Region.wanted o (yielded ops a.tmps) = true then Oper.wp P o a w K Q else E := by
  have hw : Region.wanted o (yielded ops a.tmps) = true := by simp [Region.wanted, hgd]
  rw [if_pos hw]
  obtain ⟨i0, hi, hz0, hz1, hz2⟩ := info_parts hinfo
  have hrun := run_append_blk (P := P) w t o.type e i0 ht hi hz1 g k cap cur hg ad c u hu h1 hk hcap
  have hb := hg.row (cur.set k u).toArray
  rw [List.toList_toArray] at hb
  have hbut : But g w (w.setRow g (cur.set k u).toArray) := (But.refl _ _).row _
  have := hK _ hb hbut
  unfold Oper.wp
  simp [execOp, hop, resolve, invoke, builtin, hs, hx, hrun, Result.andThen]
  exact this
/-- What a change of the needs leaves alone. -/
structure Turned (base : Nat) (w w' : World) : Prop where
  below : Below base w w'
  keep : ∀ g t us, Blk w g t us → t ≠ 3 → t ≠ 32 → w'.heap[g]? = w.heap[g]?
theorem Turned.refl (base : Nat) (w : World) : Turned base w w := ⟨Below.refl _ _, fun _ _ _ _ _ _ => rfl⟩
theorem Turned.blk {base : Nat} {w w' : World} {g : Nat} {t : TypeId} {us : List Value} (h : Turned base w w') (hg : Blk w g t us) (h1 : t ≠ 3) (h2 : t ≠ 32) : Blk w' g t us := by
  unfold Blk; rw [h.keep g t us hg h1 h2]; exact hg
theorem Turned.trans {base : Nat} {w w' w'' : World} (h : Turned base w w') (k : Turned base w' w'') : Turned base w w'' :=
  ⟨h.below.trans k.below, fun g t us hg h1 h2 => (k.keep g t us (h.blk hg h1 h2) h1 h2).trans (h.keep g t us hg h1 h2)⟩
theorem Turned.to {base : Nat} {w w' w'' : World} (h : Turned base w w') (hb : Below w'.heap.size w' w'') (hbase : base ≤ w'.heap.size) : Turned base w w'' :=
  h.trans ⟨hb.mono hbase, fun g _ _ hg _ _ => hb.block g hg.lt⟩
theorem Turned.map {base M n : Nat} {f : Nat → Nat → Int} {w w' w'' : World} (h : Turned base w w') (hM : PM w' M n f) (hb : But M w' w'') (hbase : base ≤ M) : Turned base w w'' :=
  h.trans ⟨hb.below (Below.refl _ _) hbase (Nat.le_trans hbase (Nat.le_of_lt hM.lt)), fun g _ _ hg _ _ => hb.rest g (hM.ne hg) hg.lt⟩
theorem Turned.row {base G : Nat} {vs : List Value} {t : TypeId} {w w' w'' : World} (h : Turned base w w') (hG : Blk w' G t vs) (ht : t = 3 ∨ t = 32) (hb : But G w' w'') (hbase : base ≤ G) : Turned base w w'' :=
  h.trans ⟨hb.below (Below.refl _ _) hbase (Nat.le_trans hbase (Nat.le_of_lt hG.lt)), fun g u us hg h1 h2 => hb.rest g (hg.type_ne hG (by rcases ht with rfl | rfl <;> assumption)) hg.lt⟩
/-- The first i lists have the helper in the pair's place. -/
def putK (L : List (List Nat)) (p : Nat × Nat) (h i : Nat) : List (List Nat) := putH (L.take i) p h ++ L.drop i
theorem putK_length (L : List (List Nat)) (p : Nat × Nat) (h i : Nat) : (putK L p h i).length = L.length := by simp [putK, putH]; omega
theorem putK_all (L : List (List Nat)) (p : Nat × Nat) (h : Nat) : putK L p h L.length = putH L p h := by simp [putK]
theorem putK_zero (L : List (List Nat)) (p : Nat × Nat) (h : Nat) : putK L p h 0 = L := by simp [putK, putH]
theorem putK_at (L : List (List Nat)) (p : Nat × Nat) (h i : Nat) (hi : i < L.length) : (putK L p h i).getD i [] = L.getD i [] := by
  unfold putK
  rw [List.getD_eq_getElem?_getD, List.getElem?_append_right (by rw [putH_length]; simp; omega), putH_length, List.getElem?_drop, List.getD_eq_getElem?_getD]
  congr 2
  simp; omega
theorem putK_next (L : List (List Nat)) (p : Nat × Nat) (h i : Nat) (hi : i < L.length) : (putK L p h i).set i (if both p.1 p.2 (L.getD i []) then rest2 p.1 p.2 (L.getD i []) ++ [h] else L.getD i []) = putK L p h (i + 1) := by
  have e1 : L.drop i = L[i] :: L.drop (i + 1) := (List.drop_eq_getElem_cons hi)
  have e2 : L.take (i + 1) = L.take i ++ [L[i]] := by rw [List.take_add_one, List.getElem?_eq_getElem hi]; rfl
  have e3 : L.getD i [] = L[i] := by simp [hi]
  have e4 : (putH (L.take i) p h).length = i := by rw [putH_length]; simp; omega
  unfold putK
  have e5 : putH (L.take i ++ [L[i]]) p h = putH (L.take i) p h ++ [if both p.1 p.2 L[i] then rest2 p.1 p.2 L[i] ++ [h] else L[i]] := by unfold putH; rw [List.map_append]; rfl
  rw [e1, e2, e3, e5, List.set_append_right _ _ (by omega), e4, Nat.sub_self, List.set_cons_zero, List.append_assoc]
  rfl
theorem set_same (L : List (List Nat)) (i : Nat) : L.set i (L.getD i []) = L := by
  apply List.ext_getElem?
  intro q
  by_cases e : i = q
  · subst e
    by_cases h : i < L.length
    · rw [List.getElem?_set_self h]; simp [h]
    · rw [List.getElem?_eq_none (by simp; omega), List.getElem?_eq_none (by omega)]
  · rw [List.getElem?_set_ne e]

theorem own_inv {w : World} {base : Nat} {v : Value} {l : List Nat} (h : w.ownsRow base 3 1 v l.length (intsV l)) (hne : l ≠ []) : ∃ g cap us, v = .slice (some ⟨g, 0, none⟩) l.length cap ∧ base ≤ g ∧ Blk w g 3 us ∧ us.length = cap ∧ l.length ≤ cap ∧ cap ≤ maxLen ∧ ∀ k, (h : k < l.length) → us[k]? = some (.int .i64 (l[k] : Nat)) := by
  rcases h.2 with ⟨_, h0⟩ | ⟨g, cap, cur, rfl, hg, hh, h1, h2, h3, h4⟩
  · exact absurd (List.eq_nil_of_length_eq_zero h0) hne
  · refine ⟨g, cap, cur.toList, rfl, hg, by unfold Blk; rw [hh], by simpa using h3, h1, h2, fun k hk => ?_⟩
    rw [Nat.mul_one] at h4
    have : (cur.toList.take l.length)[k]? = some (.int .i64 (l[k] : Nat)) := by rw [h4]; simp [intsV, hk]
    rw [List.getElem?_take_of_lt hk] at this
    exact this
theorem own_mk {w : World} {base g cap : Nat} {us : List Value} {l : List Nat} (hg : Blk w g 3 us) (hb : base ≤ g) (hl : us.length = cap) (h1 : l.length ≤ cap) (h2 : cap ≤ maxLen) (ht : us.take l.length = intsV l) : w.ownsRow base 3 1 (.slice (some ⟨g, 0, none⟩) l.length cap) l.length (intsV l) :=
  ⟨by simp [intsV], .inr ⟨g, cap, us.toArray, rfl, hb, hg, h1, h2, by simpa using hl, by simpa using ht⟩⟩

theorem rep_after {wr w1 w2 w3 : World} {B M base N' n1 g sc n i h : Nat} {Lk : List (List Nat)} {us us2 : List Value} {f1 : Nat → Nat → Int} {r : List Nat} (hs : NSt wr B M base N' Lk) (hi : i < Lk.length) (hv : wr.cell? ⟨B, i, none⟩ = some (.slice (some ⟨g, 0, none⟩) n sc)) (hg : Blk wr g 3 us) (hgb : base ≤ g) (hB : base ≤ B) (hM : base ≤ M)
    (hbt1 : But M wr w1) (hp1 : PM w1 M n1 f1) (hbt2 : But g w1 w2) (hbt3 : But g (w2.alloc (.cells #[.int .i64 h] 3)).drew w3) (hg3 : Blk w3 g 3 (us2.set r.length (.int .i64 h))) (hu2 : us2.length = sc) (hr : r.length + 1 ≤ sc) (hsc : sc ≤ maxLen) (ht2 : us2.take r.length = intsV r) :
    LS (w3.setCell ⟨B, i, none⟩ (.slice (some ⟨g, 0, none⟩) (r.length + 1) sc)) B base (Lk.set i (r ++ [h])) ∧ PM (w3.setCell ⟨B, i, none⟩ (.slice (some ⟨g, 0, none⟩) (r.length + 1) sc)) M n1 f1 ∧ Turned base wr (w3.setCell ⟨B, i, none⟩ (.slice (some ⟨g, 0, none⟩) (r.length + 1) sc)) ∧
      IntsAt (w3.setCell ⟨B, i, none⟩ (.slice (some ⟨g, 0, none⟩) (r.length + 1) sc)) (.slice (some ⟨g, 0, none⟩) (r.length + 1) sc) (r ++ [h]) ∧ (w3.setCell ⟨B, i, none⟩ (.slice (some ⟨g, 0, none⟩) (r.length + 1) sc)).cell? ⟨B, i, none⟩ = some (.slice (some ⟨g, 0, none⟩) (r.length + 1) sc) := by
  obtain ⟨vs, hvs, hBb, _⟩ := id hs.lists
  have hgB : B ≠ g := hBb.type_ne hg (by decide)
  have hBM : B ≠ M := hs.pairs.ne hBb
  have hgM : g ≠ M := hs.pairs.ne hg
  have hMlt := hs.pairs.lt
  have s1 := hbt1.size
  have s2 := hbt2.size
  have s3 := hbt3.size
  have s3' : w2.heap.size ≤ w3.heap.size := by simp at s3; omega
  have k3 : ∀ q, q ≠ M → q ≠ g → q < wr.heap.size → w3.heap[q]? = wr.heap[q]? := fun q h1 h2 h3 => by
    rw [hbt3.rest q h2 (by simp; omega)]
    have : (w2.alloc (.cells #[.int .i64 h] 3)).drew.heap[q]? = w2.heap[q]? := Below.heap_alloc _ _ _ (by omega)
    rw [this, hbt2.rest q h2 (by omega), hbt1.rest q h1 h3]
  have hM3 : w3.heap[M]? = w1.heap[M]? := by
    rw [hbt3.rest M (Ne.symm hgM) (by simp; omega)]
    have : (w2.alloc (.cells #[.int .i64 h] 3)).drew.heap[M]? = w2.heap[M]? := Below.heap_alloc _ _ _ (by omega)
    rw [this, hbt2.rest M (Ne.symm hgM) (by omega)]
  have hB3 : Blk w3 B 32 vs := by unfold Blk; rw [k3 B hBM hgB hBb.lt]; exact hBb
  have hown : w3.ownsRow base 3 1 (.slice (some ⟨g, 0, none⟩) (r.length + 1) sc) (r ++ [h]).length (intsV (r ++ [h])) := by
    have := own_mk (l := r ++ [h]) hg3 hgb (by rw [List.length_set]; exact hu2) (by simpa using hr) hsc (by
      rw [List.length_append, List.length_singleton, List.take_add_one, List.getElem?_set_self (by omega), List.take_set_of_le (Nat.le_refl _), ht2]
      simp [intsV])
    simpa using this
  have hset : ∀ q, q ≠ B → (w3.setCell ⟨B, i, none⟩ (.slice (some ⟨g, 0, none⟩) (r.length + 1) sc)).heap[q]? = w3.heap[q]? := fun q hq => Below.heap_setCell w3 _ _ q (by exact hq)
  have hown4 : (w3.setCell ⟨B, i, none⟩ (.slice (some ⟨g, 0, none⟩) (r.length + 1) sc)).ownsRow base 3 1 (.slice (some ⟨g, 0, none⟩) (r.length + 1) sc) (r ++ [h]).length (intsV (r ++ [h])) :=
    own_keep hown (fun q _ hq _ => by obtain rfl := Option.some.inj hq; exact hset _ (Ne.symm hgB))
  refine ⟨?_, hp1.block (by rw [hset M (Ne.symm hBM)]; exact hM3), ?_, IntsAt.of_owns hown4, ?_⟩
  · refine hs.lists.put hi hv (k3 B hBM hgB hBb.lt) (fun q us' hq hne => k3 q (hs.pairs.ne hq) (fun e => hne (by rw [e]; rfl)) hq.lt) hown (fun q hq => .inl hq)
  · have hb : Below base wr w3 := by
      refine (hbt1.below (Below.refl _ _) hM (by omega)).trans ((hbt2.below (Below.refl _ _) hgb (by omega)).trans ?_)
      exact (((Below.refl base w2).alloc (by omega) _).drew).trans (hbt3.below (Below.refl _ _) hgb (by simp; omega))
    refine ⟨hb.setCell hB _, fun q t us' hq h1 h2 => ?_⟩
    rw [hset q (hq.type_ne hBb h2), k3 q (hs.pairs.ne hq) (hq.type_ne hg h1) hq.lt]
  · have hb4 := hB3.set i (.slice (some ⟨g, 0, none⟩) (r.length + 1) sc)
    exact hb4.cell_some (by rw [List.getElem?_set_self (by omega)])

end Go.Proofs.YtokmllopbfmadabDoor.Plans

namespace Go.Proofs.YtokmllopbfmadabDoor.Plans
open Go.RowKit Mem

/-- append of several elements onto a row of the call's own, as one step of a region that draws its order. -/
theorem step_append_n {P : Program} {w : World} {ops : Array Oper} {o : Oper} {a : Act} {K : Act → World → Prop} {Q : Exit → Act → World → Prop} {E : Prop}
    (hgd : o.guard = none) (s x : Operand) (t : TypeId) (hop : o.op = Op.call { callee := Callee.builtin Builtin.append, args := #[s, x], argTypes := #[t, t] })
    (base : Nat) (e : TypeId) (z : Value) (size bytes : Nat) (ht : P.underlying t = some (.slice e)) (hinfo : (P.info? e).map (fun i => (i.zero, i.size, i.bytes)) = some (some z, size, bytes)) (hz : z.cells.size = size) (hsz : 0 < size)
    (v : Value) (n : Nat) (xs : List Value) (hs : a.eval s = v) (hown : w.ownsRow base e size v n xs) (ad : Addr) (m c : Nat) (news : List Value) (hx : a.eval x = .slice (some ad) m c) (hl : news.length = m * size) (hu : ∀ (j : Nat) (u : Value), news[j]? = some u → w.cell? (ad.add j) = some u) (h1 : ∀ u ∈ news, u.oneCell' = true)
    (b1 : n + m ≤ maxLen) (b2 : (n + m) * bytes ≤ 140737488355328) (hbase : base ≤ w.heap.size)
    (hK : ∀ v' w', w'.ownsRow base e size v' (n + m) (xs ++ news) → w.grownBy w' v.ownBlock → K (a.put o.dst v') w') :
    if Region.wanted o (yielded ops a.tmps) = true then Oper.wp P o a w K Q else E := by
  have hw : Region.wanted o (yielded ops a.tmps) = true := by simp [Region.wanted, hgd]
  rw [if_pos hw]
  obtain ⟨i0, hi, hz0, hz1, hz2⟩ := info_parts hinfo
  obtain ⟨v', w', hrun, ho, hg, _⟩ := run_append_own (P := P) w base t o.type e i0 z size bytes ht hi hz0 hz1 hz2 hz hsz v n xs hown ad m c news hl hu h1 b1 b2 hbase
  unfold Oper.wp
  simp [execOp, hop, resolve, invoke, builtin, hs, hx, hrun, Result.andThen]
  exact hK v' w' ho hg
def flagsV (m : Nat) (bg : Nat → Bool) : List Value := (List.range m).map fun k => .bool (bg k)
theorem flagsV_at {m k : Nat} (bg : Nat → Bool) (h : k < m) : (flagsV m bg)[k]? = some (.bool (bg k)) := by simp [flagsV, h]
theorem flagsV_set (m k : Nat) (bg : Nat → Bool) (x : Bool) : (flagsV m bg).set k (.bool x) = flagsV m (fun q => if q = k then x else bg q) := by
  apply List.ext_getElem?
  intro q
  by_cases hq : q < m
  · by_cases e : k = q
    · subst e; rw [List.getElem?_set_self (by simp [flagsV]; omega), flagsV_at _ hq]; simp
    · rw [List.getElem?_set_ne e, flagsV_at _ hq, flagsV_at _ hq, if_neg (by omega)]
  · rw [List.getElem?_eq_none (by simp [flagsV]; omega), List.getElem?_eq_none (by simp [flagsV]; omega)]
theorem flagsV_congr {m : Nat} {f g : Nat → Bool} (h : ∀ k, k < m → f k = g k) : flagsV m f = flagsV m g := List.map_congr_left fun k hk => by rw [h k (List.mem_range.1 hk)]
/-- The plan that grows, in memory. -/
structure PSt (w : World) (PB GB base m8 fs fh : Nat) (ss : List Stp) (bg : Nat → Bool) (sv : Value) : Prop where
  blk : Blk w PB 133 [sv, .slice (some ⟨GB, 0, none⟩) m8 m8, .int .i64 fs, .int .i64 fh]
  own : w.ownsRow base 141 3 sv ss.length (stepCells ss)
  flags : Blk w GB 4 (flagsV m8 bg)
/-- What a change of the plan leaves alone. -/
structure TurnedP (base : Nat) (w w' : World) : Prop where
  below : Below base w w'
  keep : ∀ g, g < w.heap.size → (∀ us, ¬ Blk w g 133 us) → (∀ us, ¬ Blk w g 141 us) → (∀ us, ¬ Blk w g 4 us) → w'.heap[g]? = w.heap[g]?
theorem own_keep3 {w w' : World} {base n : Nat} {v : Value} {xs : List Value} (h : w.ownsRow base 141 3 v n xs) (hk : ∀ g us, v.ownBlock = some g → Blk w g 141 us → w'.heap[g]? = w.heap[g]?) : w'.ownsRow base 141 3 v n xs := by
  obtain ⟨h1, h2⟩ := h
  refine ⟨h1, ?_⟩
  rcases h2 with h2 | ⟨g, cap, cur, rfl, hg, hh, r⟩
  · exact .inl h2
  · exact .inr ⟨g, cap, cur, rfl, hg, by rw [hk g cur.toList rfl (by unfold Blk; rw [hh])]; exact hh, r⟩
theorem PSt.keep {w w' : World} {PB GB base m8 fs fh : Nat} {ss : List Stp} {bg : Nat → Bool} {sv : Value} (h : PSt w PB GB base m8 fs fh ss bg sv) (hk : ∀ g t us, Blk w g t us → t = 133 ∨ t = 141 ∨ t = 4 → w'.heap[g]? = w.heap[g]?) : PSt w' PB GB base m8 fs fh ss bg sv :=
  ⟨by unfold Blk; rw [hk _ _ _ h.blk (.inl rfl)]; exact h.blk, own_keep3 h.own (fun g us _ hg => hk g _ us hg (.inr (.inl rfl))), by unfold Blk; rw [hk _ _ _ h.flags (.inr (.inr rfl))]; exact h.flags⟩
theorem PSt.to {w w' : World} {PB GB base m8 fs fh : Nat} {ss : List Stp} {bg : Nat → Bool} {sv : Value} (h : PSt w PB GB base m8 fs fh ss bg sv) (hb : Below w.heap.size w w') : PSt w' PB GB base m8 fs fh ss bg sv := h.keep (fun g _ _ hg _ => hb.block g hg.lt)
theorem PSt.turned {b2 : Nat} {w w' : World} {PB GB base m8 fs fh : Nat} {ss : List Stp} {bg : Nat → Bool} {sv : Value} (h : PSt w PB GB base m8 fs fh ss bg sv) (ht : Turned b2 w w') : PSt w' PB GB base m8 fs fh ss bg sv := h.keep (fun g t us hg e => ht.keep g t us hg (by rcases e with rfl | rfl | rfl <;> decide) (by rcases e with rfl | rfl | rfl <;> decide))

theorem addr_add (B j : Nat) : (⟨B, 0, none⟩ : Addr).add j = ⟨B, j, none⟩ := by cases j <;> simp [Addr.add]
theorem add_after {w W w3 : World} {PB GB base m8 fs fh : Nat} {ss S2 : List Stp} {bg : Nat → Bool} {sv v' : Value} (hst : PSt w PB GB base m8 fs fh ss bg sv) (hPB : base ≤ PB) (hbs : base ≤ w.heap.size) (hW : Below w.heap.size w W) (hg : W.grownBy w3 sv.ownBlock) (hown : w3.ownsRow base 141 3 v' S2.length (stepCells S2)) :
    PSt (w3.setCell ⟨PB, 0, none⟩ v') PB GB base m8 fs fh S2 bg v' ∧ TurnedP base w (w3.setCell ⟨PB, 0, none⟩ v') := by
  have hsz := hW.size
  have hsb : ∀ g, sv.ownBlock = some g → base ≤ g ∧ ∃ us, Blk w g 141 us := by
    intro g hv
    rcases hst.own.2 with ⟨rfl, _⟩ | ⟨g', cap, cur, rfl, hb, hh, _⟩
    · cases hv
    · obtain rfl := Option.some.inj hv; exact ⟨hb, cur.toList, by unfold Blk; rw [hh]⟩
  have k3 : ∀ q, q < w.heap.size → (∀ us, ¬ Blk w q 141 us) → w3.heap[q]? = w.heap[q]? := fun q h1 h2 => by
    rw [hg.block q (by omega) (fun e => by obtain ⟨_, us, hu⟩ := hsb q e.symm; exact h2 us hu), hW.block q h1]
  have nS : ∀ {q : Nat} {t : TypeId} {us : List Value}, Blk w q t us → t ≠ 141 → ∀ vs, ¬ Blk w q 141 vs := fun hq ht vs hv => hq.type_ne hv ht rfl
  have hP3 : Blk w3 PB 133 [sv, .slice (some ⟨GB, 0, none⟩) m8 m8, .int .i64 fs, .int .i64 fh] := by
    unfold Blk; rw [k3 PB hst.blk.lt (nS hst.blk (by decide))]; exact hst.blk
  have hG3 : Blk w3 GB 4 (flagsV m8 bg) := by
    unfold Blk; rw [k3 GB hst.flags.lt (nS hst.flags (by decide))]; exact hst.flags
  have hset : ∀ q, q ≠ PB → (w3.setCell ⟨PB, 0, none⟩ v').heap[q]? = w3.heap[q]? := fun q hq => Below.heap_setCell w3 _ _ q (by exact hq)
  refine ⟨⟨hP3.set 0 v', own_keep3 hown (fun g us _ hg => hset g (hg.type_ne hP3 (by decide))), hG3.other (hG3.type_ne hP3 (by decide)) _⟩, ?_, ?_⟩
  · have hb : Below base w w3 := (hW.mono hbs).trans ⟨hg.os, hg.tape, hg.output, hg.size, fun k hk => hg.block k (by omega) (fun e => by have := (hsb k e.symm).1; omega)⟩
    exact hb.setCell hPB _
  · intro g hlt h1 h2 _
    rw [hset g (fun e => h1 _ (e ▸ hst.blk)), k3 g hlt h2]

theorem plan_kept {w W w3 : World} {PB GB base m8 fs fh : Nat} {ss : List Stp} {bg : Nat → Bool} {sv : Value} (hst : PSt w PB GB base m8 fs fh ss bg sv) (hW : Below w.heap.size w W) (hg : W.grownBy w3 sv.ownBlock) : w3.heap[PB]? = w.heap[PB]? := by
  have hlt := hst.blk.lt
  have := hW.size
  rw [hg.block PB (by omega) (fun e => ?_), hW.block PB hlt]
  rcases hst.own.2 with ⟨rfl, _⟩ | ⟨g', cap, cur, rfl, hb, hh, _⟩
  · cases e
  · have h1 : PB = g' := Option.some.inj e
    have h2 := hst.blk
    subst h1
    unfold Blk at h2
    rw [hh] at h2
    simp at h2

set_option maxRecDepth 100000 in
set_option maxHeartbeats 4000000 in
theorem makeHelper_any (PB GB base m8 fs fh a b h : Nat) (ss : List Stp) (bg : Nat → Bool) (sv : Value) (w : World) (hst : PSt w PB GB base m8 fs fh ss bg sv) (hPB : base ≤ PB) (hlen : ss.length ≤ 1000000) :
    Calls Tryd.prog 87 #[.pointer (some ⟨PB, 0, none⟩), .int .i64 h, .agg #[.int .i64 a, .int .i64 b]] w fun e w' => e = .returned (.tuple #[]) ∧ (∃ sv', PSt w' PB GB base m8 fs fh (ss ++ [⟨h, a, true⟩, ⟨h, b, false⟩]) bg sv') ∧ TurnedP base w w' := by
  have HST : Hid (PSt w PB GB base m8 fs fh ss bg sv) := hst
  have p0 := hst.blk.cell_some (k := 0) (v := sv) rfl
  have f0 := hst.blk.free 0
  have hplt := hst.blk.lt
  obtain ⟨sa, sc, rfl⟩ := owns_form hst.own
  clear hst
  go_enter Tryd.func87, Tryd.ntmps87
  obtain ⟨S2, hS2⟩ : ∃ S2, S2 = ss ++ [(⟨h, a, true⟩ : Stp), ⟨h, b, false⟩] := ⟨_, rfl⟩
  have HNC : Hid (stepCells ss ++ [.int .i64 h, .int .i64 a, .bool true, .int .i64 h, .int .i64 b, .bool false] = stepCells S2 ∧ ss.length + 2 = S2.length) := by
    show _ ∧ _
    rw [hS2, stepCells_add]
    exact ⟨rfl, by simp⟩
  have HS2 : Hid (S2 = ss ++ [(⟨h, a, true⟩ : Stp), ⟨h, b, false⟩]) := hS2
  clear hS2
  have hbs : base ≤ w.heap.size := by omega
  have HNB : Hid (Blk ((w.alloc (.cells #[.int .i64 a, .int .i64 b] 149)).alloc (.cells #[.int .i64 h, .int .i64 a, .bool true, .int .i64 h, .int .i64 b, .bool false] 141)) (w.heap.size + 1) 141 [.int .i64 h, .int .i64 a, .bool true, .int .i64 h, .int .i64 b, .bool false]) := Blk.new1 w _ _ _
  go_wp2
  go_region_law (refine step_append_n rfl _ _ 117 rfl base 141 (.agg #[.int .i64 0, .int .i64 0, .bool false]) 3 24 Tryd.underlying117 infoStep rfl (by decide) (.slice sa ss.length sc) ss.length (stepCells ss) (by simp [Act.eval]) (by exact ((HST.out.own.alloc _).alloc _).drew) ⟨w.heap.size + 1, 0, none⟩ 2 2 [.int .i64 h, .int .i64 a, .bool true, .int .i64 h, .int .i64 b, .bool false] (by simp [Act.eval]) rfl (fun j u hu => (congrArg _ (addr_add _ j)).trans (HNB.out.cell_some hu)) (by simp [Value.oneCell']) (by unfold maxLen; omega) (by omega) (by simp; omega) ?_; rw [HNC.out.1, HNC.out.2]; intro v' w3 hown' hg'; obtain ⟨va, vc, rfl⟩ := owns_form hown'; have hpk := plan_kept (w3 := w3) HST.out (by exact (((Below.refl _ _).alloc (Nat.le_refl _) _).alloc (by simp) _).drew) hg'; have c3 := (World.cell?_of_block (a := ⟨PB, 0, none⟩) hpk).trans p0; have f3 := (World.frozen?_of_block (a := ⟨PB, 0, none⟩) hpk).trans f0)
  all_goals
    have hra := add_after (w3 := w3) HST.out hPB hbs (by exact (((Below.refl _ _).alloc (Nat.le_refl _) _).alloc (by simp) _).drew) hg' hown'
    have HRA : Hid _ := hra
    clear hra hown' hg' hpk c3 f3
    go_wp2
    go_end0
    refine ⟨rfl, ?_, HRA.out.2⟩
    rw [← HS2.out]; exact ⟨_, HRA.out.1⟩
end Go.Proofs.YtokmllopbfmadabDoor.Plans

namespace Go.Proofs.YtokmllopbfmadabDoor.Plans
open Go.RowKit Mem

theorem results_row_tmp {P : Program} {fn : Func} {p u : Tmp} {ty : TypeId} (h : fn.results = #[.cell p ty, .tmp u]) (tmps : Array Value) (w : World) (g : Nat) (t : TypeId) (cs : Array Value) (fr : Nat × Nat) (d : TypeDesc)
    (hp : tmps.getD p undef = .pointer (some ⟨g, 0, none⟩)) (hg : w.heap[g]? = some (.cells cs t fr))
    (hu : P.underlying ty = some d) (hd : (match d with | .struct _ | .array _ _ => true | _ => false) = true) (hi : (P.info? ty).map (·.size) = some cs.size) (v : Value) (hv : tmps.getD u undef = v) :
    (results fn tmps).run P w = .ok (.tuple #[.agg cs, v]) w := by
  have hp' : tmps[p]?.getD undef = .pointer (some ⟨g, 0, none⟩) := by simpa using hp
  have hv' : tmps[u]?.getD undef = v := by simpa using hv
  simp [results, h, hp', hv', asAddr, run_loadVar_row w g t ty cs fr d hg hu hd hi]
end Go.Proofs.YtokmllopbfmadabDoor.Plans
