import Derived.DeepKeys5
import Derived.Maps.RangeWalk
import Derived.Maps.OwnOps
import Derived.WideKeyEntry
import Derived.Test.YtokmllopbfmadabDoorGChangeMath
import Derived.Deep.MidRow
import Derived.Test.YtokmllopbfmadabDoorGSolve
/- Pairs of slots counted in a map whose keys are arrays of two numbers. -/
namespace Go.Proofs.YtokmllopbfmadabDoor.Plans
open Go.RowKit Mem

theorem keyU : Tryd.prog.underlying 149 = some (.array 2 3) := by kernel_rfl
theorem mapU : Tryd.prog.underlying 136 = some (.map 149 3) := by kernel_rfl
theorem pairLaw : WideMaps.KeyLaw Tryd.prog 149 := deep_law (m := 2) (by decide) (by kernel_rfl) (by kernel_rfl) (by kernel_rfl)
theorem pairKeyed : Maps.Keyed Tryd.prog 149 := Maps.Keyed.of_law pairLaw
/-- The pair as a key. -/
def kv (x y : Int) : Value := .agg #[.int .i64 x, .int .i64 y]
def kl (x y : Int) : Lit := .string (keyBytes [.int .i64 x, .int .i64 y])
def okI (x : Int) : Prop := (Lit.int .i64 x).wf = true
theorem keyType2 : Tryd.prog.keyType 149 = true := by kernel_rfl
theorem cells2 : Tryd.prog.cellsOf 149 = 2 := by kernel_rfl
theorem cells1 : Tryd.prog.cellsOf 3 = 1 := by kernel_rfl
theorem typesPos : decide (0 < Tryd.prog.types.size) = true := by kernel_rfl
theorem typesN : ∃ n, Tryd.prog.types.size = n + 1 := ⟨Tryd.prog.types.size - 1, by have := of_decide_eq_true typesPos; omega⟩
theorem len2 {α : Type} (l : List α) (h : l.length = 2) : ∃ a b, l = [a, b] := by
  cases l with
  | nil => simp at h
  | cons a l =>
    cases l with
    | nil => simp at h
    | cons b l =>
      cases l with
      | nil => exact ⟨a, b, rfl⟩
      | cons c l => simp at h
theorem intU : Tryd.prog.underlying 3 = some (.int .i64) := Tryd.underlying3
theorem keyLits_int (n : Nat) (v : Value) (L : List Lit) (h : Tryd.prog.keyLits (n + 1) 3 [v] = some L) : ∃ x, v = .int .i64 x ∧ okI x ∧ L = [.int .i64 x] := by
  unfold Program.keyLits at h
  simp only [intU] at h
  cases v <;> simp at h
  obtain ⟨⟨rfl, hw⟩, rfl⟩ := h
  exact ⟨_, rfl, hw, rfl⟩
theorem keyLits_int' (n : Nat) (x : Int) (hx : okI x) : Tryd.prog.keyLits (n + 1) 3 [.int .i64 x] = some [.int .i64 x] := by
  unfold okI at hx
  unfold Program.keyLits
  simp only [intU]
  simp [hx]
theorem keyLits_pair (n : Nat) (a b : Value) : Tryd.prog.keyLits (n + 2) 149 [a, b] = (Tryd.prog.keyLits (n + 1) 3 [a]).bind fun la => (Tryd.prog.keyLits (n + 1) 3 [b]).map fun lb => la ++ lb := by
  have e : Tryd.prog.keyLits (n + 2) 149 [a, b] = (if [a, b].length = Tryd.prog.cellsOf 149 then ((List.range 2).mapM fun i => Tryd.prog.keyLits (n + 1) 3 (([a, b].drop (i * Tryd.prog.cellsOf 3)).take (Tryd.prog.cellsOf 3))).map List.flatten else none) := by
    conv => lhs; unfold Program.keyLits
    simp only [keyU]
  rw [e]
  simp only [cells2, cells1, List.length_cons, List.length_nil, if_true]
  rw [show List.range 2 = [0, 1] from rfl]
  simp only [List.mapM_cons, List.mapM_nil, Nat.zero_mul, Nat.one_mul, List.drop_zero, List.drop_succ_cons, List.take_succ_cons, List.take_zero]
  cases Tryd.prog.keyLits (n + 1) 3 [a] <;> cases Tryd.prog.keyLits (n + 1) 3 [b] <;> simp
theorem keyLits2 (x y : Int) (hx : okI x) (hy : okI y) : Tryd.prog.keyLits (Tryd.prog.types.size + 1) 149 [.int .i64 x, .int .i64 y] = some [.int .i64 x, .int .i64 y] := by
  obtain ⟨n, hn⟩ := typesN
  rw [hn, keyLits_pair, keyLits_int' n x hx, keyLits_int' n y hy]
  rfl
theorem key_mk (x y : Int) (hx : okI x) (hy : okI y) : keyOf Tryd.prog 149 (kv x y) = some (kl x y) := by
  unfold keyOf
  simp only [keyU, keyType2, Bool.true_and]
  have hf : (kv x y).formed Tryd.prog 149 = true := by simp only [kv, Value.formed, keyU]; rw [cells2]; rfl
  rw [if_pos hf]
  show (Option.map _ (Tryd.prog.keyLits _ _ [.int .i64 x, .int .i64 y])) = _
  rw [keyLits2 x y hx hy]; rfl
theorem key_inv (v : Value) (l : Lit) (h : keyOf Tryd.prog 149 v = some l) : ∃ x y : Int, v = kv x y ∧ okI x ∧ okI y ∧ l = kl x y := by
  obtain ⟨xs, L, rfl, hl, rfl⟩ := keyOf_top (by kernel_rfl) h
  obtain ⟨n, hn⟩ := typesN
  obtain ⟨cs⟩ := xs
  rw [hn] at hl
  have hlen : cs.length = 2 := by
    unfold Program.keyLits at hl
    simp only [keyU, cells2] at hl
    by_cases h2 : cs.length = 2
    · exact h2
    · rw [if_neg h2] at hl; cases hl
  obtain ⟨a, b, rfl⟩ := len2 cs hlen
  change Tryd.prog.keyLits (n + 2) 149 [a, b] = some L at hl
  rw [keyLits_pair] at hl
  cases h1 : Tryd.prog.keyLits (n + 1) 3 [a] with
  | none => rw [h1] at hl; cases hl
  | some la =>
    cases h2 : Tryd.prog.keyLits (n + 1) 3 [b] with
    | none => rw [h1, h2] at hl; cases hl
    | some lb =>
      rw [h1, h2] at hl
      obtain ⟨x, rfl, hx, rfl⟩ := keyLits_int n a la h1
      obtain ⟨y, rfl, hy, rfl⟩ := keyLits_int n b lb h2
      obtain rfl := Option.some.inj hl
      exact ⟨x, y, rfl, hx, hy, rfl⟩
theorem kl_inj {x y x' y' : Int} (hx : okI x) (hy : okI y) (hx' : okI x') (hy' : okI y') (h : kl x y = kl x' y') : x = x' ∧ y = y' := by
  have h1 := key_mk x y hx hy
  have h2 := key_mk x' y' hx' hy'
  rw [h] at h1
  have := pairLaw.inj h1 h2
  simp only [kv, Value.agg.injEq, Array.mk.injEq, List.cons.injEq, Value.int.injEq] at this
  exact ⟨this.1.2, this.2.1.2⟩
theorem okN (x : Nat) (h : x < 9223372036854775808) : okI (x : Int) := by
  have h1 : IntKind.i64.min = -9223372036854775808 := rfl
  have h2 : IntKind.i64.max = 9223372036854775807 := rfl
  unfold okI; simp [Lit.wf, h1, h2]; omega
theorem kl_key {x y : Int} (hx : okI x) (hy : okI y) : WideAt.IsKeyLit (kl x y) := pairKeyed.key (key_mk x y hx hy)

/-- Block b counts the pairs: f at each. -/
def PM (w : World) (b n : Nat) (f : Nat → Nat → Int) : Prop :=
  ∃ D : DataW Unit, w.ownsMap Tryd.prog 149 (plainElem Tryd.prog 3) b n D ∧ (∀ x y : Nat, okI x → okI y → D.atKey (kl x y) (.lit (.int .i64 0)) = .lit (.int .i64 (f x y))) ∧
    ∀ l, Maps.has D l = true → ∃ x y : Nat, x < 1000000 ∧ y < 1000000 ∧ l = kl x y
theorem PM.block {w w' : World} {b n : Nat} {f : Nat → Nat → Int} (h : PM w b n f) (e : w'.heap[b]? = w.heap[b]?) : PM w' b n f := by
  obtain ⟨D, ⟨es, clock, hb, r⟩, h2⟩ := h
  exact ⟨D, ⟨es, clock, e.trans hb, r⟩, h2⟩
theorem PM.lt {w : World} {b n : Nat} {f : Nat → Nat → Int} (h : PM w b n f) : b < w.heap.size := by
  obtain ⟨D, h1, _⟩ := h; exact h1.lt
theorem PM.to {w w' : World} {b n : Nat} {f : Nat → Nat → Int} (h : PM w b n f) (hb : Below w.heap.size w w') : PM w' b n f := h.block (hb.block b h.lt)
theorem PM.alloc {w : World} {b n : Nat} {f : Nat → Nat → Int} (h : PM w b n f) (o : Obj) : PM (w.alloc o) b n f := h.to ((Below.refl _ _).alloc (Nat.le_refl _) o)
theorem PM.drew {w : World} {b n : Nat} {f : Nat → Nat → Int} (h : PM w b n f) : PM w.drew b n f := h.block rfl
theorem PM.mono {w : World} {b n m : Nat} {f : Nat → Nat → Int} (h : PM w b n f) (hn : n ≤ m) : PM w b m f := by
  obtain ⟨D, h1, h2⟩ := h; exact ⟨D, h1.mono hn, h2⟩
theorem PM.eq {w : World} {b n : Nat} {f g : Nat → Nat → Int} (h : PM w b n f) (e : ∀ x y, f x y = g x y) : PM w b n g := by
  obtain ⟨D, h1, h2, h3⟩ := h; exact ⟨D, h1, fun x y hx hy => by rw [← e]; exact h2 x y hx hy, h3⟩
theorem PM.ne {w : World} {b n g : Nat} {f : Nat → Nat → Int} {t : TypeId} {us : List Value} (h : PM w b n f) (hg : Blk w g t us) : g ≠ b := by
  obtain ⟨D, ⟨es, clock, hb, _⟩, _⟩ := h
  rintro rfl
  unfold Blk at hg
  rw [hb] at hg; cases hg
theorem PM.made (w : World) : PM (w.alloc (.map #[] 0)) w.heap.size 0 (fun _ _ => 0) :=
  ⟨.map [], World.ownsMap_made _ _ _ _, fun x y _ _ => by simp [DataW.atKey], fun l h => by simp [Maps.has] at h⟩
/-- One place of the counts anew. -/
def upd2 (f : Nat → Nat → Int) (a b : Nat) (c : Int) : Nat → Nat → Int := fun x y => if x = a ∧ y = b then c else f x y
theorem zeroI (u : World) : (zeroValue 3).run Tryd.prog u = .ok (.int .i64 0) u := by
  simp [zeroValue, Tryd.t3]
set_option maxRecDepth 100000 in
theorem PM.look {w : World} {b n : Nat} {f : Nat → Nat → Int} (h : PM w b n f) (x y : Nat) (hx : okI x) (hy : okI y) : (Instr.lookup 136 (.map (some b)) (kv x y) false).run Tryd.prog w = .ok (.int .i64 (f x y)) w ∧ okI (f x y) := by
  obtain ⟨D, h1, h2, _⟩ := h
  obtain ⟨c, hr, ha, hw⟩ := h1.lookup_int pairKeyed mapU intU (zeroI w) (key_mk x y hx hy)
  rw [h2 x y hx hy] at ha
  have : f x y = c := by injection ha with ha; injection ha
  rw [this]
  exact ⟨hr, hw⟩
set_option maxRecDepth 100000 in
theorem PM.put {w w' : World} {b n : Nat} {f : Nat → Nat → Int} (h : PM w b n f) (x y : Nat) (hx : x < 1000000) (hy : y < 1000000) (c : Int) (hc : okI c) (hn : n < maxLen)
    (hr : (Instr.mapUpdate 136 (.map (some b)) (kv x y) (.int .i64 c)).run Tryd.prog w = .ok () w') : PM w' b (n + 1) (upd2 f x y c) ∧ w.grownBy w' (some b) := by
  obtain ⟨D, h1, h2, h3⟩ := h
  have ox := okN x (by omega)
  have oy := okN y (by omega)
  obtain ⟨w2, hr2, ho, hg⟩ := h1.update pairKeyed mapU hn (key_mk x y ox oy) (plainElem_int intU hc)
  have e : w2 = w' := by rw [hr] at hr2; injection hr2 with _ e; exact e.symm
  subst e
  have hm : Maps.IsMap D := by obtain ⟨es, e, _⟩ := h1.entries pairKeyed; exact ⟨es, e⟩
  refine ⟨⟨_, ho, fun x' y' hx' hy' => ?_, fun l hl => ?_⟩, hg⟩
  · unfold upd2
    by_cases e : x' = x ∧ y' = y
    · obtain ⟨rfl, rfl⟩ := e
      rw [if_pos ⟨rfl, rfl⟩, Maps.atKey_put_same hm (kl_key ox oy)]
    · rw [if_neg e, Maps.atKey_put_other (fun e2 => e (by have := kl_inj hx' hy' ox oy e2; omega))]
      exact h2 x' y' hx' hy'
  · by_cases e : l = kl x y
    · exact ⟨x, y, hx, hy, e⟩
    · rw [Maps.has_put_other e] at hl
      exact h3 l hl
theorem setBlock_twice (w : World) (b : Nat) (o o' : Obj) : ChangeMaps.setBlock (ChangeMaps.setBlock w b o) b o' = ChangeMaps.setBlock w b o' := by
  unfold ChangeMaps.setBlock; simp
theorem setBlock_self (w : World) (b : Nat) (o : Obj) (h : w.heap[b]? = some o) : ChangeMaps.setBlock w b o = w := by
  unfold ChangeMaps.setBlock
  have : w.heap.setIfInBounds b o = w.heap := by
    apply Array.ext
    · simp
    · intro i h1 h2
      rw [Array.getElem_setIfInBounds]
      split
      · rename_i e
        subst e
        rw [Array.getElem?_eq_getElem h2] at h
        exact (Option.some.inj h).symm
      · rfl
  rw [this]
set_option maxRecDepth 100000 in
/-- The entry is laid: the map reads as before. -/
theorem PM.entry {w : World} {b n : Nat} {f : Nat → Nat → Int} (h : PM w b n f) (x y : Nat) (hx : x < 1000000) (hy : y < 1000000) (hn : n < maxLen) {v : Value} {w1 : World}
    (hr : (Instr.mapEntry 136 (.map (some b)) (kv x y)).run Tryd.prog w = .ok v w1) : PM w1 b (n + 1) f := by
  have ox := okN x (by omega)
  have oy := okN y (by omega)
  have h' := h
  obtain ⟨D, ⟨es, clock, hb, F, hs, hD⟩, h2, h3⟩ := h'
  rcases pairLaw.find w (key_mk x y ox oy) es.toList F.keys with ⟨f1, f2⟩ | ⟨j, e0, f1, f2, f3⟩
  · have e1 : (Instr.mapEntry 136 (.map (some b)) (kv x y)).run Tryd.prog w = .ok (.tuple #[.int .i64 0, goInt clock]) (ChangeMaps.setBlock w b (.map (es.push ⟨kv x y, .int .i64 0, clock⟩) (clock + 1))) := by
      simp [Instr.mapEntry, run_underlying mapU, MapKept.run_getObj_map hb, pairLaw.check w false (key_mk x y ox oy), f1, MapKept.run_setObj_map _ hb, Result.andThen, ChangeMaps.setBlock]
    have e2 : (Instr.mapUpdate 136 (.map (some b)) (kv x y) (.int .i64 0)).run Tryd.prog w = .ok () (ChangeMaps.setBlock w b (.map (es.push ⟨kv x y, .int .i64 0, clock⟩) (clock + 1))) := by
      simp [Instr.mapUpdate, run_underlying mapU, MapKept.run_getObj_map hb, pairLaw.check w false (key_mk x y ox oy), f1, MapKept.run_setObj_map _ hb, Result.andThen, ChangeMaps.setBlock]
    have e3 : (Instr.lookup 136 (.map (some b)) (kv x y) false).run Tryd.prog w = .ok (.int .i64 0) w := by
      simp [Instr.lookup, run_underlying mapU, MapKept.run_getObj_map hb, pairLaw.check w es.isEmpty (key_mk x y ox oy), f1, Result.andThen]
    have e4 := (h.look x y ox oy).1
    rw [e3] at e4
    have e5 : f x y = 0 := by injection e4 with e4; injection e4 with _ e4; exact e4.symm
    rw [e1] at hr
    injection hr with _ hr
    subst hr
    refine (h.put x y hx hy 0 (okN 0 (by decide)) hn e2).1.eq fun a c => ?_
    unfold upd2
    split
    · rename_i e; rw [e.1, e.2, e5]
    · rfl
  · have hj : es[j]? = some e0 := by simpa using f2
    have hsame : es.modify j (fun e => { e with key := kv x y }) = es := by
      apply Array.ext'
      rw [Array.toList_modify, ChangeMaps.modify_eq_set _ _ _ _ f2]
      have : ({ e0 with key := kv x y } : MapEntry) = e0 := by rw [← f3]
      rw [this]
      exact WideElems.set_self _ _ _ f2
    have e1 : (Instr.mapEntry 136 (.map (some b)) (kv x y)).run Tryd.prog w = .ok (.tuple #[e0.val, goInt e0.born]) (ChangeMaps.setBlock w b (.map es clock)) := by
      simp [Instr.mapEntry, run_underlying mapU, MapKept.run_getObj_map hb, pairLaw.check w false (key_mk x y ox oy), f1, hj, f3, pairLaw.stays w (key_mk x y ox oy), hsame, MapKept.run_setObj_map _ hb, Result.andThen, ChangeMaps.setBlock]
    rw [e1, setBlock_self w b _ hb] at hr
    injection hr with _ hr
    subst hr
    exact h.mono (by omega)
set_option maxRecDepth 100000 in
/-- 'm[k] += c' in its three operations, whichever comes first. -/
theorem PM.step {w : World} {b n : Nat} {f : Nat → Nat → Int} (h : PM w b n f) (x y : Nat) (hx : x < 1000000) (hy : y < 1000000) (c : Int) (hc : okI c) (hn : n < maxLen) :
    ∃ (v0 : Value) (st : Nat) (w1 w2 : World), (Instr.mapEntry 136 (.map (some b)) (kv x y)).run Tryd.prog w = .ok (.tuple #[v0, goInt st]) w1 ∧
      (Instr.lookup 136 (.map (some b)) (kv x y) false).run Tryd.prog w = .ok (.int .i64 (f x y)) w ∧
      (Instr.lookup 136 (.map (some b)) (kv x y) false).run Tryd.prog w1 = .ok (.int .i64 (f x y)) w1 ∧
      (Instr.entryStore 136 (.map (some b)) (goInt st) (.int .i64 c)).run Tryd.prog w1 = .ok () w2 ∧
      PM w2 b (n + 1) (upd2 f x y c) ∧ w.grownBy w2 (some b) := by
  have ox := okN x (by omega)
  have oy := okN y (by omega)
  have hlk := h.look x y ox oy
  have h' := h
  obtain ⟨D, ⟨es, clock, hb, F, hs, hD⟩, h2, h3⟩ := h'
  obtain ⟨v0, st, es1, clock1, e1, e2, e3⟩ := WideElems.entry_then_store pairLaw mapU (z := .int .i64 0) zeroI hb F (key_mk x y ox oy)
  have hb1 : (ChangeMaps.setBlock w b (.map es1 clock1)).heap[b]? = some (.map es1 clock1) := ChangeMaps.heap_setBlock_same hb _
  obtain ⟨es2, clock2, r1, r2⟩ := e3 _ (.int .i64 c) hb1
  rw [setBlock_twice] at r1
  obtain ⟨p1, p2⟩ := h.put x y hx hy c hc hn r2
  exact ⟨v0, st, _, _, e1, hlk.1, ((h.entry x y hx hy hn e1).look x y ox oy).1, r1, p1, p2⟩
end Go.Proofs.YtokmllopbfmadabDoor.Plans

namespace Go.Proofs.YtokmllopbfmadabDoor.Plans
open Go.RowKit Mem

/-- The slice v reads as these numbers. -/
def IntsAt (w : World) (v : Value) (l : List Nat) : Prop :=
  ∃ ao cap, v = .slice ao l.length cap ∧ l.length ≤ cap ∧ (l = [] ∨ ∃ g us, ao = some ⟨g, 0, none⟩ ∧ Blk w g 3 us ∧ ∀ k, (h : k < l.length) → us[k]? = some (.int .i64 (l[k] : Nat)))
theorem IntsAt.of_owns {w : World} {base : Nat} {v : Value} {l : List Nat} (h : w.ownsRow base 3 1 v l.length (intsV l)) : IntsAt w v l := by
  obtain ⟨hl, h2⟩ := h
  rcases h2 with ⟨rfl, h0⟩ | ⟨g, cap, cur, rfl, hg, hh, hcap, _, _, ht⟩
  · exact ⟨none, 0, by rw [h0], by omega, .inl (List.eq_nil_of_length_eq_zero h0)⟩
  · refine ⟨_, cap, rfl, hcap, .inr ⟨g, cur.toList, rfl, by unfold Blk; rw [hh], fun k hk => ?_⟩⟩
    rw [Nat.mul_one] at ht
    have : (cur.toList.take l.length)[k]? = some (.int .i64 (l[k] : Nat)) := by rw [ht]; simp [intsV, hk]
    rw [List.getElem?_take_of_lt hk] at this
    exact this
def stepCells (ss : List Stp) : List Value := ss.flatMap Stp.cells
theorem stepCells_add (a b : List Stp) : stepCells (a ++ b) = stepCells a ++ stepCells b := by simp [stepCells]
theorem flat_get (ss : List Stp) : ∀ (k r : Nat) (h : k < ss.length), r < 3 → (stepCells ss)[k * 3 + r]? = (ss[k].cells)[r]? := by
  induction ss with
  | nil => intro k r h; simp at h
  | cons e es ih =>
    intro k r h hr
    have hl : e.cells.length = 3 := rfl
    unfold stepCells at ih ⊢
    rw [List.flatMap_cons]
    cases k with
    | zero => rw [Nat.zero_mul, Nat.zero_add, List.getElem?_append_left (by omega)]; rfl
    | succ k =>
      rw [List.getElem?_append_right (by omega), show (k + 1) * 3 + r - e.cells.length = k * 3 + r by omega]
      exact ih k r (by simpa using h) hr
theorem StepsAt.of_owns {w : World} {base : Nat} {v : Value} {ss : List Stp} (h : w.ownsRow base 141 3 v ss.length (stepCells ss)) : StepsAt w v ss := by
  obtain ⟨hl, h2⟩ := h
  rcases h2 with ⟨rfl, h0⟩ | ⟨g, cap, cur, rfl, hg, hh, _, _, _, ht⟩
  · exact ⟨none, 0, by rw [h0], .inl (List.eq_nil_of_length_eq_zero h0)⟩
  · refine ⟨_, cap, rfl, .inr ⟨g, cur, rfl, hh, fun k hk r hr => ?_⟩⟩
    rw [← flat_get ss k r hk hr, ← ht, List.getElem?_take_of_lt (by omega)]
    simp
theorem own_but {w w' : World} {S base size n : Nat} {e t : TypeId} {v : Value} {xs us : List Value} (h : w.ownsRow base e size v n xs) (hb : But S w w') (hS : Blk w S t us) (ht : e ≠ t) : w'.ownsRow base e size v n xs := by
  obtain ⟨h1, h2⟩ := h
  refine ⟨h1, ?_⟩
  rcases h2 with h2 | ⟨g, cap, cur, hv, hg, hh, r⟩
  · exact Or.inl h2
  · exact Or.inr ⟨g, cap, cur, hv, hg, by rw [hb.rest g (Blk.type_ne (w := w) (vs := cur.toList) (by unfold Blk; rw [hh]) hS ht) (lt_of_block hh)]; exact hh, r⟩
theorem IntsAt.to {w w' : World} {u : Value} {l : List Nat} (hi : IntsAt w u l) (hb : Below w.heap.size w w') : IntsAt w' u l := by
  obtain ⟨ao, cap, rfl, hcap, hx⟩ := hi
  refine ⟨ao, cap, rfl, hcap, ?_⟩
  rcases hx with hx | ⟨g, us, rfl, h, hc⟩
  · exact .inl hx
  · exact .inr ⟨g, us, rfl, h.to hb, hc⟩
end Go.Proofs.YtokmllopbfmadabDoor.Plans

namespace Go.Proofs.YtokmllopbfmadabDoor.Plans
open Go.RowKit Mem

/-- How often x comes ahead of y, with y among the first k places. -/
def occTo (l : List Nat) : Nat → Nat → Nat → Nat
  | 0, _, _ => 0
  | k + 1, x, y => occTo l k x y + (if l.getD k 0 = y then (l.take k).count x else 0)
/-- The counts behind k places, and i more. -/
def cntF (f : Nat → Nat → Int) (by' : Int) (l : List Nat) (k i : Nat) : Nat → Nat → Int := fun x y => f x y + by' * ((occTo l k x y : Nat) : Int) + by' * (((if l.getD k 0 = y then (l.take i).count x else 0 : Nat)) : Int)
theorem occTo_le (l : List Nat) (x y : Nat) : ∀ k, occTo l k x y ≤ k * l.length
  | 0 => by simp [occTo]
  | k + 1 => by
    have := occTo_le l x y k
    have h2 : (if l.getD k 0 = y then (l.take k).count x else 0) ≤ l.length := by
      split
      · exact Nat.le_trans List.count_le_length (List.length_take_le' ..)
      · omega
    rw [occTo, Nat.add_mul, Nat.one_mul]; omega
theorem cntF_next (f : Nat → Nat → Int) (by' : Int) (l : List Nat) (k i : Nat) (hi : i < l.length) : ∀ x y, upd2 (cntF f by' l k i) l[i] (l.getD k 0) (cntF f by' l k i l[i] (l.getD k 0) + by') x y = cntF f by' l k (i + 1) x y := by
  intro x y
  unfold upd2 cntF
  have e : l.take (i + 1) = l.take i ++ [l[i]] := by rw [List.take_add_one, List.getElem?_eq_getElem hi]; rfl
  rw [e]
  simp only [List.count_append, List.count_singleton]
  by_cases h : x = l[i] ∧ y = l.getD k 0
  · rw [if_pos h, h.1, h.2]; simp; rw [Int.mul_add, Int.mul_one]; omega
  · rw [if_neg h]
    by_cases hy : l.getD k 0 = y
    · rw [if_pos hy, if_pos hy]
      have : (l[i] == x) = false := by simp; exact fun e => h ⟨e.symm, hy.symm⟩
      rw [this]; simp
    · rw [if_neg hy, if_neg hy]
theorem cntF_round (f : Nat → Nat → Int) (by' : Int) (l : List Nat) (k : Nat) : ∀ x y, cntF f by' l k k x y = cntF f by' l (k + 1) 0 x y := by
  intro x y
  unfold cntF
  rw [occTo]
  simp only [List.take_zero, List.count_nil, ite_self]
  simp [Int.mul_add, Int.add_assoc]
theorem cntF_zero (f : Nat → Nat → Int) (by' : Int) (l : List Nat) : ∀ x y, f x y = cntF f by' l 0 0 x y := by
  intro x y; simp [cntF, occTo]
theorem cntF_le (f : Nat → Nat → Int) (by' : Int) (l : List Nat) (k i : Nat) (hb : by' = 1 ∨ by' = -1) (hf : ∀ x y, -1000000 ≤ f x y ∧ f x y ≤ 1000000) (hl : l.length ≤ 1000) (hk : k ≤ l.length) : ∀ x y, -3000000 ≤ cntF f by' l k i x y ∧ cntF f by' l k i x y ≤ 3000000 := by
  intro x y
  have h1 := occTo_le l x y k
  have h3 : k * l.length ≤ 1000 * 1000 := Nat.mul_le_mul (by omega) hl
  have h2 : (if l.getD k 0 = y then (l.take i).count x else 0) ≤ l.length := by
    split
    · exact Nat.le_trans List.count_le_length (List.length_take_le' ..)
    · omega
  have h4 := hf x y
  unfold cntF
  generalize occTo l k x y = A at *
  generalize (if l.getD k 0 = y then (l.take i).count x else 0) = B at *
  rcases hb with rfl | rfl <;> constructor <;> omega
theorem PM.ints {w w' : World} {b n : Nat} {f : Nat → Nat → Int} {v : Value} {l : List Nat} (h : PM w b n f) (hb : But b w w') (hi : IntsAt w v l) : IntsAt w' v l := by
  obtain ⟨ao, cap, rfl, hcap, hx⟩ := hi
  refine ⟨ao, cap, rfl, hcap, ?_⟩
  rcases hx with hx | ⟨g, us, rfl, hg, hc⟩
  · exact .inl hx
  · exact .inr ⟨g, us, rfl, hb.blk hg (h.ne hg), hc⟩
theorem grown_but {w w' : World} {b : Nat} (h : w.grownBy w' (some b)) : But b w w' := ⟨h.os, h.tape, h.output, h.size, fun i hi hlt => h.block i hlt (by simpa using hi)⟩

set_option maxRecDepth 100000 in
set_option maxHeartbeats 1000000 in
theorem count_any (l : List Nat) (by' : Int) (f : Nat → Nat → Int) (M n : Nat) (lv sv : Value) (w : World) (hs : IntsAt w sv l) (hM : PM w M n f) (hb : by' = 1 ∨ by' = -1) (hf : ∀ x y, -1000000 ≤ f x y ∧ f x y ≤ 1000000) (hl : l.length ≤ 1000) (hx : ∀ x, x ∈ l → x < 1000000) (hn : n ≤ 1000000000) :
    Calls Tryd.prog 91 #[.agg #[lv, .map (some M)], sv, .int .i64 by'] w fun e w' => e = .returned (.tuple #[]) ∧ PM w' M (n + l.length * l.length) (cntF f by' l l.length 0) ∧ But M w w' := by
  obtain ⟨ao, cap, rfl, hcap, hx0⟩ := hs
  have hMlt := hM.lt
  have HM : Hid (PM w M n f) := hM
  clear hM
  go_enter Tryd.func91, Tryd.ntmps91
  go_wp2
  have HX0 : Hid (l = [] ∨ ∃ g us, ao = some ⟨g, 0, none⟩ ∧ Blk w g 3 us ∧ ∀ k, (h : k < l.length) → us[k]? = some (.int .i64 (l[k] : Nat))) := hx0
  clear hx0
  go_loopw [12] (fun kv wr => ∃ k : Nat, k ≤ l.length ∧ kv = .int .i64 k ∧ PM wr M (n + k * l.length) (cntF f by' l k 0) ∧ Blk wr w.heap.size 138 [lv, .map (some M)] ∧ But M w wr) (fun kv _ => l.length - (intOf kv).toNat)
  case atStart =>
    refine ⟨0, Nat.zero_le _, rfl, ?_, Blk.new w _ _, (But.refl _ _).alloc _⟩
    rw [Nat.zero_mul, Nat.add_zero]
    exact (HM.out.alloc _).eq (cntF_zero f by' l)
  case round =>
    obtain ⟨k, hk, rfl, hpm, hbox, hbut⟩ := hrel
    by_cases hlt : k < l.length
    · obtain ⟨g, us, rfl, hg, hus⟩ : ∃ g us, ao = some ⟨g, 0, none⟩ ∧ Blk w g 3 us ∧ ∀ k, (h : k < l.length) → us[k]? = some (.int .i64 (l[k] : Nat)) := by
        rcases HX0.out with h | h
        · rw [h] at hlt; simp at hlt
        · exact h
      have hgM := HM.out.ne hg
      have hg1 := hbut.blk hg hgM
      have hck := hg1.cell_some (hus k hlt)
      have HG : Hid (Blk w g 3 us) := hg
      have HUS : Hid (∀ k, (h : k < l.length) → us[k]? = some (.int .i64 (l[k] : Nat))) := hus
      have HBOX : Hid (Blk wr w.heap.size 138 [lv, .map (some M)]) := hbox
      have HPM : Hid (PM wr M (n + k * l.length) (cntF f by' l k 0)) := hpm
      have HBUT : Hid (But M w wr) := hbut
      clear hg hg1 hus hpm hbut hbox
      have q1 : (k : Int) ≤ (cap : Int) := by omega
      have q2 : ¬ cap = 0 := by omega
      have hxk : l[k] < 1000000 := hx _ (List.getElem_mem hlt)
      have HGD : Hid (l.getD k 0 = l[k]) := by show _ = _; simp [hlt]
      generalize l[k] = y at hck hxk HGD
      obtain ⟨n1, hn1⟩ : ∃ n1, n1 = n + k * l.length := ⟨_, rfl⟩
      rw [← hn1] at HPM
      have hn1' : n1 ≤ 1001000000 := by
        have : k * l.length ≤ 1000 * 1000 := Nat.mul_le_mul (by omega) hl
        omega
      have HN1 : Hid (n1 = n + k * l.length) := hn1
      clear hn1
      go_wp2
      clear hck
      obtain ⟨wo, rfl⟩ : ∃ wo, wo = wr := ⟨_, rfl⟩
      go_loopw [21] (fun iv wq => ∃ i : Nat, i ≤ k ∧ iv = .int .i64 i ∧ PM wq M (n1 + i) (cntF f by' l k i) ∧ Blk wq w.heap.size 138 [lv, .map (some M)] ∧ But M w wq) (fun iv _ => k - (intOf iv).toNat)
      case atStart => exact ⟨0, Nat.zero_le _, rfl, HPM.out, HBOX.out, HBUT.out⟩
      case round =>
        clear HPM HBOX HBUT
        obtain ⟨i, hi, rfl, hpm, hbox, hbut⟩ := hrel
        by_cases hilt : i < k
        · have hil : i < l.length := by omega
          have hg1 := hbut.blk HG.out hgM
          have hci := hg1.cell_some (HUS.out i hil)
          have hxi : l[i] < 1000000 := hx _ (List.getElem_mem hil)
          have HNX : Hid (∀ x' y', upd2 (cntF f by' l k i) l[i] (l.getD k 0) (cntF f by' l k i l[i] (l.getD k 0) + by') x' y' = cntF f by' l k (i + 1) x' y') := cntF_next f by' l k i hil
          have hle := cntF_le f by' l k i hb hf hl (by omega) l[i] (l.getD k 0)
          rw [HGD.out] at HNX hle
          have hb0 := hbox.cell_some (k := 0) (v := lv) rfl
          have hb1 := hbox.cell_some (k := 1) (v := .map (some M)) rfl
          generalize l[i] = x at hci hxi HNX hle
          obtain ⟨c, hc⟩ : ∃ c, c = cntF f by' l k i x y := ⟨_, rfl⟩
          rw [← hc] at HNX hle
          have hby : IntKind.i64.wrap (c + by') = c + by' := by rw [IntKind.wrap_i64]; rcases hb with rfl | rfl <;> omega
          have hok : okI (c + by') := by
            have h1 : IntKind.i64.min = -9223372036854775808 := rfl
            have h2 : IntKind.i64.max = 9223372036854775807 := rfl
            unfold okI; simp [Lit.wf, h1, h2]; rcases hb with rfl | rfl <;> omega
          obtain ⟨v0, st, w1, w2, r1, r2, r3, r4, r5, r6⟩ := (PM.drew hpm).step x y hxi hxk (c + by') hok (by unfold maxLen; omega)
          rw [← hc] at r2 r3
          have HP2 : Hid (PM w2 M (n1 + i + 1) (cntF f by' l k (i + 1))) := r5.eq HNX.out
          have HB2 : Hid (But M w w2) := hbut.drew.trans (grown_but r6)
          have HX2 : Hid (Blk w2 w.heap.size 138 [lv, .map (some M)]) := (grown_but r6).blk hbox ((PM.drew hpm).ne (by exact hbox))
          simp only [kv, goInt] at r1 r2 r3 r4
          clear r5 r6 hg1 HNX hle hok hpm hbox hc
          go_wp2
          go_region
          go_wp2
          go_roundw
          case rel => exact ⟨i + 1, by omega, by go_num, HP2.out, HX2.out, HB2.out⟩
          case measure => simp [intOf]; omega
        · obtain rfl : i = k := by omega
          have HP3 : Hid (PM wr M (n + (i + 1) * l.length) (cntF f by' l (i + 1) 0)) := by
            have e := HN1.out
            refine (hpm.mono ?_).eq (cntF_round f by' l i)
            rw [e, Nat.add_mul, Nat.one_mul]; omega
          have HX3 : Hid (Blk wr w.heap.size 138 [lv, .map (some M)]) := hbox
          have HB3 : Hid (But M w wr) := hbut
          clear hpm hbox hbut
          go_wp2
          go_roundw
          case rel => exact ⟨i + 1, by omega, by go_num, HP3.out, HX3.out, HB3.out⟩
          case measure => simp [intOf]; omega
    · obtain rfl : k = l.length := by omega
      go_wp2
      go_end0
      exact ⟨rfl, hpm, hbut⟩
end Go.Proofs.YtokmllopbfmadabDoor.Plans

namespace Go.Proofs.YtokmllopbfmadabDoor.Plans
open Go.RowKit Mem

/-- Does the list have this pair? -/
def one (l : List Nat) (x y : Nat) : Nat := if x < y ∧ x ∈ l ∧ y ∈ l then 1 else 0
theorem count_rising {l : List Nat} (hp : l.Pairwise (· < ·)) (x : Nat) : l.count x = if x ∈ l then 1 else 0 := by
  by_cases h : x ∈ l
  · rw [if_pos h]
    have hn : l.Nodup := hp.imp (fun h => by omega)
    have h1 := List.nodup_iff_count.1 hn x
    have h2 := List.count_pos_iff.2 h
    omega
  · rw [if_neg h, List.count_eq_zero_of_not_mem h]
theorem occ_to {l : List Nat} (hp : l.Pairwise (· < ·)) (x y : Nat) : ∀ k, k ≤ l.length → occTo l k x y = one (l.take k) x y
  | 0, _ => by simp [occTo, one]
  | k + 1, hk => by
    have hlt : k < l.length := by omega
    have ih := occ_to hp x y k (by omega)
    have e : l.take (k + 1) = l.take k ++ [l[k]] := by rw [List.take_add_one, List.getElem?_eq_getElem hlt]; rfl
    have hgt : ∀ z, z ∈ l.take k → z < l[k] := by
      intro z hz
      have h2 := hp.sublist (List.take_sublist (k + 1) l)
      rw [e, List.pairwise_append] at h2
      exact h2.2.2 z hz l[k] (by simp)
    have hgd : l.getD k 0 = l[k] := by simp [hlt]
    rw [occTo, ih, hgd, count_rising (hp.sublist (List.take_sublist k l)), e]
    generalize l[k] = z at hgt
    generalize l.take k = t at hgt
    unfold one
    simp only [List.mem_append, List.mem_singleton]
    by_cases hzy : z = y
    · subst hzy
      have hn : ¬ z ∈ t := fun h => by have := hgt z h; omega
      by_cases hx : x ∈ t
      · have := hgt x hx
        simp [hx, hn, this]
      · by_cases hxz : x = z
        · subst hxz; simp [hn]
        · simp [hx, hn, hxz]
    · rw [if_neg hzy]
      have hyz : ¬ y = z := fun h => hzy h.symm
      by_cases hy : y ∈ t
      · have := hgt y hy
        by_cases hxz : x = z
        · subst hxz
          have : ¬ x < y := by omega
          simp [this]
        · simp [hy, hyz, hxz]
      · simp [hy, hyz]
theorem occ_rising {l : List Nat} (hp : l.Pairwise (· < ·)) (x y : Nat) : occTo l l.length x y = one l x y := by
  have := occ_to hp x y l.length (Nat.le_refl _)
  rwa [List.take_length] at this
theorem cnt_cons (l : List Nat) (L : List (List Nat)) (x y : Nat) : cnt (l :: L) x y = cnt L x y + one l x y := by
  unfold cnt one
  by_cases h : x < y
  · simp only [h, if_true, true_and]
    rw [List.countP_cons]
    simp only [both_iff]
  · simp [h]
theorem cnt_set : ∀ (L : List (List Nat)) (i : Nat) (l' : List Nat) (x y : Nat), i < L.length → cnt (L.set i l') x y + one (L.getD i []) x y = cnt L x y + one l' x y
  | [], i, l', x, y, h => by simp at h
  | l :: L, 0, l', x, y, h => by simp only [List.set_cons_zero, List.getD_cons_zero]; rw [cnt_cons, cnt_cons]; omega
  | l :: L, i + 1, l', x, y, h => by
    have := cnt_set L i l' x y (by simpa using h)
    simp only [List.set_cons_succ, List.getD_cons_succ]; rw [cnt_cons, cnt_cons]; omega
theorem cnt_le (L : List (List Nat)) (x y : Nat) : cnt L x y ≤ L.length := by
  unfold cnt; split
  · exact List.countP_le_length
  · omega
def cntI (L : List (List Nat)) : Nat → Nat → Int := fun x y => (cnt L x y : Nat)
theorem cntI_le (L : List (List Nat)) (h : L.length ≤ 1000) : ∀ x y, -1000000 ≤ cntI L x y ∧ cntI L x y ≤ 1000000 := by
  intro x y; have := cnt_le L x y; unfold cntI; omega
/-- One list more, one list less. -/
theorem count_set (L : List (List Nat)) (i : Nat) (l' : List Nat) (hi : i < L.length) (h0 : L.getD i [] = []) (hp : l'.Pairwise (· < ·)) : ∀ x y, cntF (cntI L) 1 l' l'.length 0 x y = cntI (L.set i l') x y := by
  intro x y
  have := cnt_set L i l' x y hi
  rw [h0] at this
  have e : one [] x y = 0 := by simp [one]
  unfold cntF cntI
  rw [occ_rising hp]
  simp only [List.take_zero, List.count_nil, ite_self]
  omega
theorem count_set2 (L : List (List Nat)) (i : Nat) (l' : List Nat) (hi : i < L.length) (hp0 : (L.getD i []).Pairwise (· < ·)) (hp : l'.Pairwise (· < ·)) : ∀ x y, cntF (cntF (cntI L) (-1) (L.getD i []) (L.getD i []).length 0) 1 l' l'.length 0 x y = cntI (L.set i l') x y := by
  intro x y
  have := cnt_set L i l' x y hi
  unfold cntF cntI
  rw [occ_rising hp, occ_rising hp0]
  simp only [List.take_zero, List.count_nil, ite_self]
  omega
/-- The lists of a piece in memory: block B holds their slices, each has a row of its own. -/
def LS (w : World) (B base : Nat) (L : List (List Nat)) : Prop :=
  ∃ vs : List Value, vs.length = L.length ∧ Blk w B 32 vs ∧ (∀ i v, vs[i]? = some v → w.ownsRow base 3 1 v (L.getD i []).length (intsV (L.getD i []))) ∧
    ∀ (i j : Nat) (vi vj : Value), i ≠ j → vs[i]? = some vi → vs[j]? = some vj → ∀ g, vi.ownBlock = some g → vj.ownBlock ≠ some g
/-- A row that is owned stays, where its block does. -/
theorem own_keep {w w' : World} {base n : Nat} {v : Value} {xs : List Value} (h : w.ownsRow base 3 1 v n xs) (hk : ∀ g us, v.ownBlock = some g → Blk w g 3 us → w'.heap[g]? = w.heap[g]?) : w'.ownsRow base 3 1 v n xs := by
  obtain ⟨h1, h2⟩ := h
  refine ⟨h1, ?_⟩
  rcases h2 with h2 | ⟨g, cap, cur, rfl, hg, hh, r⟩
  · exact .inl h2
  · exact .inr ⟨g, cap, cur, rfl, hg, by rw [hk g cur.toList rfl (by unfold Blk; rw [hh])]; exact hh, r⟩
theorem LS.keep {w w' : World} {B base : Nat} {L : List (List Nat)} (h : LS w B base L) (hB : w'.heap[B]? = w.heap[B]?) (hk : ∀ g us, Blk w g 3 us → w'.heap[g]? = w.heap[g]?) : LS w' B base L := by
  obtain ⟨vs, h1, h2, h3, h4⟩ := h
  exact ⟨vs, h1, by unfold Blk; rw [hB]; exact h2, fun i v hv => own_keep (h3 i v hv) (fun g us _ hg => hk g us hg), h4⟩
theorem LS.lt {w : World} {B base : Nat} {L : List (List Nat)} (h : LS w B base L) : B < w.heap.size := by
  obtain ⟨vs, h1, h2, _⟩ := h; exact h2.lt
theorem LS.to {w w' : World} {B base : Nat} {L : List (List Nat)} (h : LS w B base L) (hb : Below w.heap.size w w') : LS w' B base L :=
  h.keep (hb.block B h.lt) (fun g _ hg => hb.block g hg.lt)
theorem LS.map {w w' : World} {B base M n : Nat} {f : Nat → Nat → Int} {L : List (List Nat)} (h : LS w B base L) (hM : PM w M n f) (hb : But M w w') : LS w' B base L := by
  have hB : B ≠ M := by obtain ⟨vs, _, h2, _⟩ := h; exact hM.ne h2
  exact h.keep (hb.rest B hB h.lt) (fun g _ hg => hb.rest g (hM.ne hg) hg.lt)
/-- The slice of one list. -/
theorem LS.at {w : World} {B base : Nat} {L : List (List Nat)} (h : LS w B base L) {i : Nat} (hi : i < L.length) : ∃ v, w.cell? ⟨B, i, none⟩ = some v ∧ w.ownsRow base 3 1 v (L.getD i []).length (intsV (L.getD i [])) := by
  obtain ⟨vs, h1, h2, h3, h4⟩ := h
  have hv : vs[i]? = some (vs[i]'(by omega)) := List.getElem?_eq_getElem (by omega)
  exact ⟨_, h2.cell_some hv, h3 i _ hv⟩
theorem LS.free {w : World} {B base : Nat} {L : List (List Nat)} (h : LS w B base L) (i : Nat) : w.frozen? ⟨B, i, none⟩ = false := by
  obtain ⟨vs, h1, h2, h3, h4⟩ := h; exact h2.free i
theorem own_base {w : World} {base base' n : Nat} {v : Value} {xs : List Value} (h : w.ownsRow base 3 1 v n xs) (hb : base' ≤ base) : w.ownsRow base' 3 1 v n xs := by
  obtain ⟨h1, h2⟩ := h
  refine ⟨h1, ?_⟩
  rcases h2 with h2 | ⟨g, cap, cur, rfl, hg, r⟩
  · exact .inl h2
  · exact .inr ⟨g, cap, cur, rfl, by omega, r⟩
theorem own_block {w : World} {base n : Nat} {v : Value} {xs : List Value} (h : w.ownsRow base 3 1 v n xs) : ∀ g, v.ownBlock = some g → base ≤ g := by
  intro g hv
  rcases h.2 with ⟨rfl, _⟩ | ⟨g', cap, cur, rfl, hg, r⟩
  · cases hv
  · obtain rfl := Option.some.inj hv; exact hg
/-- One list is written anew: its row is its own, or a new one. -/
theorem LS.put {w w1 : World} {B base i : Nat} {L : List (List Nat)} {v v' : Value} {l' : List Nat} (h : LS w B base L) (hi : i < L.length) (hv : w.cell? ⟨B, i, none⟩ = some v)
    (hB : w1.heap[B]? = w.heap[B]?) (hrest : ∀ g us, Blk w g 3 us → v.ownBlock ≠ some g → w1.heap[g]? = w.heap[g]?) (hown : w1.ownsRow base 3 1 v' l'.length (intsV l'))
    (hblk : ∀ g, v'.ownBlock = some g → v.ownBlock = some g ∨ w.heap.size ≤ g) : LS (w1.setCell ⟨B, i, none⟩ v') B base (L.set i l') := by
  obtain ⟨vs, h1, h2, h3, h4⟩ := h
  have hvi : vs[i]? = some (vs[i]'(by omega)) := List.getElem?_eq_getElem (by omega)
  have e : v = vs[i]'(by omega) := by
    have := h2.cell_some hvi
    rw [hv] at this; exact Option.some.inj this
  have h21 : Blk w1 B 32 vs := by unfold Blk; rw [hB]; exact h2
  have hne : ∀ g us, Blk w1 g 3 us → g ≠ B := fun g us hg => hg.type_ne h21 (by decide)
  have hkeep : ∀ (vx : Value) (n : Nat) (xs : List Value), w1.ownsRow base 3 1 vx n xs → (w1.setCell ⟨B, i, none⟩ v').ownsRow base 3 1 vx n xs := fun vx n xs ho => own_keep ho (fun g us _ hg => Below.heap_setCell w1 _ v' g (hne g us hg))
  refine ⟨vs.set i v', by simp [h1], h21.set i v', fun j u hu => ?_, fun j k vj vk hjk hj hk g hg => ?_⟩
  · by_cases ej : i = j
    · subst ej
      rw [List.getElem?_set_self (by omega)] at hu
      obtain rfl := Option.some.inj hu
      have e2 : (L.set i l').getD i [] = l' := by simp [List.getD_eq_getElem?_getD, hi]
      rw [e2]
      exact hkeep _ _ _ hown
    · rw [List.getElem?_set_ne ej] at hu
      have e2 : (L.set i l').getD j [] = L.getD j [] := by simp [List.getD_eq_getElem?_getD, ej]
      rw [e2]
      refine hkeep _ _ _ (own_keep (h3 j u hu) (fun g us hug hg => hrest g us hg ?_))
      intro hvg
      exact h4 i j v u ej (by rw [e]; exact hvi) hu g hvg hug
  · have hold : ∀ (k : Nat) (u : Value) (g : Nat), vs[k]? = some u → u.ownBlock = some g → g < w.heap.size := fun k u g hu hg => by
      have := h3 k u hu
      rcases this.2 with ⟨rfl, _⟩ | ⟨g', cap, cur, rfl, _, hh, _⟩
      · cases hg
      · obtain rfl := Option.some.inj hg; exact lt_of_block hh
    by_cases ej : i = j
    · subst ej
      rw [List.getElem?_set_self (by omega)] at hj
      obtain rfl := Option.some.inj hj
      rw [List.getElem?_set_ne (by omega)] at hk
      intro hkg
      rcases hblk g hg with h | h
      · exact h4 i k v vk hjk (by rw [e]; exact hvi) hk g h hkg
      · have := hold k vk g hk hkg; omega
    · rw [List.getElem?_set_ne ej] at hj
      by_cases ek : i = k
      · subst ek
        rw [List.getElem?_set_self (by omega)] at hk
        obtain rfl := Option.some.inj hk
        intro hkg
        rcases hblk g hkg with h | h
        · exact h4 j i vj v (by omega) hj (by rw [e]; exact hvi) g hg h
        · have := hold j vj g hj hg; omega
      · rw [List.getElem?_set_ne ek] at hk
        exact h4 j k vj vk hjk hj hk g hg
theorem LS.made (w : World) (B base m : Nat) (h : Blk w B 32 (List.replicate m (.slice none 0 0))) : LS w B base (List.replicate m []) := by
  refine ⟨_, by simp, h, fun i v hv => ?_, fun i j vi vj _ hi _ g hg => ?_⟩
  · have hlt : i < m := by have := (List.getElem?_eq_some_iff.1 hv).1; simpa using this
    rw [List.getElem?_replicate, if_pos hlt] at hv
    obtain rfl := Option.some.inj hv
    have e : (List.replicate m ([] : List Nat)).getD i [] = [] := by simp [List.getD_eq_getElem?_getD, hlt]
    rw [e]; exact World.ownsRow_nil _ _ _ _
  · have hlt : i < m := by have := (List.getElem?_eq_some_iff.1 hi).1; simpa using this
    rw [List.getElem?_replicate, if_pos hlt] at hi
    obtain rfl := Option.some.inj hi
    cases hg
end Go.Proofs.YtokmllopbfmadabDoor.Plans
