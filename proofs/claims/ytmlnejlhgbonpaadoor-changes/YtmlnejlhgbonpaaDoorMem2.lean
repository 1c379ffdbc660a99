/- More on blocks of memory. -/
import Derived.Test.YtmlnejlhgbonpaaDoorMem
namespace Go.Proofs.YtmlnejlhgbonpaaDoor.Mem
open Go.RowKit
theorem Laid.again {w W W' : World} {B i : Nat} {u v : Value} {t : TypeId} {us : List Value} (h : Laid w W B i u) (hb : Below w.heap.size W W') (hB : Blk w B t us) : Laid w (W'.setCell ⟨B, i, none⟩ v) B i v := by
  have hlt := hB.lt
  refine ⟨by have := hb.size; have := h.size; simp [World.setCell]; omega, fun b h1 h2 => ?_, ?_⟩
  · rw [Below.heap_setCell _ _ _ _ h1, hb.block b h2]; exact h.rest b h1 h2
  · have e : W'.heap[B]? = some (.cells ((us.set i u)).toArray t (0, 0)) := by
      rw [hb.block B hlt, h.row]; exact hB.set i u
    have e1 : Blk (W'.setCell ⟨B, i, none⟩ v) B t ((us.set i u).set i v) := Blk.set (w := W') e i v
    have e2 : Blk (w.setCell ⟨B, i, none⟩ v) B t (us.set i v) := hB.set i v
    rw [List.set_set] at e1
    exact e1.trans e2.symm
/-- The same as one step of a region that draws its order. -/
theorem step_append_one {P : Program} {w : World} {ops : Array Oper} {o : Oper} {a : Act} {K : Act → World → Prop} {Q : Exit → Act → World → Prop} {E : Prop}
    (hgd : o.guard = none) (s x : Operand) (t : TypeId) (hop : o.op = Op.call { callee := Callee.builtin Builtin.append, args := #[s, x], argTypes := #[t, t] })
    (base : Nat) (e : TypeId) (z : Value) (bytes : Nat) (ht : P.underlying t = some (.slice e)) (hinfo : (P.info? e).map (fun i => (i.zero, i.size, i.bytes)) = some (some z, 1, bytes)) (hz : z.cells.size = 1) (hby : bytes ≤ 1000)
    (v : Value) (n : Nat) (xs : List Value) (hs : a.eval s = v) (hown : w.ownsRow base e 1 v n xs) (ad : Addr) (c : Nat) (u : Value) (hx : a.eval x = .slice (some ad) 1 c) (hu : w.cell? ad = some u) (h1 : u.oneCell' = true) (hn : n ≤ 100000) (hbase : base ≤ w.heap.size)
    (hK : ∀ v' w', w'.ownsRow base e 1 v' (n + 1) (xs ++ [u]) → (∀ B a, Below B a w → B ≤ base → Below B a w') → K (a.put o.dst v') w') :
    if Region.wanted o (yielded ops a.tmps) = true then Oper.wp P o a w K Q else E := by
  have hw : Region.wanted o (yielded ops a.tmps) = true := by simp [Region.wanted, hgd]
  rw [if_pos hw]
  obtain ⟨i0, hi, hz0, hz1, hz2⟩ := info_parts hinfo
  obtain ⟨v', w', hrun, ho, hg, _⟩ := run_append_own (P := P) w base t o.type e i0 z 1 bytes ht hi hz0 hz1 hz2 hz (by decide) v n xs hown ad 1 c [u] rfl (fun j y hy => by
    match j, hy with
    | 0, hy => simp at hy; subst hy; rw [Addr.add_zero']; exact hu
    | j + 1, hy => simp at hy) (fun y hy => by simp at hy; subst hy; exact h1) (by unfold maxLen; omega) (by
    have : (n + 1) * bytes ≤ 100001 * 1000 := Nat.mul_le_mul (by omega) hby
    omega) hbase
  unfold Oper.wp
  simp [execOp, hop, resolve, invoke, builtin, hs, hx, hrun, Result.andThen]
  exact hK v' w' ho (fun B b hb hB => below_grown hb hown hg (Nat.le_trans hB hbase) hB)
theorem ownsRow_laid {w W : World} {B i : Nat} {u : Value} {us : List Value} {tB : TypeId} {base : Nat} {e : TypeId} {v : Value} {n : Nat} {xs : List Value} (h : w.ownsRow base e 1 v n xs) (hl : Laid w W B i u) (hB : Blk w B tB us) (ht : e ≠ tB) : W.ownsRow base e 1 v n xs := by
  obtain ⟨h1, h2⟩ := h
  refine ⟨h1, ?_⟩
  rcases h2 with h2 | ⟨g, cap, cur, hv, hg, hh, r⟩
  · exact Or.inl h2
  · have hne : g ≠ B := Blk.type_ne (w := w) (vs := cur.toList) (by unfold Blk; rw [hh]) hB ht
    exact Or.inr ⟨g, cap, cur, hv, hg, by rw [hl.rest g hne (lt_of_block hh)]; exact hh, r⟩
theorem BsAt.of_owns {w : World} {base : Nat} {t : TypeId} {v : Value} {l : List Nat} (h : w.ownsRow base t 1 v l.length (bytesV l)) : BsAt w v l := by
  obtain ⟨hl, h2⟩ := h
  rcases h2 with ⟨rfl, h0⟩ | ⟨g, cap, cur, rfl, hg, hh, _, _, _, ht⟩
  · exact ⟨none, 0, by rw [h0], .inl (List.eq_nil_of_length_eq_zero h0)⟩
  · refine ⟨_, cap, rfl, .inr ⟨g, 0, rfl, lt_of_block hh, fun k hk => ?_⟩⟩
    rw [Nat.zero_add, cell_of_row w g k cur t (0, 0) hh]
    rw [Nat.mul_one] at ht
    have : (cur.toList.take l.length)[k]? = some (.int .u8 (l[k] : Nat)) := by rw [ht]; exact bytesV_at hk
    rw [List.getElem?_take_of_lt hk] at this
    simpa using this
end Go.Proofs.YtmlnejlhgbonpaaDoor.Mem
