/- The book while a list is being written into it. -/
import Derived.Test.YtmlnejlhgbonpaaDoorBookMem
import Derived.ArgAppend
namespace Go.Proofs.YtmlnejlhgbonpaaDoor.Book
open Go.RowKit Mem FieldWalks Tab ByTab Parts

/-- The book with its number raised and its lists as they were. -/
structure St (w0 w : World) (B b c lb : Nat) (kv : Value) (es : List Ent) : Prop where
  low : B ≤ b
  high : B ≤ lb
  blk : Blk w b 37 [.int .i64 (c + 1 : Nat), kv]
  own : w.ownsRow B 82 5 kv (4 * c) (es.flatMap Ent.cells)
  ok : ∀ e, e ∈ es → e.ok w lb
  below : Below B w0 w
theorem St.to {w0 w w' : World} {B b c lb : Nat} {kv : Value} {es : List Ent} (h : St w0 w B b c lb kv es) (hb : Below w.heap.size w w') : St w0 w' B b c lb kv es :=
  ⟨h.low, h.high, h.blk.to hb, ownsRow_to h.own hb, fun e he => by
    obtain ⟨h1, h2, h3, h4⟩ := h.ok e he
    exact ⟨h1, h2, h3, h4.keep fun g cur _ hg => hb.block g (lt_of_block hg)⟩, h.below.trans (hb.mono (by have := h.blk.lt; have := h.low; omega))⟩
theorem St.set {w0 w : World} {B b c lb : Nat} {kv : Value} {es : List Ent} {us : List Value} (h : St w0 w B b c lb kv es) (hl : Blk w lb 9 us) (k : Nat) (v : Value) : St w0 (w.setCell ⟨lb, k, none⟩ v) B b c lb kv es := by
  refine ⟨h.low, h.high, h.blk.other (h.blk.type_ne hl (by decide)) _, ownsRow_kept h.own fun g cur hg => ?_, fun e he => ?_, h.below.setCell h.high _⟩
  · exact Below.heap_setCell _ _ _ _ (Blk.type_ne (w := w) (vs := cur.toList) (by unfold Blk; rw [hg]) hl (by decide))
  · obtain ⟨h1, h2, h3, h4⟩ := h.ok e he
    exact ⟨h1, h2, h3, h4.keep fun g cur hlt _ => Below.heap_setCell _ _ _ _ (show g ≠ lb by omega)⟩
theorem St.start {w : World} {B b c lb : Nat} {kv : Value} {es : List Ent} (hB : B ≤ b) (hlb : B ≤ lb) (hblk : Blk w b 37 [.int .i64 c, kv]) (hown : w.ownsRow B 82 5 kv (4 * c) (es.flatMap Ent.cells)) (hes : ∀ e, e ∈ es → e.ok w lb) :
    St w (w.setCell ⟨b, 0, none⟩ (.int .i64 ((c : Int) + 1))) B b c lb kv es := by
  refine ⟨hB, hlb, ?_, ownsRow_kept hown fun g cur hg => ?_, fun e he => ?_, (Below.refl _ _).setCell hB _⟩
  · have := hblk.set 0 (.int .i64 ((c : Int) + 1))
    simpa using this
  · exact Below.heap_setCell _ _ _ _ (Blk.type_ne (w := w) (vs := cur.toList) (by unfold Blk; rw [hg]) hblk (by decide))
  · obtain ⟨h1, h2, h3, h4⟩ := hes e he
    exact ⟨h1, h2, h3, h4.keep fun g cur _ hg => Below.heap_setCell _ _ _ _ (Blk.type_ne (w := w) (b := g) (t := 9) (vs := cur.toList) (by unfold Blk; rw [hg]) hblk (by decide))⟩

theorem StrsIn.of_owns {w : World} {base : Nat} {v : Value} {n : Nat} {ss : List ByteArray} (h : w.ownsRow base 9 1 v n (ss.map Value.string)) : StrsIn w w.heap.size v ss := by
  obtain ⟨hl, h2⟩ := h
  simp only [List.length_map, Nat.mul_one] at hl
  rcases h2 with ⟨rfl, h0⟩ | ⟨g, cap, cur, rfl, hg, hh, _, _, _, ht⟩
  · exact ⟨none, 0, by rw [hl, h0], .inl (List.eq_nil_of_length_eq_zero (by omega))⟩
  · refine ⟨_, cap, by rw [hl], .inr ⟨g, 0, cur, rfl, lt_of_block hh, hh, fun k hk => ?_⟩⟩
    rw [Nat.zero_add]
    rw [Nat.mul_one] at ht
    have : (cur.toList.take n)[k]? = some (.string ss[k]) := by rw [ht]; simp [hk]
    rw [List.getElem?_take_of_lt (by omega)] at this
    simpa using this
theorem StrsIn.of_blk {w : World} {lb : Nat} {ss : List ByteArray} (h : Blk w lb 9 (ss.map Value.string)) (n : Nat) (hn : ss.length = n) : StrsIn w w.heap.size (.slice (some ⟨lb, 0, none⟩) n n) ss := by
  subst hn
  exact ⟨_, _, rfl, .inr ⟨lb, 0, _, rfl, h.lt, h, fun k hk => by simp [hk]⟩⟩

/-- append of marks onto a list that is full of them: a new list. -/
theorem wpList_append_marks {P : Program} (w : World) {ops : Array Oper} {rest : List Oper} {o : Oper} {a : Act} {Q : Exit → Act → World → Prop}
    (hgd : o.guard = none) (s x : Operand) (t : TypeId) (hop : o.op = Op.call { callee := Callee.builtin Builtin.append, args := #[s, x], argTypes := #[t, t] })
    (ht : P.underlying t = some (.slice 9)) (hinfo : (P.info? 9).map (fun i => (i.zero, i.size, i.bytes)) = some (some (.string ByteArray.empty), 1, 16))
    (ao : Option Addr) (n m : Nat) (q : ByteArray) (hs : a.eval s = .slice ao n n) (hn : n ≤ 1000) (hm : 0 < m) (hm2 : m ≤ 10)
    (hnone : ao = none → n = 0) (holds : ∀ b, ao = some b → ∀ j, j < n → w.cell? (b.add j) = some (.string q))
    (ad : Addr) (c : Nat) (hx : a.eval x = .slice (some ad) m c) (hc : ∀ j, j < m → w.cell? (ad.add j) = some (.string q))
    (hK : ∀ ao' c' w', StrsIn w' w'.heap.size (.slice ao' (n + m) c') (List.replicate (n + m) q) → Below w.heap.size w w' → wpList P ops Q rest (a.put o.dst (.slice ao' (n + m) c')) w') :
    wpList P ops Q (o :: rest) a w := by
  obtain ⟨i0, hi, hz0, hz1, hz2⟩ := info_parts hinfo
  refine wpList_append_grows _ hgd s x t hop 9 i0 _ 1 16 ht hi hz0 hz1 hz2 rfl (by decide) ao n n (List.replicate n (.string q)) hs (fun h => ⟨hnone h, hnone h⟩) (by simp) (fun b hb j u hu => ?_) ad m c (List.replicate m (.string q)) hx (by simp) (fun j u hu => ?_) (fun u hu => ?_) (by omega) (by unfold maxLen; omega) (by omega) (fun v' w' ho hg => ?_)
  · have hj : j < n := by have := (List.getElem?_eq_some_iff.1 hu).1; simpa using this
    rw [List.getElem?_replicate, if_pos hj] at hu
    rw [holds b hb j hj]; exact hu
  · have hj : j < m := by have := (List.getElem?_eq_some_iff.1 hu).1; simpa using this
    rw [List.getElem?_replicate, if_pos hj] at hu
    rw [hc j hj]; exact hu
  · have := List.eq_of_mem_replicate hu; subst this; rfl
  · obtain ⟨ao', c', rfl⟩ := Ref.owns_slice ho
    have e : List.replicate n (Value.string q) ++ List.replicate m (.string q) = (List.replicate (n + m) q).map Value.string := by simp [List.replicate_append_replicate]
    rw [e] at ho
    exact hK _ _ _ (StrsIn.of_owns ho) ((Below.refl _ _).grown hg (Nat.le_refl _) (fun k hk => by cases hk))

/-- append of several elements onto a row of the call's own, as one step of a region that draws its order. -/
theorem step_append_many {P : Program} {w : World} {ops : Array Oper} {o : Oper} {a : Act} {K : Act → World → Prop} {Q : Exit → Act → World → Prop} {E : Prop}
    (hgd : o.guard = none) (s x : Operand) (t : TypeId) (hop : o.op = Op.call { callee := Callee.builtin Builtin.append, args := #[s, x], argTypes := #[t, t] })
    (base : Nat) (e : TypeId) (z : Value) (size bytes : Nat) (ht : P.underlying t = some (.slice e)) (hinfo : (P.info? e).map (fun i => (i.zero, i.size, i.bytes)) = some (some z, size, bytes)) (hz : z.cells.size = size) (hsz : 0 < size)
    (v : Value) (n : Nat) (xs : List Value) (hs : a.eval s = v) (hown : w.ownsRow base e size v n xs) (ad : Addr) (m c : Nat) (news : List Value) (hx : a.eval x = .slice (some ad) m c) (hl : news.length = m * size) (hu : ∀ j u, news[j]? = some u → w.cell? (ad.add j) = some u) (h1 : ∀ u ∈ news, u.oneCell' = true)
    (b1 : n + m ≤ maxLen) (b2 : (n + m) * bytes ≤ 140737488355328) (hbase : base ≤ w.heap.size)
    (hK : ∀ v' w', w'.ownsRow base e size v' (n + m) (xs ++ news) → w.grownBy w' v.ownBlock → K (a.put o.dst v') w') :
    if Region.wanted o (yielded ops a.tmps) = true then Oper.wp P o a w K Q else E := by
  have hw : Region.wanted o (yielded ops a.tmps) = true := by simp [Region.wanted, hgd]
  rw [if_pos hw]
  obtain ⟨i0, hi, hz0, hz1, hz2⟩ := info_parts hinfo
  obtain ⟨v', w', hrun, ho, hg, _⟩ := run_append_own (P := P) w base t o.type e i0 z size bytes ht hi hz0 hz1 hz2 hz hsz v n xs hown ad m c news hl hu h1 b1 b2 hbase
  unfold Oper.wp
  simp [execOp, hop, resolve, invoke, builtin, hs, hx, hrun, Result.andThen]
  exact hK v' w' ho hg
theorem infoKept : (Tryd.prog.info? 82).map (fun i => (i.zero, i.size, i.bytes)) = some (some (.agg #[.int .i64 0, .int .i64 0, .slice none 0 0, .slice none 0 0, .slice none 0 0]), 5, 88) := by kernel_rfl
/-- Behind the append and the store the book holds four more. -/
theorem St.book {w0 w w1 w2 : World} {B b c lb : Nat} {kv kv' : Value} {es news : List Ent} (h : St w0 w B b c lb kv es) (hb : Below w.heap.size w w1) (hel : es.length = 4 * c) (hnl : news.length = 4)
    (ho : w2.ownsRow B 82 5 kv' (4 * c + 4) (es.flatMap Ent.cells ++ news.flatMap Ent.cells)) (hg : w1.grownBy w2 kv.ownBlock)
    (hnew : ∀ e, e ∈ news → e.ok w1 w1.heap.size) : BookAt (w2.setCell ⟨b, 1, none⟩ kv') B b (c + 1) (w2.setCell ⟨b, 1, none⟩ kv').heap.size ∧ Below B w0 (w2.setCell ⟨b, 1, none⟩ kv') := by
  have h1 := h.to hb
  have hsz1 := h1.blk.lt
  have hlow := h1.low
  -- a row of another type is kept by the append
  have keep : ∀ (g : Nat) (t : TypeId) (cur : Array Value), t ≠ 82 → w1.heap[g]? = some (.cells cur t (0, 0)) → w2.heap[g]? = w1.heap[g]? := by
    intro g t cur ht hg1
    refine hg.block g (lt_of_block hg1) (fun e => ?_)
    rcases h1.own.2 with ⟨rfl, _⟩ | ⟨g', cap, cur', rfl, _, hh, _⟩
    · simp [Value.ownBlock] at e
    · simp [Value.ownBlock] at e
      subst e
      rw [hg1] at hh
      simp at hh
      exact ht hh.2
  have hblk2 : Blk w2 b 37 [.int .i64 (c + 1 : Nat), kv] := by
    unfold Blk; rw [keep b 37 _ (by decide) h1.blk]; exact h1.blk
  have hB2 : Below B w0 w2 := h1.below.grown hg (by omega) (fun k hk => (h1.own.lt k hk).1)
  have hset := hblk2.set 1 kv'
  refine ⟨⟨h.low, kv', es ++ news, by simp [hel, hnl]; omega, by simpa using hset, ?_, fun e he => ?_⟩, hB2.setCell h.low _⟩
  · have e1 : 4 * (c + 1) = 4 * c + 4 := by omega
    rw [e1, List.flatMap_append]
    exact ownsRow_kept ho fun g cur hgg => Below.heap_setCell _ _ _ _ (Blk.type_ne (w := w2) (b := g) (t := 82) (vs := cur.toList) (by unfold Blk; rw [hgg]) hblk2 (by decide))
  · have hok : e.ok w1 w1.heap.size := by
      rcases List.mem_append.1 he with he | he
      · obtain ⟨x1, x2, x3, x4⟩ := h1.ok e he
        obtain ⟨ao, cap, ht, hx⟩ := x4
        refine ⟨x1, x2, x3, ao, cap, ht, ?_⟩
        rcases hx with hx | ⟨g, off, cur, h1', _, hg', r⟩
        · exact .inl hx
        · exact .inr ⟨g, off, cur, h1', lt_of_block hg', hg', r⟩
      · exact hnew e he
    obtain ⟨x1, x2, x3, x4⟩ := hok
    refine ⟨x1, x2, x3, (x4.keep (w' := w2.setCell ⟨b, 1, none⟩ kv') fun g cur _ hgg => ?_).mono (by rw [size_setCell]; exact hg.size)⟩
    rw [Below.heap_setCell _ _ _ _ (Blk.type_ne (w := w1) (b := g) (t := 9) (vs := cur.toList) (by unfold Blk; rw [hgg]) h1.blk (by decide))]
    exact keep g 9 cur (by decide) hgg
end Go.Proofs.YtmlnejlhgbonpaaDoor.Book
