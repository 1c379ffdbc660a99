import Derived.Deep.RegionHeld3
import Derived.WalkSpells
import Derived.Test.YtokmllopbfmadaaDoorGLendB
namespace Go.Proofs.YtokmllopbfmadaaDoor.BookS
open Go.RowKit Mem FieldWalks Tab ByTab Parts Plans
open Book (old_cell many_cells below_alloc owns_slice' step_append_many infoKept)

/-- The book with its number raised and its lists as they were. -/
structure St (w0 w : World) (B b c lb : Nat) (kv : Value) (es : List Ent) (v : Value) : Prop where
  rest : ∀ g us, Blk w0 g 73 us → v.ownBlock ≠ some g → w.heap[g]? = w0.heap[g]?
  low : B ≤ b
  high : B ≤ lb
  blk : Blk w b 37 [.int .i64 (c + 1 : Nat), kv]
  own : w.ownsRow B 88 5 kv (4 * c) (es.flatMap Ent.cells)
  ok : ∀ e, e ∈ es → e.ok w lb
  below : Below B w0 w
theorem St.to {w0 w w' : World} {B b c lb : Nat} {kv v : Value} {es : List Ent} (h : St w0 w B b c lb kv es v) (hb : Below w.heap.size w w') : St w0 w' B b c lb kv es v :=
  ⟨fun g us hg hne => by
    have h1 := h.rest g us hg hne
    have h2 : Blk w g 73 us := by unfold Blk; rw [h1]; exact hg
    rw [hb.block g h2.lt]; exact h1, h.low, h.high, h.blk.to hb, ownsRow_to h.own hb, fun e he => by
    obtain ⟨h1, h2, h3, h4⟩ := h.ok e he
    exact ⟨h1, h2, h3, h4.keep fun g cur _ hg => hb.block g (lt_of_block hg)⟩, h.below.trans (hb.mono (by have := h.blk.lt; have := h.low; omega))⟩
theorem St.start {w : World} {B b c lb : Nat} {kv v : Value} {es : List Ent} (hB : B ≤ b) (hlb : B ≤ lb) (hblk : Blk w b 37 [.int .i64 c, kv]) (hown : w.ownsRow B 88 5 kv (4 * c) (es.flatMap Ent.cells)) (hes : ∀ e, e ∈ es → e.ok w lb) :
    St w (w.setCell ⟨b, 0, none⟩ (.int .i64 ((c : Int) + 1))) B b c lb kv es v := by
  refine ⟨fun g us hg _ => Below.heap_setCell _ _ _ _ (by exact hg.type_ne hblk (by decide)), hB, hlb, ?_, Book.ownsRow_kept hown fun g cur hg => ?_, fun e he => ?_, (Below.refl _ _).setCell hB _⟩
  · have := hblk.set 0 (.int .i64 ((c : Int) + 1))
    simpa using this
  · exact Below.heap_setCell _ _ _ _ (Blk.type_ne (w := w) (vs := cur.toList) (by unfold Blk; rw [hg]) hblk (by decide))
  · obtain ⟨h1, h2, h3, h4⟩ := hes e he
    exact ⟨h1, h2, h3, h4.keep fun g cur _ hg => Below.heap_setCell _ _ _ _ (Blk.type_ne (w := w) (b := g) (t := 73) (vs := cur.toList) (by unfold Blk; rw [hg]) hblk (by decide))⟩

/-- Behind the append and the store the book holds four more. -/
theorem St.book {w0 w w1 w2 : World} {B b c lb : Nat} {kv kv' v : Value} {es news : List Ent} (h : St w0 w B b c lb kv es v) (hb : Below w.heap.size w w1) (hel : es.length = 4 * c) (hnl : news.length = 4)
    (ho : w2.ownsRow B 88 5 kv' (4 * c + 4) (es.flatMap Ent.cells ++ news.flatMap Ent.cells)) (hg : w1.grownBy w2 kv.ownBlock)
    (hnew : ∀ e, e ∈ news → e.ok w1 w1.heap.size) : BookAt (w2.setCell ⟨b, 1, none⟩ kv') B b (c + 1) (w2.setCell ⟨b, 1, none⟩ kv').heap.size ∧ Below B w0 (w2.setCell ⟨b, 1, none⟩ kv') ∧ ∀ g us, Blk w0 g 73 us → v.ownBlock ≠ some g → (w2.setCell ⟨b, 1, none⟩ kv').heap[g]? = w0.heap[g]? := by
  have h1 := h.to hb
  have hsz1 := h1.blk.lt
  have hlow := h1.low
  -- a row of another type is kept by the append
  have keep : ∀ (g : Nat) (t : TypeId) (cur : Array Value), t ≠ 88 → w1.heap[g]? = some (.cells cur t (0, 0)) → w2.heap[g]? = w1.heap[g]? := by
    intro g t cur ht hg1
    refine hg.block g (lt_of_block hg1) (fun e => ?_)
    rcases h1.own.2 with ⟨rfl, _⟩ | ⟨g', cap, cur', rfl, _, hh, _⟩
    · simp [Value.ownBlock] at e
    · simp [Value.ownBlock] at e
      subst e
      rw [hg1] at hh
      simp at hh
      exact ht hh.2
  have hblk2 : Blk w2 b 37 [.int .i64 (c + 1 : Nat), kv] := by
    unfold Blk; rw [keep b 37 _ (by decide) h1.blk]; exact h1.blk
  have hB2 : Below B w0 w2 := h1.below.grown hg (by omega) (fun k hk => (h1.own.lt k hk).1)
  have hset := hblk2.set 1 kv'
  refine ⟨⟨h.low, kv', es ++ news, by simp [hel, hnl]; omega, by simpa using hset, ?_, fun e he => ?_⟩, hB2.setCell h.low _, fun g us hg hne => ?_⟩
  · have e1 : 4 * (c + 1) = 4 * c + 4 := by omega
    rw [e1, List.flatMap_append]
    exact Book.ownsRow_kept ho fun g cur hgg => Below.heap_setCell _ _ _ _ (Blk.type_ne (w := w2) (b := g) (t := 88) (vs := cur.toList) (by unfold Blk; rw [hgg]) hblk2 (by decide))
  · have hok : e.ok w1 w1.heap.size := by
      rcases List.mem_append.1 he with he | he
      · obtain ⟨x1, x2, x3, x4⟩ := h1.ok e he
        obtain ⟨ao, cap, ht, hx⟩ := x4
        refine ⟨x1, x2, x3, ao, cap, ht, ?_⟩
        rcases hx with hx | ⟨g, cur, h1', _, hg', r⟩
        · exact .inl hx
        · exact .inr ⟨g, cur, h1', lt_of_block hg', hg', r⟩
      · exact hnew e he
    obtain ⟨x1, x2, x3, x4⟩ := hok
    refine ⟨x1, x2, x3, (x4.keep (w' := w2.setCell ⟨b, 1, none⟩ kv') fun g cur _ hgg => ?_).mono (by rw [size_setCell]; exact hg.size)⟩
    rw [Below.heap_setCell _ _ _ _ (Blk.type_ne (w := w1) (b := g) (t := 73) (vs := cur.toList) (by unfold Blk; rw [hgg]) h1.blk (by decide))]
    exact keep g 73 cur (by decide) hgg
  · have h2 := h1.rest g us hg hne
    have h3 : Blk w1 g 73 us := by unfold Blk; rw [h2]; exact hg
    rw [Below.heap_setCell _ _ _ _ (by exact h3.type_ne h1.blk (by decide)), keep g 73 us.toArray (by decide) h3]
    exact h2
theorem St.after {w0 w w1 w2 : World} {B b c lb : Nat} {kv v : Value} {es : List Ent} (h : St w0 w B b c lb kv es v) (hb : Below w.heap.size w w1) (hg : w1.grownBy w2 kv.ownBlock) : Blk w2 b 37 [.int .i64 ((c : Int) + 1), kv] := by
  have h1 := h.to hb
  have e : w2.heap[b]? = w1.heap[b]? := by
    refine hg.block b h1.blk.lt (fun e => ?_)
    rcases h1.own.2 with ⟨rfl, _⟩ | ⟨g', cap, cur', rfl, _, hh, _⟩
    · simp [Value.ownBlock] at e
    · simp [Value.ownBlock] at e
      subst e
      have := h1.blk
      unfold Blk at this
      rw [this] at hh
      simp at hh
  unfold Blk; rw [e]; exact h1.blk
/-- The four that come into the book with a list of k. -/
def newsOf (c k : Nat) (l a1 a2 a3 : Value) : List Ent := [⟨c + 1, k, l⟩, ⟨c + 1, k + 1, a1⟩, ⟨c + 1, k + 2, a2⟩, ⟨c + 1, k + 3, a3⟩]
theorem newsOf_ok (c k : Nat) (hc : c ≤ 8) (hk : k ≤ 100000) (w : World) {l a1 a2 a3 : Value} (h0 : SIn w w.heap.size l k (c + 1)) (h1 : SIn w w.heap.size a1 (k + 1) (c + 1))
    (h2 : SIn w w.heap.size a2 (k + 2) (c + 1)) (h3 : SIn w w.heap.size a3 (k + 3) (c + 1)) : ∀ e, e ∈ newsOf c k l a1 a2 a3 → e.ok w w.heap.size := by
  intro e he
  simp only [newsOf, List.mem_cons, List.not_mem_nil, or_false] at he
  rcases he with rfl | rfl | rfl | rfl
  · exact ⟨by show 1 ≤ c + 1; omega, by show c + 1 ≤ 9; omega, by show k ≤ 100010; omega, h0⟩
  · exact ⟨by show 1 ≤ c + 1; omega, by show c + 1 ≤ 9; omega, by show k + 1 ≤ 100010; omega, h1⟩
  · exact ⟨by show 1 ≤ c + 1; omega, by show c + 1 ≤ 9; omega, by show k + 2 ≤ 100010; omega, h2⟩
  · exact ⟨by show 1 ≤ c + 1; omega, by show c + 1 ≤ 9; omega, by show k + 3 ≤ 100010; omega, h3⟩
theorem newsOf_cells (c k : Nat) (l a1 a2 a3 : Value) : (newsOf c k l a1 a2 a3).flatMap Ent.cells =
    [.int .i64 ((c : Int) + 1), .int .i64 (k : Int), .slice none 0 0, .slice none 0 0, l, .int .i64 ((c : Int) + 1), .int .i64 ((k : Int) + 1), .slice none 0 0, .slice none 0 0, a1,
     .int .i64 ((c : Int) + 1), .int .i64 ((k : Int) + 2), .slice none 0 0, .slice none 0 0, a2, .int .i64 ((c : Int) + 1), .int .i64 ((k : Int) + 3), .slice none 0 0, .slice none 0 0, a3] := rfl
/-- One row of steps above lb is written. -/
theorem St.grown {w0 w w' : World} {B b c lb : Nat} {kv v : Value} {es : List Ent} (h : St w0 w B b c lb kv es v) (hg : w.grownBy w' v.ownBlock) (hv : ∀ g, v.ownBlock = some g → lb ≤ g ∧ ∃ us, Blk w g 73 us) : St w0 w' B b c lb kv es v := by
  have keep : ∀ (g : Nat) (t : TypeId) (us : List Value), t ≠ 73 → Blk w g t us → w'.heap[g]? = w.heap[g]? := fun g t us ht hb => hg.block g hb.lt (fun e => by
    obtain ⟨_, vs, hvs⟩ := hv g e.symm
    exact hb.type_ne hvs ht rfl)
  refine ⟨fun g us hg0 hne => by
    have h1 := h.rest g us hg0 hne
    have h2 : Blk w g 73 us := by unfold Blk; rw [h1]; exact hg0
    rw [hg.block g h2.lt (fun e => hne e.symm)]; exact h1, h.low, h.high, by unfold Blk; rw [keep _ _ _ (by decide) h.blk]; exact h.blk, Book.ownsRow_kept h.own fun g cur hgg => keep g 88 cur.toList (by decide) (by unfold Blk; rw [hgg]), fun e he => ?_, h.below.grown hg (by have := h.blk.lt; have := h.low; omega) (fun k hk => Nat.le_trans h.high (hv k hk).1)⟩
  obtain ⟨h1, h2, h3, h4⟩ := h.ok e he
  exact ⟨h1, h2, h3, h4.keep fun g cur hlt hgg => hg.block g (lt_of_block hgg) (fun e => by have := (hv g e.symm).1; omega)⟩
theorem LSt.block {w : World} {v : Value} {n cap c lb : Nat} (h : LSt w v n cap c) (hl : ∀ g, v.ownBlock = some g → lb ≤ g) : ∀ g, v.ownBlock = some g → lb ≤ g ∧ ∃ us, Blk w g 73 us := by
  intro g hg
  rcases h with ⟨_, _, rfl⟩ | ⟨g', us, M, rfl, hb, _⟩
  · cases hg
  · obtain rfl := Option.some.inj hg; exact ⟨hl _ rfl, us, hb⟩
theorem wpList_append_marksS (w : World) {ops : Array Oper} {rest : List Oper} {o : Oper} {a : Act} {Q : Exit → Act → World → Prop}
    (hgd : o.guard = none) (s x : Operand) (hop : o.op = Op.call { callee := Callee.builtin Builtin.append, args := #[s, x], argTypes := #[64, 64] })
    (v : Value) (n cap c m : Nat) (hs : a.eval s = v) (h : LSt w v n cap c) (ad : Addr) (cc : Nat) (hx : a.eval x = .slice (some ad) m cc) (hm : 0 < m) (hm2 : m ≤ 10) (hn : n ≤ 1000000) (hnews : ∀ (j : Nat) (u : Value), (marksL m c)[j]? = some u → w.cell? (ad.add j) = some u)
    (hK : ∀ ao' c' w', SIn w' w'.heap.size (.slice ao' (n + m) c') (n + m) c → LSt w' v n cap c → (∀ N v2 n2, SIn w N v2 n2 c → SIn w' N v2 n2 c) → w.grownBy w' v.ownBlock → wpList Tryd.prog ops Q rest (a.put o.dst (.slice ao' (n + m) c')) w') :
    wpList Tryd.prog ops Q (o :: rest) a w := by
  refine wpList_plain hgd fun K hK' => ?_
  obtain ⟨v', w', hrun, h1, ⟨ao', c', rfl⟩, h2, h3, h4⟩ := run_marks w v n cap c m h ad cc hm hm2 hn hnews o.type
  have := hK ao' c' w' h1 h2 h3 h4
  unfold Oper.wp
  simp [execOp, hop, resolve, invoke, builtin, hs, hx, hrun, Result.andThen]
  exact hK' _ _ this
theorem SIn.of3 {w w' : World} {v : Value} {k n N : Nat} (h : SIn w N v k n) (hN : N ≤ w'.heap.size) (hk : ∀ N v2 n2, SIn w N v2 n2 n → SIn w' N v2 n2 n) : SIn w' w'.heap.size v k n := (hk _ _ _ h).mono hN
theorem mk_set {us : List Value} {k c cap : Nat} (h : Mk us k c) (hl : us.length = cap * 3) (hk : k < cap) : Mk (((us.set (k * 3) (.int .i64 (-(c : Int)))).set (k * 3 + 1) (.int .i64 0)).set (k * 3 + 2) (.bool false)) (k + 1) c := by
  intro q hq r hr
  by_cases e : q = k
  · subst e
    rcases (show r = 0 ∨ r = 1 ∨ r = 2 by omega) with rfl | rfl | rfl
    · rw [List.getElem?_set_ne (by omega), List.getElem?_set_ne (by omega), Nat.add_zero, List.getElem?_set_self (by omega)]; rfl
    · rw [List.getElem?_set_ne (by omega), List.getElem?_set_self (by simp; omega)]; rfl
    · rw [List.getElem?_set_self (by simp; omega)]; rfl
  · rw [List.getElem?_set_ne (by omega), List.getElem?_set_ne (by omega), List.getElem?_set_ne (by omega)]
    exact h q (by omega) r hr
end Go.Proofs.YtokmllopbfmadaaDoor.BookS
