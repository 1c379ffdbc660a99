/- The owner's book of lists: what it holds. -/
import Derived.Test.YtmlnejlhgbonpaaDoorBook
namespace Go.Proofs.YtmlnejlhgbonpaaDoor.Book
open Go.RowKit Mem FieldWalks Tab ByTab Parts

/-- The slice v reads as these strings, in a row of strings below block number N. -/
def StrsIn (w : World) (N : Nat) (v : Value) (ss : List ByteArray) : Prop :=
  ∃ ao cap, v = .slice ao ss.length cap ∧ (ss = [] ∨ ∃ g off cur, ao = some ⟨g, off, none⟩ ∧ g < N ∧ w.heap[g]? = some (.cells cur 9 (0, 0)) ∧ ∀ k, (h : k < ss.length) → cur[off + k]? = some (.string ss[k]))
theorem StrsIn.at {w : World} {N : Nat} {v : Value} {ss : List ByteArray} (h : StrsIn w N v ss) : StrsAt w v ss := by
  obtain ⟨ao, cap, rfl, h⟩ := h
  refine ⟨ao, cap, rfl, ?_⟩
  rcases h with h | ⟨g, off, cur, rfl, _, hg, hc⟩
  · exact .inl h
  · exact .inr ⟨g, off, rfl, lt_of_block hg, fun k hk => by rw [cell_of_row w g _ cur _ _ hg]; exact hc k hk⟩
theorem StrsIn.mono {w : World} {N M : Nat} {v : Value} {ss : List ByteArray} (h : StrsIn w N v ss) (hM : N ≤ M) : StrsIn w M v ss := by
  obtain ⟨ao, cap, rfl, h⟩ := h
  refine ⟨ao, cap, rfl, ?_⟩
  rcases h with h | ⟨g, off, cur, rfl, hN, r⟩
  · exact .inl h
  · exact .inr ⟨g, off, cur, rfl, Nat.lt_of_lt_of_le hN hM, r⟩
/-- It stays so where every row of strings below N stays. -/
theorem StrsIn.keep {w w' : World} {N : Nat} {v : Value} {ss : List ByteArray} (h : StrsIn w N v ss) (hk : ∀ (g : Nat) (cur : Array Value), g < N → w.heap[g]? = some (.cells cur 9 (0, 0)) → w'.heap[g]? = w.heap[g]?) : StrsIn w' N v ss := by
  obtain ⟨ao, cap, rfl, h⟩ := h
  refine ⟨ao, cap, rfl, ?_⟩
  rcases h with h | ⟨g, off, cur, rfl, hN, hg, r⟩
  · exact .inl h
  · exact .inr ⟨g, off, cur, rfl, hN, (hk g cur hN hg).trans hg, r⟩
/-- An entry: its number, its length, its list. -/
structure Ent where
  n : Nat
  size : Nat
  t : Value
def Ent.cells (e : Ent) : List Value := [.int .i64 e.n, .int .i64 e.size, e.t, .slice none 0 0, .slice none 0 0]
def Ent.ok (w : World) (N : Nat) (e : Ent) : Prop := 1 ≤ e.n ∧ e.n ≤ 9 ∧ e.size ≤ 100 ∧ StrsIn w N e.t (List.replicate e.size (markS e.n))
/-- The book at block b: c lists are in it, each with those that are longer. -/
def BookAt (w : World) (B b c N : Nat) : Prop :=
  B ≤ b ∧ ∃ (kv : Value) (es : List Ent), es.length = 4 * c ∧ Blk w b 37 [.int .i64 c, kv] ∧ w.ownsRow B 82 5 kv (4 * c) (es.flatMap Ent.cells) ∧ ∀ e, e ∈ es → e.ok w N
theorem BookAt.start (w : World) (B : Nat) (hB : B ≤ w.heap.size) (N : Nat) : BookAt (w.alloc (.cells #[.int .i64 0, .slice none 0 0] 37)) B w.heap.size 0 N :=
  ⟨hB, .slice none 0 0, [], rfl, Blk.new w _ _, World.ownsRow_nil _ _ _ _, fun e he => by cases he⟩
theorem ownsRow_kept {w w' : World} {base : Nat} {e : TypeId} {size : Nat} {v : Value} {n : Nat} {xs : List Value} (h : w.ownsRow base e size v n xs) (hk : ∀ (g : Nat) (cur : Array Value), w.heap[g]? = some (.cells cur e (0, 0)) → w'.heap[g]? = w.heap[g]?) : w'.ownsRow base e size v n xs := by
  obtain ⟨h1, h2⟩ := h
  refine ⟨h1, ?_⟩
  rcases h2 with h2 | ⟨g, cap, cur, hv, hg, hh, r⟩
  · exact Or.inl h2
  · exact Or.inr ⟨g, cap, cur, hv, hg, (hk g cur hh).trans hh, r⟩
theorem BookAt.to {w w' : World} {B b c N : Nat} (h : BookAt w B b c N) (hb : Below w.heap.size w w') : BookAt w' B b c N := by
  obtain ⟨hB, kv, es, hl, hblk, hown, hes⟩ := h
  refine ⟨hB, kv, es, hl, hblk.to hb, ownsRow_to hown hb, fun e he => ?_⟩
  obtain ⟨h1, h2, h3, h4⟩ := hes e he
  exact ⟨h1, h2, h3, h4.keep fun g cur _ hg => hb.block g (lt_of_block hg)⟩
theorem BookAt.mono {w : World} {B b c N M : Nat} (h : BookAt w B b c N) (hM : N ≤ M) : BookAt w B b c M := by
  obtain ⟨hB, kv, es, hl, hblk, hown, hes⟩ := h
  refine ⟨hB, kv, es, hl, hblk, hown, fun e he => ?_⟩
  obtain ⟨h1, h2, h3, h4⟩ := hes e he
  exact ⟨h1, h2, h3, h4.mono hM⟩
end Go.Proofs.YtmlnejlhgbonpaaDoor.Book
