import Derived.WalkKit
import Derived.ProofKit
import Derived.WalkLawsBesides
import Derived.Test.YtokmllopbfmadabDoorGGf
/- Blocks of memory, in words of my own: what a block of the call's own holds; what a slice of bytes, of slices of bytes, of strings reads as. Nothing of the program. -/
namespace Go.Proofs.YtokmllopbfmadabDoor.Mem
open Go.RowKit

/-- Block b holds just these cells, none of them frozen. -/
def Blk (w : World) (b : Nat) (t : TypeId) (vs : List Value) : Prop := w.heap[b]? = some (.cells vs.toArray t (0, 0))

section
variable {w w' : World} {b : Nat} {t : TypeId} {vs : List Value}
theorem Blk.lt (h : Blk w b t vs) : b < w.heap.size := lt_of_block h
theorem Blk.cell (h : Blk w b t vs) (k : Nat) : w.cell? ⟨b, k, none⟩ = vs[k]? := by
  rw [cell_of_row w b k vs.toArray t (0, 0) h]; simp
theorem Blk.cell_some (h : Blk w b t vs) {k : Nat} {v : Value} (hk : vs[k]? = some v) : w.cell? ⟨b, k, none⟩ = some v := by rw [h.cell k, hk]
theorem Blk.free (h : Blk w b t vs) (k : Nat) : w.frozen? ⟨b, k, none⟩ = false := frozen_of_row w b k vs.toArray t h
theorem Blk.set (h : Blk w b t vs) (k : Nat) (u : Value) : Blk (w.setCell ⟨b, k, none⟩ u) b t (vs.set k u) := by
  have := heap_setCell_same w b k vs.toArray t u h
  unfold Blk; rw [this]; simp
theorem Blk.other (h : Blk w b t vs) {a : Addr} (ha : b ≠ a.block) (u : Value) : Blk (w.setCell a u) b t vs := by
  unfold Blk; rw [heap_setCell_other w a b u ha]; exact h
theorem Blk.alloc (h : Blk w b t vs) (o : Obj) : Blk (w.alloc o) b t vs := by
  unfold Blk; rw [Below.heap_alloc w o b h.lt]; exact h
theorem Blk.drew (h : Blk w b t vs) : Blk w.drew b t vs := h
theorem Blk.below (h : Blk w b t vs) {B : Nat} (hb : Below B w w') (hB : b < B) : Blk w' b t vs := by
  unfold Blk; rw [hb.block b hB]; exact h
theorem Blk.to (h : Blk w b t vs) (hb : Below w.heap.size w w') : Blk w' b t vs := h.below hb h.lt
theorem Blk.new (w : World) (cs : Array Value) (t : TypeId) : Blk (w.alloc (.cells cs t)) w.heap.size t cs.toList := by
  unfold Blk; rw [heap_alloc_new]
theorem Blk.new1 (w : World) (o : Obj) (cs : Array Value) (t : TypeId) : Blk ((w.alloc o).alloc (.cells cs t)) (w.heap.size + 1) t cs.toList := by
  unfold Blk; rw [heap_alloc2_new]
theorem Blk.row (h : Blk w b t vs) (cs : Array Value) : Blk (w.setRow b cs) b t cs.toList := by
  unfold Blk; rw [setRow_heap w b vs.toArray cs t (0, 0) h]
theorem Blk.row_other (h : Blk w b t vs) {g : Nat} (hg : b ≠ g) (cs : Array Value) : Blk (w.setRow g cs) b t vs := by
  unfold Blk; rw [setRow_other w g b cs hg]; exact h
theorem below_row {B g : Nat} {w0 : World} (hb : Below B w0 w) (hBg : B ≤ g) (cs : Array Value) : Below B w0 (w.setRow g cs) :=
  hb.trans ⟨rfl, rfl, rfl, by simp [World.setRow], fun k hk => setRow_other w g k cs (by omega)⟩
theorem Blk.eq {us : List Value} (h : Blk w b t vs) (e : vs = us) : Blk w b t us := e ▸ h
end

/-- The first k of the new, then the old: what a row holds behind k rounds that write it from the front. -/
def mix {α : Type} (new old : List α) (k : Nat) : List α := new.take k ++ old.drop k
section
variable {α : Type} {new old : List α} {k : Nat}
theorem mix_zero (new old : List α) : mix new old 0 = old := by simp [mix]
theorem mix_all (h : new.length = old.length) : mix new old old.length = new := by simp [mix, ← h]
theorem mix_length (h : new.length = old.length) (k : Nat) : (mix new old k).length = old.length := by simp [mix]; omega
theorem mix_at (h : new.length = old.length) (hk : k < old.length) : (mix new old k)[k]? = some old[k] := by
  unfold mix
  rw [List.getElem?_append_right (by simp; omega)]
  simp [List.length_take, Nat.min_eq_left (show k ≤ new.length by omega), hk]
theorem mix_set (h : new.length = old.length) (hk : k < old.length) : (mix new old k).set k (new[k]'(by omega)) = mix new old (k + 1) := by
  unfold mix
  have e1 : (new.take k).length = k := by simp; omega
  rw [List.set_append_right _ _ (by omega), e1, Nat.sub_self, List.drop_eq_getElem_cons hk]
  rw [List.set_cons_zero, List.take_add_one, List.getElem?_eq_getElem (by omega : k < new.length), List.append_assoc]
  rfl
end

def bytesV (l : List Nat) : List Value := l.map fun (n : Nat) => Value.int .u8 (n : Int)
@[simp] theorem bytesV_length (l : List Nat) : (bytesV l).length = l.length := by simp [bytesV]
theorem bytesV_at {l : List Nat} {k : Nat} (h : k < l.length) : (bytesV l)[k]? = some (.int .u8 (l[k] : Nat)) := by simp [bytesV, h]
theorem bytesV_getElem {l : List Nat} {k : Nat} (h : k < (bytesV l).length) : (bytesV l)[k] = .int .u8 ((l[k]'(by simpa using h) : Nat) : Int) := by simp [bytesV]
theorem bytesV_set (l : List Nat) (k n : Nat) : (bytesV l).set k (.int .u8 (n : Int)) = bytesV (l.set k n) := by simp [bytesV, List.map_set]
theorem mix_bytes (a b : List Nat) (k : Nat) : bytesV (mix a b k) = mix (bytesV a) (bytesV b) k := by simp [bytesV, mix, List.map_take, List.map_drop]

theorem bytesV_one (l : List Nat) : (bytesV l).toArray.all (·.oneCell') = true := by
  rw [Array.all_eq_true_iff_forall_mem]; intro v hv; simp [bytesV] at hv; obtain ⟨n, _, rfl⟩ := hv; rfl
/-- The slice v reads as these bytes. -/
def BsAt (w : World) (v : Value) (l : List Nat) : Prop :=
  ∃ ao cap, v = .slice ao l.length cap ∧ (l = [] ∨ ∃ b off, ao = some ⟨b, off, none⟩ ∧ b < w.heap.size ∧ ∀ k, (h : k < l.length) → w.cell? ⟨b, off + k, none⟩ = some (.int .u8 (l[k] : Nat)))
/-- The slice v reads as these rows of bytes. -/
def RowsAt (w : World) (v : Value) (rows : List (List Nat)) : Prop :=
  ∃ ao cap, v = .slice ao rows.length cap ∧ (rows = [] ∨ ∃ b off, ao = some ⟨b, off, none⟩ ∧ b < w.heap.size ∧ ∀ k, (h : k < rows.length) → ∃ u, w.cell? ⟨b, off + k, none⟩ = some u ∧ BsAt w u rows[k])
/-- The slice v reads as these strings. -/
def StrsAt (w : World) (v : Value) (ss : List ByteArray) : Prop :=
  ∃ ao cap, v = .slice ao ss.length cap ∧ (ss = [] ∨ ∃ b off, ao = some ⟨b, off, none⟩ ∧ b < w.heap.size ∧ ∀ k, (h : k < ss.length) → w.cell? ⟨b, off + k, none⟩ = some (.string ss[k]))

section
variable {w w' : World} {v : Value}
theorem BsAt.to {l : List Nat} (h : BsAt w v l) (hb : Below w.heap.size w w') : BsAt w' v l := by
  obtain ⟨ao, cap, rfl, h⟩ := h
  refine ⟨ao, cap, rfl, ?_⟩
  rcases h with h | ⟨b, off, rfl, hlt, hc⟩
  · exact .inl h
  · exact .inr ⟨b, off, rfl, Nat.lt_of_lt_of_le hlt hb.size, fun k hk => by rw [hb.cell (p := ⟨b, off + k, none⟩) hlt]; exact hc k hk⟩
theorem RowsAt.to {rows : List (List Nat)} (h : RowsAt w v rows) (hb : Below w.heap.size w w') : RowsAt w' v rows := by
  obtain ⟨ao, cap, rfl, h⟩ := h
  refine ⟨ao, cap, rfl, ?_⟩
  rcases h with h | ⟨b, off, rfl, hlt, hc⟩
  · exact .inl h
  · refine .inr ⟨b, off, rfl, Nat.lt_of_lt_of_le hlt hb.size, fun k hk => ?_⟩
    obtain ⟨u, hu, hr⟩ := hc k hk
    exact ⟨u, by rw [hb.cell (p := ⟨b, off + k, none⟩) hlt]; exact hu, hr.to hb⟩
theorem StrsAt.to {ss : List ByteArray} (h : StrsAt w v ss) (hb : Below w.heap.size w w') : StrsAt w' v ss := by
  obtain ⟨ao, cap, rfl, h⟩ := h
  refine ⟨ao, cap, rfl, ?_⟩
  rcases h with h | ⟨b, off, rfl, hlt, hc⟩
  · exact .inl h
  · exact .inr ⟨b, off, rfl, Nat.lt_of_lt_of_le hlt hb.size, fun k hk => by rw [hb.cell (p := ⟨b, off + k, none⟩) hlt]; exact hc k hk⟩
theorem BsAt.of_blk {b : Nat} {t : TypeId} {l : List Nat} (h : Blk w b t (bytesV l)) (n cap : Nat) (hn : n = l.length) : BsAt w (.slice (some ⟨b, 0, none⟩) n cap) l := by
  subst hn
  exact ⟨_, _, rfl, .inr ⟨b, 0, rfl, h.lt, fun k hk => by rw [Nat.zero_add, h.cell k, bytesV_at hk]⟩⟩
theorem BsAt.pos {l : List Nat} (h : BsAt w v l) (hl : 0 < l.length) : ∃ b off cap, v = .slice (some ⟨b, off, none⟩) l.length cap ∧ b < w.heap.size ∧ ∀ k, (h : k < l.length) → w.cell? ⟨b, off + k, none⟩ = some (.int .u8 (l[k] : Nat)) := by
  obtain ⟨ao, cap, rfl, h1⟩ := h
  rcases h1 with h | ⟨b, off, rfl, hlt, hc⟩
  · subst h; simp at hl
  · exact ⟨b, off, cap, rfl, hlt, hc⟩
theorem RowsAt.pos {rows : List (List Nat)} (h : RowsAt w v rows) (hl : 0 < rows.length) : ∃ b off cap, v = .slice (some ⟨b, off, none⟩) rows.length cap ∧ b < w.heap.size ∧ ∀ k, (h : k < rows.length) → ∃ u, w.cell? ⟨b, off + k, none⟩ = some u ∧ BsAt w u rows[k] := by
  obtain ⟨ao, cap, rfl, h1⟩ := h
  rcases h1 with h | ⟨b, off, rfl, hlt, hc⟩
  · subst h; simp at hl
  · exact ⟨b, off, cap, rfl, hlt, hc⟩
end

/-- A row of bytes of the call's own: a block of its own, of just that length. -/
def OwnAt (w : World) (u : Value) (l : List Nat) : Prop := ∃ b, u = .slice (some ⟨b, 0, none⟩) l.length l.length ∧ Blk w b 5 (bytesV l)
theorem OwnAt.bs {w : World} {u : Value} {l : List Nat} (h : OwnAt w u l) : BsAt w u l := by
  obtain ⟨b, rfl, hb⟩ := h
  exact BsAt.of_blk hb _ _ rfl
theorem OwnAt.to {w w' : World} {u : Value} {l : List Nat} (h : OwnAt w u l) (hb : Below w.heap.size w w') : OwnAt w' u l := by
  obtain ⟨b, rfl, h⟩ := h
  exact ⟨b, rfl, h.to hb⟩
theorem Blk.type_ne {w : World} {b c : Nat} {t u : TypeId} {vs us : List Value} (h : Blk w b t vs) (k : Blk w c u us) (ht : t ≠ u) : b ≠ c := by
  intro e; subst e
  unfold Blk at h k
  rw [h] at k
  simp at k
  exact ht k.2
theorem OwnAt.set {w : World} {u : Value} {l : List Nat} (h : OwnAt w u l) {B : Nat} {t : TypeId} {us : List Value} (hB : Blk w B t us) (ht : 5 ≠ t) (k : Nat) (x : Value) : OwnAt (w.setCell ⟨B, k, none⟩ x) u l := by
  obtain ⟨b, rfl, h⟩ := h
  exact ⟨b, rfl, h.other (h.type_ne hB ht) _⟩
/-- A row of rows that is being filled: the first i are made. -/
def Filled (w : World) (B n i : Nat) (f : Nat → List Nat) : Prop := ∃ us : List Value, us.length = n ∧ Blk w B 56 us ∧ ∀ k, k < i → ∃ u, us[k]? = some u ∧ OwnAt w u (f k)
theorem Filled.to {w w' : World} {B n i : Nat} {f : Nat → List Nat} (h : Filled w B n i f) (hb : Below w.heap.size w w') : Filled w' B n i f := by
  obtain ⟨us, hl, hB, hf⟩ := h
  refine ⟨us, hl, hB.to hb, fun k hk => ?_⟩
  obtain ⟨u, hu, ho⟩ := hf k hk
  exact ⟨u, hu, ho.to hb⟩
theorem Filled.lt {w : World} {B n i : Nat} {f : Nat → List Nat} (h : Filled w B n i f) : B < w.heap.size := by
  obtain ⟨us, hl, hB, hf⟩ := h; exact hB.lt
theorem Filled.cell {w : World} {B n i : Nat} {f : Nat → List Nat} (h : Filled w B n i f) {k : Nat} (hk : k < n) : (∃ v, w.cell? ⟨B, k, none⟩ = some v) ∧ w.frozen? ⟨B, k, none⟩ = false := by
  obtain ⟨us, hl, hB, hf⟩ := h
  exact ⟨⟨us[k]'(by omega), hB.cell_some (by simp [show k < us.length by omega])⟩, hB.free k⟩
theorem Filled.step {w : World} {B n i : Nat} {f : Nat → List Nat} (h : Filled w B n i f) (hi : i < n) {u : Value} (ho : OwnAt w u (f i)) : Filled (w.setCell ⟨B, i, none⟩ u) B n (i + 1) f := by
  obtain ⟨us, hl, hB, hf⟩ := h
  refine ⟨us.set i u, by simpa using hl, hB.set i u, fun k hk => ?_⟩
  by_cases e : k = i
  · subst e
    exact ⟨u, by simp [show k < us.length by omega], ho.set hB (by decide) _ _⟩
  · obtain ⟨v, hv, hov⟩ := hf k (by omega)
    exact ⟨v, by rw [List.getElem?_set_ne (by omega)]; exact hv, hov.set hB (by decide) _ _⟩
theorem Filled.zero {w : World} {B n : Nat} {us : List Value} (h : Blk w B 56 us) (hl : us.length = n) (f : Nat → List Nat) : Filled w B n 0 f := ⟨us, hl, h, fun k hk => by omega⟩
theorem Filled.row {w : World} {B n i : Nat} {f : Nat → List Nat} (h : Filled w B n i f) {k : Nat} (hk : k < i) : ∃ u, w.cell? ⟨B, k, none⟩ = some u ∧ OwnAt w u (f k) := by
  obtain ⟨us, hl, hB, hf⟩ := h
  obtain ⟨u, hu, ho⟩ := hf k hk
  exact ⟨u, hB.cell_some hu, ho⟩
theorem Filled.rows {w : World} {B n : Nat} {f : Nat → List Nat} (h : Filled w B n n f) {rows : List (List Nat)} (hr : rows.length = n) (he : ∀ k, (h : k < rows.length) → rows[k] = f k) : RowsAt w (.slice (some ⟨B, 0, none⟩) n n) rows := by
  refine ⟨_, _, by rw [hr], .inr ⟨B, 0, rfl, h.lt, fun k hk => ?_⟩⟩
  obtain ⟨u, hu, ho⟩ := h.row (k := k) (by omega)
  exact ⟨u, by rw [Nat.zero_add]; exact hu, by rw [he k hk]; exact ho.bs⟩
theorem Filled.put {w : World} {B n i : Nat} {f : Nat → List Nat} (h : Filled w B n i f) {k : Nat} (hk : k < n) (u : Value) : (w.setCell ⟨B, k, none⟩ u).cell? ⟨B, k, none⟩ = some u := by
  obtain ⟨us, hl, hB, hf⟩ := h
  exact (hB.set k u).cell_some (by simp [show k < us.length by omega])
/-- One more is made, whatever else the world has come to, if it has kept the rest. -/
theorem Filled.made {w W : World} {B n k : Nat} {f : Nat → List Nat} (h : Filled w B n k f) (hk : k < n) {u : Value} (hW : ∀ b, b ≠ B → b < w.heap.size → W.heap[b]? = w.heap[b]?)
    (hB : W.heap[B]? = (w.setCell ⟨B, k, none⟩ u).heap[B]?) (ho : OwnAt W u (f k)) : Filled W B n (k + 1) f := by
  obtain ⟨us, hl, hBk, hf⟩ := h
  refine ⟨us.set k u, by simpa using hl, hB.trans (hBk.set k u), fun i hi => ?_⟩
  by_cases e : i = k
  · subst e
    exact ⟨u, by simp [show i < us.length by omega], ho⟩
  · obtain ⟨v, hv, b, rfl, hb⟩ := hf i (by omega)
    refine ⟨_, by rw [List.getElem?_set_ne (by omega)]; exact hv, b, rfl, ?_⟩
    have hne : b ≠ B := hb.type_ne hBk (by decide)
    unfold Blk; rw [hW b hne hb.lt]; exact hb
/-- W is w with u laid at place i of row B, and new blocks. -/
structure Laid (w W : World) (B i : Nat) (u : Value) : Prop where
  size : w.heap.size ≤ W.heap.size
  rest : ∀ b, b ≠ B → b < w.heap.size → W.heap[b]? = w.heap[b]?
  row : W.heap[B]? = (w.setCell ⟨B, i, none⟩ u).heap[B]?
section
variable {w W : World} {B n i : Nat} {u : Value} {f : Nat → List Nat}
theorem Laid.cell {k : Nat} (h : Laid w W B i u) (hf : Filled w B n k f) (hi : i < n) : W.cell? ⟨B, i, none⟩ = some u ∧ W.frozen? ⟨B, i, none⟩ = false := by
  constructor
  · rw [World.cell?_of_block (w := w.setCell ⟨B, i, none⟩ u) h.row]; exact hf.put hi u
  · obtain ⟨us, hl, hB, _⟩ := hf
    rw [World.frozen?_of_block (w := w.setCell ⟨B, i, none⟩ u) h.row]; exact (hB.set i u).free i
theorem Laid.setCell (h : Laid w W B i u) {a : Addr} (ha : w.heap.size ≤ a.block) (hB : B < w.heap.size) (v : Value) : Laid w (W.setCell a v) B i u :=
  ⟨by simpa [World.setCell] using h.size, fun b h1 h2 => (Below.heap_setCell W a v b (by omega)).trans (h.rest b h1 h2), (Below.heap_setCell W a v B (by omega)).trans h.row⟩
theorem Laid.drew (h : Laid w W B i u) : Laid w W.drew B i u := ⟨h.size, h.rest, h.row⟩
theorem Laid.below (h : Laid w W B i u) {W' : World} (hb : Below W.heap.size W W') (hB : B < w.heap.size) : Laid w W' B i u :=
  ⟨Nat.le_trans h.size hb.size, fun b h1 h2 => (hb.block b (Nat.lt_of_lt_of_le h2 h.size)).trans (h.rest b h1 h2), (hb.block B (Nat.lt_of_lt_of_le hB h.size)).trans h.row⟩
theorem Laid.start (w : World) (B i : Nat) (u : Value) (o : Obj) (hB : B < w.heap.size) : Laid w ((w.setCell ⟨B, i, none⟩ u).alloc o) B i u := by
  refine ⟨by simp [World.setCell], fun b h1 h2 => ?_, ?_⟩
  · rw [Below.heap_alloc _ _ _ (by simpa [World.setCell] using h2), Below.heap_setCell _ _ _ _ h1]
  · rw [Below.heap_alloc _ _ _ (by simpa [World.setCell] using hB)]
theorem Laid.filled (h : Laid w W B i u) (hf : Filled w B n i f) (hi : i < n) (ho : OwnAt W u (f i)) : Filled W B n (i + 1) f := hf.made hi h.rest h.row ho
end
theorem size_setCell (w : World) (a : Addr) (u : Value) : (w.setCell a u).heap.size = w.heap.size := by simp [World.setCell]

theorem take_set_drop {α : Type} (l : List α) (k : Nat) (u : α) (h : k < l.length) : l.take k ++ [u] ++ l.drop (k + 1) = l.set k u := by
  rw [List.set_eq_take_append_cons_drop, if_pos h, List.append_assoc]; rfl
/-- append of one element of one cell, where there is room in a row that is known whole. -/
theorem run_append_blk {P : Program} (w : World) (t ty e : TypeId) (i : TypeInfo) (ht : P.underlying t = some (.slice e)) (hi : P.info? e = some i) (hsz : i.size = 1)
    (g k cap : Nat) (cur : List Value) (hg : Blk w g e cur) (a : Addr) (c : Nat) (u : Value) (hu : w.cell? a = some u) (h1 : u.oneCell' = true) (hk : k < cap) (hcap : cur.length = cap) :
    (Builtin.append_ #[t, t] ty #[.slice (some ⟨g, 0, none⟩) k cap, .slice (some a) 1 c]).run P w = .ok (.slice (some ⟨g, 0, none⟩) (k + 1) cap) (w.setRow g (cur.set k u).toArray) := by
  have hr := run_append_room (P := P) w t ty e i ht hi g k cap cur.toArray hg a 1 c [u] (by simp [hsz]) (fun j v hv => by
    match j, hv with
    | 0, hv => simp at hv; subst hv; rw [Addr.add_zero']; exact hu
    | j + 1, hv => simp at hv) (fun v hv => by simp at hv; subst hv; exact h1) (by omega) (by simp [hsz]; omega)
  rw [hr, hsz, Nat.mul_one, List.toList_toArray, show [u].length = 1 from rfl, take_set_drop cur k u (by omega)]
theorem wpList_append_blk {P : Program} (w : World) {ops : Array Oper} {rest : List Oper} {o : Oper} {a : Act} {Q : Exit → Act → World → Prop}
    (hgd : o.guard = none) (s x : Operand) (t : TypeId) (hop : o.op = Op.call { callee := Callee.builtin Builtin.append, args := #[s, x], argTypes := #[t, t] })
    (e : TypeId) (i : TypeInfo) (ht : P.underlying t = some (.slice e)) (hi : P.info? e = some i) (hsz : i.size = 1)
    (g k cap : Nat) (cur : List Value) (hs : a.eval s = .slice (some ⟨g, 0, none⟩) k cap) (hg : Blk w g e cur) (ad : Addr) (c : Nat) (u : Value) (hx : a.eval x = .slice (some ad) 1 c) (hu : w.cell? ad = some u) (h1 : u.oneCell' = true) (hk : k < cap) (hcap : cur.length = cap)
    (hK : wpList P ops Q rest (a.put o.dst (.slice (some ⟨g, 0, none⟩) (k + 1) cap)) (w.setRow g (cur.set k u).toArray)) :
    wpList P ops Q (o :: rest) a w := by
  refine wpList_plain hgd fun K hK' => ?_
  have hrun := run_append_blk (P := P) w t o.type e i ht hi hsz g k cap cur hg ad c u hu h1 hk hcap
  unfold Oper.wp
  simp [execOp, hop, resolve, invoke, builtin, hs, hx, hrun, Result.andThen]
  exact hK' _ _ hK
theorem wpList_convert {P : Program} (w : World) {ops : Array Oper} {rest : List Oper} {o : Oper} {a : Act} {Q : Exit → Act → World → Prop}
    (hgd : o.guard = none) (src dst : TypeId) (x : Operand) (hop : o.op = Op.convert src dst x) (v r : Value) (hx : a.eval x = v) (hrun : (convert src dst v).run P w = .ok r w)
    (hK : wpList P ops Q rest (a.put o.dst r) w) : wpList P ops Q (o :: rest) a w := by
  refine wpList_plain hgd fun K hK' => ?_
  unfold Oper.wp
  simp [execOp, hop, hx, hrun, Result.andThen]
  exact hK' _ _ hK
theorem ownsRow_to {w w' : World} {base : Nat} {e : TypeId} {size : Nat} {v : Value} {n : Nat} {xs : List Value} (h : w.ownsRow base e size v n xs) (hb : Below w.heap.size w w') : w'.ownsRow base e size v n xs := by
  obtain ⟨h1, h2⟩ := h
  refine ⟨h1, ?_⟩
  rcases h2 with h2 | ⟨g, cap, cur, hv, hg, hh, r⟩
  · exact Or.inl h2
  · exact Or.inr ⟨g, cap, cur, hv, hg, by rw [hb.block g (lt_of_block hh)]; exact hh, r⟩
theorem below_grown {w w' : World} {B : Nat} {base : Nat} {e : TypeId} {size : Nat} {v : Value} {n : Nat} {xs : List Value} {a : World} (hb : Below B a w) (h : w.ownsRow base e size v n xs) (hg : w.grownBy w' v.ownBlock) (hB : B ≤ w.heap.size) (hbase : B ≤ base) : Below B a w' :=
  hb.grown hg hB (fun k hk => Nat.le_trans hbase (h.lt k hk).1)
/-- append of one element onto a row of the call's own, which may grow. -/
theorem wpList_append_one {P : Program} (w : World) {ops : Array Oper} {rest : List Oper} {o : Oper} {a : Act} {Q : Exit → Act → World → Prop}
    (hgd : o.guard = none) (s x : Operand) (t : TypeId) (hop : o.op = Op.call { callee := Callee.builtin Builtin.append, args := #[s, x], argTypes := #[t, t] })
    (base : Nat) (e : TypeId) (z : Value) (bytes : Nat) (ht : P.underlying t = some (.slice e)) (hinfo : (P.info? e).map (fun i => (i.zero, i.size, i.bytes)) = some (some z, 1, bytes)) (hz : z.cells.size = 1) (hby : bytes ≤ 1000)
    (v : Value) (n : Nat) (xs : List Value) (hs : a.eval s = v) (hown : w.ownsRow base e 1 v n xs) (ad : Addr) (c : Nat) (u : Value) (hx : a.eval x = .slice (some ad) 1 c) (hu : w.cell? ad = some u) (h1 : u.oneCell' = true) (hn : n ≤ 100000) (hbase : base ≤ w.heap.size)
    (hK : ∀ v' w', w'.ownsRow base e 1 v' (n + 1) (xs ++ [u]) → (∀ B a, Below B a w → B ≤ base → Below B a w') → wpList P ops Q rest (a.put o.dst v') w') :
    wpList P ops Q (o :: rest) a w := by
  obtain ⟨i0, hi, hz0, hz1, hz2⟩ := info_parts hinfo
  refine wpList_append_own _ hgd s x t hop base e i0 z 1 bytes ht hi hz0 hz1 hz2 hz (by decide) v n xs hs hown ad 1 c [u] hx rfl (fun j y hy => ?_) (fun y hy => ?_) (by unfold maxLen; omega) ?_ hbase ?_
  · match j, hy with
    | 0, hy => simp at hy; subst hy; rw [Addr.add_zero']; exact hu
    | j + 1, hy => simp at hy
  · simp at hy; subst hy; exact h1
  · have : (n + 1) * bytes ≤ 100001 * 1000 := Nat.mul_le_mul (by omega) hby
    omega
  · intro v' w' ho hg _
    exact hK v' w' ho (fun B b hb hB => below_grown hb hown hg (Nat.le_trans hB hbase) hB)
/-- What an owned row of strings reads as. -/
theorem StrsAt.of_owns {w : World} {base : Nat} {t : TypeId} {v : Value} {n : Nat} {ss : List ByteArray} (h : w.ownsRow base t 1 v n (ss.map Value.string)) : StrsAt w v ss := by
  obtain ⟨hl, h2⟩ := h
  simp only [List.length_map, Nat.mul_one] at hl
  rcases h2 with ⟨rfl, h0⟩ | ⟨g, cap, cur, rfl, hg, hh, _, _, _, ht⟩
  · exact ⟨none, 0, by rw [hl, h0], .inl (List.eq_nil_of_length_eq_zero (by omega))⟩
  · refine ⟨_, cap, by rw [hl], .inr ⟨g, 0, rfl, lt_of_block hh, fun k hk => ?_⟩⟩
    rw [Nat.zero_add, cell_of_row w g k cur t (0, 0) hh]
    rw [Nat.mul_one] at ht
    have : (cur.toList.take n)[k]? = some (.string ss[k]) := by rw [ht]; simp [hk]
    rw [List.getElem?_take] at this
    split at this
    · simpa using this
    · cases this
end Go.Proofs.YtokmllopbfmadabDoor.Mem

/- Slices of bytes whose room is no less than their length: such as may be cut again. -/
namespace Go.Proofs.YtokmllopbfmadabDoor.Mem
open Go.RowKit
def BsC (w : World) (v : Value) (l : List Nat) : Prop :=
  ∃ ao ex, v = .slice ao l.length (l.length + ex) ∧ (l = [] ∨ ∃ b off, ao = some ⟨b, off, none⟩ ∧ b < w.heap.size ∧ ∀ k, (h : k < l.length) → w.cell? ⟨b, off + k, none⟩ = some (.int .u8 (l[k] : Nat)))
def RowsC (w : World) (v : Value) (rows : List (List Nat)) : Prop :=
  ∃ ao ex, v = .slice ao rows.length (rows.length + ex) ∧ (rows = [] ∨ ∃ b off, ao = some ⟨b, off, none⟩ ∧ b < w.heap.size ∧ ∀ k, (h : k < rows.length) → ∃ u, w.cell? ⟨b, off + k, none⟩ = some u ∧ BsC w u rows[k])
section
variable {w w' : World} {v : Value}
theorem BsC.bs {l : List Nat} (h : BsC w v l) : BsAt w v l := by
  obtain ⟨ao, ex, rfl, h⟩ := h
  exact ⟨ao, _, rfl, h⟩
theorem BsC.to {l : List Nat} (h : BsC w v l) (hb : Below w.heap.size w w') : BsC w' v l := by
  obtain ⟨ao, cap, rfl, h⟩ := h
  refine ⟨ao, cap, rfl, ?_⟩
  rcases h with h | ⟨b, off, rfl, hlt, hc⟩
  · exact .inl h
  · exact .inr ⟨b, off, rfl, Nat.lt_of_lt_of_le hlt hb.size, fun k hk => by rw [hb.cell (p := ⟨b, off + k, none⟩) hlt]; exact hc k hk⟩
theorem RowsC.rows {rows : List (List Nat)} (h : RowsC w v rows) : RowsAt w v rows := by
  obtain ⟨ao, cap, rfl, h⟩ := h
  refine ⟨ao, _, rfl, ?_⟩
  rcases h with h | ⟨b, off, rfl, hlt, hc⟩
  · exact .inl h
  · refine .inr ⟨b, off, rfl, hlt, fun k hk => ?_⟩
    obtain ⟨u, hu, hr⟩ := hc k hk
    exact ⟨u, hu, hr.bs⟩
theorem RowsC.to {rows : List (List Nat)} (h : RowsC w v rows) (hb : Below w.heap.size w w') : RowsC w' v rows := by
  obtain ⟨ao, cap, rfl, h⟩ := h
  refine ⟨ao, cap, rfl, ?_⟩
  rcases h with h | ⟨b, off, rfl, hlt, hc⟩
  · exact .inl h
  · refine .inr ⟨b, off, rfl, Nat.lt_of_lt_of_le hlt hb.size, fun k hk => ?_⟩
    obtain ⟨u, hu, hr⟩ := hc k hk
    exact ⟨u, by rw [hb.cell (p := ⟨b, off + k, none⟩) hlt]; exact hu, hr.to hb⟩
theorem RowsC.pos {rows : List (List Nat)} (h : RowsC w v rows) (hl : 0 < rows.length) : ∃ b off cap, v = .slice (some ⟨b, off, none⟩) rows.length cap ∧ b < w.heap.size ∧ ∀ k, (h : k < rows.length) → ∃ u, w.cell? ⟨b, off + k, none⟩ = some u ∧ BsC w u rows[k] := by
  obtain ⟨ao, cap, rfl, h1⟩ := h
  rcases h1 with h | ⟨b, off, rfl, hlt, hc⟩
  · subst h; simp at hl
  · exact ⟨b, off, _, rfl, hlt, hc⟩
end
theorem OwnAt.bsC {w : World} {u : Value} {l : List Nat} (h : OwnAt w u l) : BsC w u l := by
  obtain ⟨b, rfl, hb⟩ := h
  exact ⟨_, 0, rfl, .inr ⟨b, 0, rfl, hb.lt, fun k hk => by rw [Nat.zero_add, hb.cell k, bytesV_at hk]⟩⟩
theorem Filled.rowsC {w : World} {B n : Nat} {f : Nat → List Nat} (h : Filled w B n n f) {rows : List (List Nat)} (hr : rows.length = n) (he : ∀ k, (h : k < rows.length) → rows[k] = f k) : RowsC w (.slice (some ⟨B, 0, none⟩) n n) rows := by
  refine ⟨_, 0, by rw [hr, Nat.add_zero], .inr ⟨B, 0, rfl, h.lt, fun k hk => ?_⟩⟩
  obtain ⟨u, hu, ho⟩ := h.row (k := k) (by omega)
  exact ⟨u, by rw [Nat.zero_add]; exact hu, by rw [he k hk]; exact ho.bsC⟩
end Go.Proofs.YtokmllopbfmadabDoor.Mem

/- More on blocks of memory. -/
namespace Go.Proofs.YtokmllopbfmadabDoor.Mem
open Go.RowKit
theorem Laid.again {w W W' : World} {B i : Nat} {u v : Value} {t : TypeId} {us : List Value} (h : Laid w W B i u) (hb : Below w.heap.size W W') (hB : Blk w B t us) : Laid w (W'.setCell ⟨B, i, none⟩ v) B i v := by
  have hlt := hB.lt
  refine ⟨by have := hb.size; have := h.size; simp [World.setCell]; omega, fun b h1 h2 => ?_, ?_⟩
  · rw [Below.heap_setCell _ _ _ _ h1, hb.block b h2]; exact h.rest b h1 h2
  · have e : W'.heap[B]? = some (.cells ((us.set i u)).toArray t (0, 0)) := by
      rw [hb.block B hlt, h.row]; exact hB.set i u
    have e1 : Blk (W'.setCell ⟨B, i, none⟩ v) B t ((us.set i u).set i v) := Blk.set (w := W') e i v
    have e2 : Blk (w.setCell ⟨B, i, none⟩ v) B t (us.set i v) := hB.set i v
    rw [List.set_set] at e1
    exact e1.trans e2.symm
/-- The same as one step of a region that draws its order. -/
theorem step_append_one {P : Program} {w : World} {ops : Array Oper} {o : Oper} {a : Act} {K : Act → World → Prop} {Q : Exit → Act → World → Prop} {E : Prop}
    (hgd : o.guard = none) (s x : Operand) (t : TypeId) (hop : o.op = Op.call { callee := Callee.builtin Builtin.append, args := #[s, x], argTypes := #[t, t] })
    (base : Nat) (e : TypeId) (z : Value) (bytes : Nat) (ht : P.underlying t = some (.slice e)) (hinfo : (P.info? e).map (fun i => (i.zero, i.size, i.bytes)) = some (some z, 1, bytes)) (hz : z.cells.size = 1) (hby : bytes ≤ 1000)
    (v : Value) (n : Nat) (xs : List Value) (hs : a.eval s = v) (hown : w.ownsRow base e 1 v n xs) (ad : Addr) (c : Nat) (u : Value) (hx : a.eval x = .slice (some ad) 1 c) (hu : w.cell? ad = some u) (h1 : u.oneCell' = true) (hn : n ≤ 100000) (hbase : base ≤ w.heap.size)
    (hK : ∀ v' w', w'.ownsRow base e 1 v' (n + 1) (xs ++ [u]) → (∀ B a, Below B a w → B ≤ base → Below B a w') → K (a.put o.dst v') w') :
    if Region.wanted o (yielded ops a.tmps) = true then Oper.wp P o a w K Q else E := by
  have hw : Region.wanted o (yielded ops a.tmps) = true := by simp [Region.wanted, hgd]
  rw [if_pos hw]
  obtain ⟨i0, hi, hz0, hz1, hz2⟩ := info_parts hinfo
  obtain ⟨v', w', hrun, ho, hg, _⟩ := run_append_own (P := P) w base t o.type e i0 z 1 bytes ht hi hz0 hz1 hz2 hz (by decide) v n xs hown ad 1 c [u] rfl (fun j y hy => by
    match j, hy with
    | 0, hy => simp at hy; subst hy; rw [Addr.add_zero']; exact hu
    | j + 1, hy => simp at hy) (fun y hy => by simp at hy; subst hy; exact h1) (by unfold maxLen; omega) (by
    have : (n + 1) * bytes ≤ 100001 * 1000 := Nat.mul_le_mul (by omega) hby
    omega) hbase
  unfold Oper.wp
  simp [execOp, hop, resolve, invoke, builtin, hs, hx, hrun, Result.andThen]
  exact hK v' w' ho (fun B b hb hB => below_grown hb hown hg (Nat.le_trans hB hbase) hB)
theorem ownsRow_laid {w W : World} {B i : Nat} {u : Value} {us : List Value} {tB : TypeId} {base : Nat} {e : TypeId} {v : Value} {n : Nat} {xs : List Value} (h : w.ownsRow base e 1 v n xs) (hl : Laid w W B i u) (hB : Blk w B tB us) (ht : e ≠ tB) : W.ownsRow base e 1 v n xs := by
  obtain ⟨h1, h2⟩ := h
  refine ⟨h1, ?_⟩
  rcases h2 with h2 | ⟨g, cap, cur, hv, hg, hh, r⟩
  · exact Or.inl h2
  · have hne : g ≠ B := Blk.type_ne (w := w) (vs := cur.toList) (by unfold Blk; rw [hh]) hB ht
    exact Or.inr ⟨g, cap, cur, hv, hg, by rw [hl.rest g hne (lt_of_block hh)]; exact hh, r⟩
theorem BsAt.of_owns {w : World} {base : Nat} {t : TypeId} {v : Value} {l : List Nat} (h : w.ownsRow base t 1 v l.length (bytesV l)) : BsAt w v l := by
  obtain ⟨hl, h2⟩ := h
  rcases h2 with ⟨rfl, h0⟩ | ⟨g, cap, cur, rfl, hg, hh, _, _, _, ht⟩
  · exact ⟨none, 0, by rw [h0], .inl (List.eq_nil_of_length_eq_zero h0)⟩
  · refine ⟨_, cap, rfl, .inr ⟨g, 0, rfl, lt_of_block hh, fun k hk => ?_⟩⟩
    rw [Nat.zero_add, cell_of_row w g k cur t (0, 0) hh]
    rw [Nat.mul_one] at ht
    have : (cur.toList.take l.length)[k]? = some (.int .u8 (l[k] : Nat)) := by rw [ht]; exact bytesV_at hk
    rw [List.getElem?_take_of_lt hk] at this
    simpa using this
end Go.Proofs.YtokmllopbfmadabDoor.Mem

/- Any square of factors has an inverse: the elimination of one unknown and one equation of inverses of sums. -/
namespace Go.Proofs.YtokmllopbfmadabDoor.Gf

theorem inv_mul (a : Nat) (ha : a < 256) (h : a ≠ 0) : times (inv a) a = 1 := by rw [times_comm _ _ (inv_lt a ha) ha]; exact inv_right a ha h
theorem times_eq_zero (a b : Nat) (ha : a < 256) (hb : b < 256) (h : times a b = 0) : a = 0 ∨ b = 0 := by
  by_cases h0 : a = 0
  · exact .inl h0
  · refine .inr ?_
    have e : times (times (inv a) a) b = times (inv a) (times a b) := times_assoc _ _ _ (inv_lt a ha) ha hb
    rw [inv_mul a ha h0, one_times b hb, h, times_zero _ (inv_lt a ha)] at e
    exact e
theorem inv_ne_zero (a : Nat) (ha : a < 256) (h : a ≠ 0) : inv a ≠ 0 := by
  have := inv_pos a ha h; omega
theorem xor_eq_zero {a b : Nat} (h : a ^^^ b = 0) : a = b := by
  have := congrArg (a ^^^ ·) h
  simp only [xcl, Nat.xor_zero] at this
  exact this.symm
theorem xor_ne_zero {a b : Nat} (h : a ≠ b) : a ^^^ b ≠ 0 := fun e => h (xor_eq_zero e)

/-- Two inverses, on one denominator. -/
theorem inv_add (a b : Nat) (ha : a < 256) (hb : b < 256) (ha0 : a ≠ 0) (hb0 : b ≠ 0) : inv a ^^^ inv b = times (a ^^^ b) (times (inv b) (inv a)) := by
  have la := inv_lt a ha
  have lb := inv_lt b hb
  rw [times_xor_l a b _ ha hb]
  have e1 : times a (times (inv b) (inv a)) = inv b := by
    rw [times_comm (inv b) (inv a) lb la, ← times_assoc a _ _ ha la lb, inv_right a ha ha0, one_times _ lb]
  have e2 : times b (times (inv b) (inv a)) = inv a := by
    rw [← times_assoc b _ _ hb lb la, inv_right b hb hb0, one_times _ la]
  rw [e1, e2, Nat.xor_comm]
/-- What is left of an unknown behind the elimination. -/
theorem elim_one (a b c : Nat) (ha : a < 256) (hb : b < 256) (hc : c < 256) (ha0 : a ≠ 0) (hb0 : b ≠ 0) :
    times (a ^^^ c) (inv a) ^^^ times (b ^^^ c) (inv b) = times (a ^^^ b) (times (times c (inv b)) (inv a)) := by
  have la := inv_lt a ha
  have lb := inv_lt b hb
  rw [times_xor_l a c _ ha hc, times_xor_l b c _ hb hc, inv_right a ha ha0, inv_right b hb hb0, xor4, Nat.xor_self, Nat.zero_xor, ← times_xor_r c _ _ hc, inv_add a b ha hb ha0 hb0]
  have lab : a ^^^ b < 256 := xor_lt ha hb
  have lba : times (inv b) (inv a) < 256 := times_lt _ _ lb
  rw [← times_assoc c _ _ hc lab lba, times_comm c _ hc lab, times_assoc _ c _ lab hc lba, times_assoc c _ _ hc lb la]

/-- The sum of the unknowns, each divided by p plus its place. -/
def csum (x : Nat → Nat) (p : Nat) : List Nat → Nat
  | [] => 0
  | j :: J => times (x j) (inv (p ^^^ j)) ^^^ csum x p J
theorem csum_lt (x : Nat → Nat) (p : Nat) (J : List Nat) (hx : ∀ j, j ∈ J → x j < 256) : csum x p J < 256 := by
  induction J with
  | nil => simp [csum]
  | cons j J ih => exact xor_lt (times_lt _ _ (hx j (by simp))) (ih fun i hi => hx i (by simp [hi]))
/-- p's sum times so much, and p0's times so much, come to one sum with less unknowns. -/
theorem csum_elim (x : Nat → Nat) (p p0 j0 : Nat) (hp : p < 256) (hp0 : p0 < 256) (hj0 : j0 < 256) (J : List Nat) (hx : ∀ j, j ∈ J → x j < 256) (hJ : ∀ j, j ∈ J → j < 256) (h1 : ∀ j, j ∈ J → p ≠ j) (h2 : ∀ j, j ∈ J → p0 ≠ j) :
    times (p ^^^ j0) (csum x p J) ^^^ times (p0 ^^^ j0) (csum x p0 J) = times (p ^^^ p0) (csum (fun j => times (x j) (times (j ^^^ j0) (inv (p0 ^^^ j)))) p J) := by
  have lpj : p ^^^ j0 < 256 := xor_lt hp hj0
  have lp0j : p0 ^^^ j0 < 256 := xor_lt hp0 hj0
  have lpp : p ^^^ p0 < 256 := xor_lt hp hp0
  induction J with
  | nil => simp only [csum]; rw [times_zero _ lpj, times_zero _ lp0j, times_zero _ lpp]; rfl
  | cons j J ih =>
    have ih := ih (fun i hi => hx i (by simp [hi])) (fun i hi => hJ i (by simp [hi])) (fun i hi => h1 i (by simp [hi])) (fun i hi => h2 i (by simp [hi]))
    have hxj := hx j (by simp)
    have hjb := hJ j (by simp)
    have la : p ^^^ j < 256 := xor_lt hp hjb
    have lb : p0 ^^^ j < 256 := xor_lt hp0 hjb
    have lc : j ^^^ j0 < 256 := xor_lt hjb hj0
    have na := xor_ne_zero (h1 j (by simp))
    have nb := xor_ne_zero (h2 j (by simp))
    have lia := inv_lt _ la
    have lib := inv_lt _ lb
    simp only [csum]
    rw [times_xor_r _ _ _ lpj, times_xor_r _ _ _ lp0j, times_xor_r _ _ _ lpp, xor4, ih]
    congr 1
    -- the one unknown
    have e := elim_one (p ^^^ j) (p0 ^^^ j) (j ^^^ j0) la lb lc na nb
    have s1 : (p ^^^ j) ^^^ (j ^^^ j0) = p ^^^ j0 := by rw [Nat.xor_assoc, xcl]
    have s2 : (p0 ^^^ j) ^^^ (j ^^^ j0) = p0 ^^^ j0 := by rw [Nat.xor_assoc, xcl]
    have s3 : (p ^^^ j) ^^^ (p0 ^^^ j) = p ^^^ p0 := by rw [xor4, Nat.xor_self, Nat.xor_zero]
    rw [s1, s2, s3] at e
    have q1 : times (p ^^^ j0) (times (x j) (inv (p ^^^ j))) = times (x j) (times (p ^^^ j0) (inv (p ^^^ j))) := by
      rw [← times_assoc _ _ _ lpj hxj lia, times_comm _ _ lpj hxj, times_assoc _ _ _ hxj lpj lia]
    have q2 : times (p0 ^^^ j0) (times (x j) (inv (p0 ^^^ j))) = times (x j) (times (p0 ^^^ j0) (inv (p0 ^^^ j))) := by
      rw [← times_assoc _ _ _ lp0j hxj lib, times_comm _ _ lp0j hxj, times_assoc _ _ _ hxj lp0j lib]
    have lcb : times (j ^^^ j0) (inv (p0 ^^^ j)) < 256 := times_lt _ _ lc
    rw [q1, q2, ← times_xor_r _ _ _ hxj, e, ← times_assoc _ _ _ hxj lpp (times_lt _ _ lcb), times_comm _ _ hxj lpp, times_assoc _ _ _ lpp hxj (times_lt _ _ lcb), times_assoc _ _ _ hxj lcb lia]

/-- ████ Where as many sums are nothing as there are unknowns, each unknown is nothing. ████ -/
theorem cauchy : ∀ (J P : List Nat), J.length = P.length → J.Nodup → P.Nodup → (∀ j, j ∈ J → j < 256) → (∀ p, p ∈ P → p < 256) → (∀ j, j ∈ J → ∀ p, p ∈ P → p ≠ j) →
    ∀ x : Nat → Nat, (∀ j, j ∈ J → x j < 256) → (∀ p, p ∈ P → csum x p J = 0) → ∀ j, j ∈ J → x j = 0
  | [], _, _, _, _, _, _, _, _, _, _ => fun j hj => by cases hj
  | j0 :: J, [], h, _, _, _, _, _, _, _, _ => by simp at h
  | j0 :: J, p0 :: P, hl, hJ, hP, bJ, bP, hne, x, bx, hs => by
    have hj0 : j0 < 256 := bJ j0 (by simp)
    have hp0 : p0 < 256 := bP p0 (by simp)
    have hJ1 := (List.nodup_cons.1 hJ)
    have hP1 := (List.nodup_cons.1 hP)
    have by_ : ∀ j, j ∈ J → (fun j => times (x j) (times (j ^^^ j0) (inv (p0 ^^^ j)))) j < 256 := fun j hj => times_lt _ _ (bx j (by simp [hj]))
    have key := cauchy J P (by simpa using hl) hJ1.2 hP1.2 (fun j hj => bJ j (by simp [hj])) (fun p hp => bP p (by simp [hp])) (fun j hj p hp => hne j (by simp [hj]) p (by simp [hp]))
      (fun j => times (x j) (times (j ^^^ j0) (inv (p0 ^^^ j)))) by_ (fun p hp => ?_)
    · have hz : ∀ j, j ∈ J → x j = 0 := by
        intro j hj
        have hjb := bJ j (by simp [hj])
        have k := key j hj
        have lb : p0 ^^^ j < 256 := xor_lt hp0 hjb
        have nb := xor_ne_zero (hne j (by simp [hj]) p0 (by simp))
        have hjj : j ≠ j0 := fun e => hJ1.1 (e ▸ hj)
        rcases times_eq_zero _ _ (bx j (by simp [hj])) (times_lt _ _ (xor_lt hjb hj0)) k with k | k
        · exact k
        · rcases times_eq_zero _ _ (xor_lt hjb hj0) (inv_lt _ lb) k with k | k
          · exact absurd k (xor_ne_zero hjj)
          · exact absurd k (inv_ne_zero _ lb nb)
      have hrest : ∀ (K : List Nat), (∀ j, j ∈ K → x j = 0 ∧ j < 256) → csum x p0 K = 0 := by
        intro K
        induction K with
        | nil => intro _; rfl
        | cons j K ih =>
          intro h
          have hj := h j (by simp)
          rw [csum, hj.1, zero_times _ (inv_lt _ (xor_lt hp0 hj.2)), ih fun i hi => h i (by simp [hi])]; rfl
      intro j hj
      rcases List.mem_cons.1 hj with rfl | hj
      · have e := hs p0 (by simp)
        rw [csum, hrest J (fun j hj => ⟨hz j hj, bJ j (by simp [hj])⟩), Nat.xor_zero] at e
        have lb : p0 ^^^ j < 256 := xor_lt hp0 hj0
        rcases times_eq_zero _ _ (bx j (by simp)) (inv_lt _ lb) e with k | k
        · exact k
        · exact absurd k (inv_ne_zero _ lb (xor_ne_zero (hne j (by simp) p0 (by simp))))
      · exact hz j hj
    · have hpb := bP p (by simp [hp])
      have e1 := hs p (by simp [hp])
      have e0 := hs p0 (by simp)
      have hel := csum_elim x p p0 j0 hpb hp0 hj0 (j0 :: J) bx bJ (fun j hj => hne j hj p (by simp [hp])) (fun j hj => hne j hj p0 (by simp))
      rw [e1, e0, times_zero _ (xor_lt hpb hj0), times_zero _ (xor_lt hp0 hj0), Nat.xor_self] at hel
      have hpp : p ≠ p0 := fun e => hP1.1 (e ▸ hp)
      have lpp : p ^^^ p0 < 256 := xor_lt hpb hp0
      have ly : ∀ j, j ∈ j0 :: J → (fun j => times (x j) (times (j ^^^ j0) (inv (p0 ^^^ j)))) j < 256 := fun j hj => times_lt _ _ (bx j hj)
      rcases times_eq_zero _ _ lpp (csum_lt _ _ _ ly) hel.symm with k | k
      · exact absurd k (xor_ne_zero hpp)
      · rw [csum] at k
        have z : times (x j0) (times (j0 ^^^ j0) (inv (p0 ^^^ j0))) = 0 := by
          rw [Nat.xor_self, zero_times _ (inv_lt _ (xor_lt hp0 hj0)), times_zero _ (bx j0 (by simp))]
        rw [z, zero_times _ (inv_lt _ (xor_lt hpb hj0)), Nat.zero_xor] at k
        exact k
end Go.Proofs.YtokmllopbfmadabDoor.Gf
