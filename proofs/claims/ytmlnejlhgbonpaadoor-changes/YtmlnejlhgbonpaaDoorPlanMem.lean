/- Rows that are given by a function; worlds that differ in one block. -/
import Derived.Test.YtmlnejlhgbonpaaDoorMem
namespace Go.Proofs.YtmlnejlhgbonpaaDoor.Plans
open Go.RowKit Mem

/-- The row whose place i holds f i. -/
def rowF (m : Nat) (f : Nat → Nat) : List Nat := (List.range m).map f
@[simp] theorem rowF_length (m : Nat) (f : Nat → Nat) : (rowF m f).length = m := by simp [rowF]
theorem rowF_at {m k : Nat} (f : Nat → Nat) (h : k < (rowF m f).length) : (rowF m f)[k] = f k := by simp [rowF]
theorem rowF_congr {m : Nat} {f g : Nat → Nat} (h : ∀ i, i < m → f i = g i) : rowF m f = rowF m g := by
  unfold rowF; exact List.map_congr_left fun i hi => h i (List.mem_range.1 hi)
def upd (f : Nat → Nat) (k x : Nat) : Nat → Nat := fun i => if i = k then x else f i
theorem rowF_set (m k x : Nat) (f : Nat → Nat) : (rowF m f).set k x = rowF m (upd f k x) := by
  apply List.ext_getElem
  · simp
  · intro i h1 h2
    rw [List.getElem_set]
    by_cases e : k = i
    · subst e; simp [rowF, upd]
    · simp [rowF, upd, e, Ne.symm e]
theorem rowF_zero (m : Nat) : rowF m (fun _ => 0) = List.replicate m 0 := by
  apply List.ext_getElem <;> simp [rowF]

/-- w' is w but for block S, and new blocks. -/
structure But (S : Nat) (w w' : World) : Prop where
  os : w'.os = w.os
  tape : w'.tape = w.tape
  output : w'.output = w.output
  size : w.heap.size ≤ w'.heap.size
  rest : ∀ b, b ≠ S → b < w.heap.size → w'.heap[b]? = w.heap[b]?
section
variable {S : Nat} {w w' w'' : World}
theorem But.refl (S : Nat) (w : World) : But S w w := ⟨rfl, rfl, rfl, Nat.le_refl _, fun _ _ _ => rfl⟩
theorem But.setCell (h : But S w w') (k : Nat) (v : Value) : But S w (w'.setCell ⟨S, k, none⟩ v) :=
  ⟨h.os, h.tape, h.output, by rw [size_setCell]; exact h.size, fun b h1 h2 => (Below.heap_setCell w' _ v b h1).trans (h.rest b h1 h2)⟩
theorem But.drew (h : But S w w') : But S w w'.drew := ⟨h.os, h.tape, h.output, h.size, h.rest⟩
theorem But.to (h : But S w w') (hb : Below w'.heap.size w' w'') : But S w w'' :=
  ⟨hb.os.trans h.os, hb.tape.trans h.tape, hb.output.trans h.output, Nat.le_trans h.size hb.size, fun b h1 h2 => (hb.block b (Nat.lt_of_lt_of_le h2 h.size)).trans (h.rest b h1 h2)⟩
theorem But.alloc (h : But S w w') (o : Obj) : But S w (w'.alloc o) := h.to ((Below.refl _ _).alloc (Nat.le_refl _) o)
theorem But.trans (h : But S w w') (k : But S w' w'') : But S w w'' :=
  ⟨k.os.trans h.os, k.tape.trans h.tape, k.output.trans h.output, Nat.le_trans h.size k.size, fun b h1 h2 => (k.rest b h1 (Nat.lt_of_lt_of_le h2 h.size)).trans (h.rest b h1 h2)⟩
theorem But.row (h : But S w w') (cs : Array Value) : But S w (w'.setRow S cs) :=
  ⟨h.os, h.tape, h.output, by simpa [World.setRow] using h.size, fun b h1 h2 => (setRow_other w' S b cs h1).trans (h.rest b h1 h2)⟩
/-- A new row of the call's own may be written. -/
theorem But.row_new (h : But S w w') {g : Nat} (hg : w.heap.size ≤ g) (cs : Array Value) : But S w (w'.setRow g cs) :=
  ⟨h.os, h.tape, h.output, by simpa [World.setRow] using h.size, fun b h1 h2 => (setRow_other w' g b cs (by omega)).trans (h.rest b h1 h2)⟩
theorem But.cell_new (h : But S w w') {a : Addr} (hg : w.heap.size ≤ a.block) (v : Value) : But S w (w'.setCell a v) :=
  ⟨h.os, h.tape, h.output, by rw [size_setCell]; exact h.size, fun b h1 h2 => (Below.heap_setCell w' _ v b (by omega)).trans (h.rest b h1 h2)⟩
theorem But.below {B : Nat} {w0 : World} (h : But S w w') (hb : Below B w0 w) (hS : B ≤ S) (hB : B ≤ w.heap.size) : Below B w0 w' :=
  hb.trans ⟨h.os, h.tape, h.output, h.size, fun k hk => h.rest k (by omega) (by omega)⟩
theorem But.blk {b : Nat} {t : TypeId} {vs : List Value} (h : But S w w') (hb : Blk w b t vs) (hne : b ≠ S) : Blk w' b t vs := by
  unfold Blk; rw [h.rest b hne hb.lt]; exact hb
theorem But.cell (h : But S w w') {p : Addr} (hne : p.block ≠ S) (hlt : p.block < w.heap.size) : w'.cell? p = w.cell? p := World.cell?_of_block (h.rest _ hne hlt)
end
end Go.Proofs.YtmlnejlhgbonpaaDoor.Plans
