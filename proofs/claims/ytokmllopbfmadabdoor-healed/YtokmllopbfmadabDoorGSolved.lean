import Derived.Test.YtokmllopbfmadabDoorGPkPieces
namespace Go.Proofs.YtokmllopbfmadabDoor.Ref
open Go.RowKit Mem FieldWalks Tab ByTab Parts
open Gf (Bytes sumTo addTo rowOf dot Gauss outOf)
open Plans (But intsV infoInt rowF rowF_length)

def boolsV (l : List Bool) : List Value := l.map Value.bool
theorem infoBool : (Tryd.prog.info? 4).map (fun i => (i.zero, i.size, i.bytes)) = some (some (.bool false), 1, 1) := by kernel_rfl
theorem make_bools (n : Nat) (hn : n ≤ 100000) (w : World) :
    (Instr.makeSlice 131 (.int .i64 (n : Int)) (.int .i64 (n : Int))).run Tryd.prog w = .ok (.slice (some ⟨w.heap.size, 0, none⟩) n n) (w.alloc (.cells (madeCells #[.bool false] n) 4)) := by
  obtain ⟨i, hi, hz0, hz1, hz2⟩ := info_parts infoBool
  have := run_make (P := Tryd.prog) w 131 4 i (.bool false) Tryd.underlying131 hi hz0 .i64 .i64 n n (by omega) (by omega) (by rw [hz2]; omega) (by omega)
  rw [hz1, Int.toNat_natCast, Nat.mul_one] at this
  exact this
theorem made_bools (w : World) (n : Nat) : Blk (w.alloc (.cells (madeCells #[.bool false] n) 4)) w.heap.size 4 (boolsV (List.replicate n false)) := by
  refine (Blk.new w _ _).eq ?_
  rw [toList_madeCells_one]; simp [boolsV]
theorem bools_at {w : World} {b : Nat} {l : List Bool} (h : Blk w b 4 (boolsV l)) {k : Nat} (hk : k < l.length) : w.cell? ⟨b, k, none⟩ = some (.bool (l.getD k false)) := h.cell_some (by simp [boolsV, hk])
theorem ints_at {w : World} {b : Nat} {l : List Nat} (h : Blk w b 3 (intsV l)) {k : Nat} (hk : k < l.length) : w.cell? ⟨b, k, none⟩ = some (.int .i64 ((l.getD k 0 : Nat) : Int)) := h.cell_some (by simp [intsV, hk])

theorem two_set {w : World} {B q : Nat} {p : Addr} {f v : Value} (h1 : p ≠ ⟨B, q * 2, none⟩) (h2 : p ≠ ⟨B, q * 2 + 1, none⟩) : ((w.setCell ⟨B, q * 2, none⟩ f).setCell ⟨B, q * 2 + 1, none⟩ v).cell? p = w.cell? p :=
  (World.cell?_setCell_other _ _ _ _ (Ne.symm h2)).trans (World.cell?_setCell_other _ _ _ _ (Ne.symm h1))
theorem tookTo_getD {R : List Eqn} {j r by_ q i : Nat} (hi : i < R.length) (h : q ≤ i ∨ i = r) : (tookTo R j r by_ q).getD i ([], []) = R.getD i ([], []) := by
  have hl : i < (tookTo R j r by_ q).length := by rw [tookTo_length]; exact hi
  rw [List.getD_eq_getElem?_getD, List.getElem?_eq_getElem hl, Option.getD_some, tookTo_at, if_neg (by omega)]
theorem tookTo_Fof {R : List Eqn} {j r by_ q i : Nat} (hi : i < R.length) (h : q ≤ i ∨ i = r) (k : Nat) : Fof (tookTo R j r by_ q) i k = Fof R i k := by unfold Fof; rw [tookTo_getD hi h]

end Go.Proofs.YtokmllopbfmadabDoor.Ref
