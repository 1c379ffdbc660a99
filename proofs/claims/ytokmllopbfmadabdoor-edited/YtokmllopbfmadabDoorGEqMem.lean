import Derived.Deep.CutRange
import Derived.Test.YtokmllopbfmadabDoorGShaped
import Derived.Test.YtokmllopbfmadabDoorGSolve
import Derived.Deep.RegionHeld3
import Derived.Test.YtokmllopbfmadabDoorGPackMath
/- Lists of numbers in memory, of which it is said in which blocks they lie; equations. -/
namespace Go.Proofs.YtokmllopbfmadabDoor.Ref
open Go.RowKit Mem FieldWalks Tab ByTab Parts
open Gf (Bytes sumTo addTo)
open Plans (But intsV infoInt)

/-- The slice v reads as these numbers; it lies at the front of a block of which P is so. -/
def NsP (P : Nat → Prop) (w : World) (v : Value) (l : List Nat) : Prop :=
  ∃ ao cap, v = .slice ao l.length cap ∧ (l = [] ∨ ∃ b us, ao = some ⟨b, 0, none⟩ ∧ P b ∧ Blk w b 3 us ∧ ∀ k, (h : k < l.length) → us[k]? = some (.int .i64 (l[k] : Nat)))
section
variable {P Q : Nat → Prop} {w w' : World} {v : Value} {l : List Nat}
theorem NsP.mono (h : NsP P w v l) (hPQ : ∀ b, b < w.heap.size → P b → Q b) : NsP Q w v l := by
  obtain ⟨ao, cap, rfl, h⟩ := h
  refine ⟨ao, cap, rfl, ?_⟩
  rcases h with h | ⟨b, us, rfl, hp, hb, hc⟩
  · exact .inl h
  · exact .inr ⟨b, us, rfl, hPQ b hb.lt hp, hb, hc⟩
theorem NsP.to (h : NsP P w v l) (hb : Below w.heap.size w w') : NsP P w' v l := by
  obtain ⟨ao, cap, rfl, h⟩ := h
  refine ⟨ao, cap, rfl, ?_⟩
  rcases h with h | ⟨b, us, rfl, hp, hk, hc⟩
  · exact .inl h
  · exact .inr ⟨b, us, rfl, hp, hk.to hb, hc⟩
/-- Writes into a block that is none of theirs. -/
theorem NsP.but {S : Nat} (h : NsP P w v l) (hb : But S w w') (hP : ∀ b us, Blk w b 3 us → P b → b ≠ S) : NsP P w' v l := by
  obtain ⟨ao, cap, rfl, h⟩ := h
  refine ⟨ao, cap, rfl, ?_⟩
  rcases h with h | ⟨b, us, rfl, hp, hk, hc⟩
  · exact .inl h
  · exact .inr ⟨b, us, rfl, hp, hb.blk hk (hP b us hk hp), hc⟩
theorem NsP.of_blk {b : Nat} (h : Blk w b 3 (intsV l)) (hP : P b) (n c : Nat) (hn : n = l.length) : NsP P w (.slice (some ⟨b, 0, none⟩) n c) l := by
  subst hn
  exact ⟨_, _, rfl, .inr ⟨b, _, rfl, hP, h, fun k hk => by simp [intsV, hk]⟩⟩
theorem NsP.pos (h : NsP P w v l) (hl : 0 < l.length) : ∃ b cap, v = .slice (some ⟨b, 0, none⟩) l.length cap ∧ b < w.heap.size ∧ ∀ k, (h : k < l.length) → w.cell? ⟨b, k, none⟩ = some (.int .i64 (l[k] : Nat)) := by
  obtain ⟨ao, cap, rfl, h⟩ := h
  rcases h with h | ⟨b, us, rfl, hp, hk, hc⟩
  · subst h; simp at hl
  · exact ⟨b, cap, rfl, hk.lt, fun k h => hk.cell_some (hc k h)⟩
theorem NsP.form (h : NsP P w v l) : ∃ ao cap, v = .slice ao l.length cap := by
  obtain ⟨ao, cap, rfl, h⟩ := h; exact ⟨_, _, rfl⟩
theorem NsP.of_owns {base : Nat} (h : w.ownsRow base 3 1 v l.length (intsV l)) (hP : ∀ b, base ≤ b → P b) : NsP P w v l := by
  obtain ⟨hl, h2⟩ := h
  rcases h2 with ⟨rfl, h0⟩ | ⟨g, cap, cur, rfl, hg, hh, _, _, _, ht⟩
  · exact ⟨none, 0, by rw [h0], .inl (List.eq_nil_of_length_eq_zero h0)⟩
  · refine ⟨_, cap, rfl, .inr ⟨g, cur.toList, rfl, hP g hg, by unfold Blk; rw [hh], fun k hk => ?_⟩⟩
    rw [Nat.mul_one] at ht
    have : (cur.toList.take l.length)[k]? = some (.int .i64 (l[k] : Nat)) := by rw [ht]; simp [intsV, hk]
    rw [List.getElem?_take_of_lt hk] at this
    exact this
end
theorem make_ints (n : Nat) (hn : n ≤ 100000) (w : World) :
    (Instr.makeSlice 32 (.int .i64 (n : Int)) (.int .i64 (n : Int))).run Tryd.prog w = .ok (.slice (some ⟨w.heap.size, 0, none⟩) n n) (w.alloc (.cells (madeCells #[.int .i64 0] n) 3)) := by
  obtain ⟨i, hi, hz0, hz1, hz2⟩ := info_parts infoInt
  have := run_make (P := Tryd.prog) w 32 3 i (.int .i64 0) Tryd.underlying32 hi hz0 .i64 .i64 n n (by omega) (by omega) (by rw [hz2]; omega) (by omega)
  rw [hz1, Int.toNat_natCast, Nat.mul_one] at this
  exact this
theorem made_ints (w : World) (n : Nat) : Blk (w.alloc (.cells (madeCells #[.int .i64 0] n) 3)) w.heap.size 3 (intsV (List.replicate n 0)) := by
  refine (Blk.new w _ _).eq ?_
  rw [toList_madeCells_one]; simp [intsV]
end Go.Proofs.YtokmllopbfmadabDoor.Ref

namespace Go.Proofs.YtokmllopbfmadabDoor.Ref
open Go.RowKit Mem FieldWalks Tab ByTab Parts
open Gf (Bytes sumTo addTo)
open Plans (But intsV infoInt)

theorem at_alloc {w : World} {k : Nat} {o x : Obj} (h : w.heap[k]? = some o) : (w.alloc x).heap[k]? = some o := (Below.heap_alloc w x k (lt_of_block h)).trans h
theorem new_alloc {k : Nat} (w : World) (x : Obj) (hk : k = w.heap.size) : (w.alloc x).heap[k]? = some x := by subst hk; exact heap_alloc_new w x
theorem six (w : World) (x0 x1 x2 x3 x4 x5 : Obj) : let W := ((((((w.alloc x0).alloc x1).alloc x2).alloc x3).alloc x4).alloc x5).drew
    W.heap[w.heap.size]? = some x0 ∧ W.heap[w.heap.size + 1]? = some x1 ∧ W.heap[w.heap.size + 1 + 1]? = some x2 ∧ W.heap[w.heap.size + 1 + 1 + 1]? = some x3 ∧ W.heap[w.heap.size + 1 + 1 + 1 + 1]? = some x4 ∧ W.heap[w.heap.size + 1 + 1 + 1 + 1 + 1]? = some x5 ∧ Below w.heap.size w W := by
  exact ⟨at_alloc (at_alloc (at_alloc (at_alloc (at_alloc (new_alloc w x0 rfl))))), at_alloc (at_alloc (at_alloc (at_alloc (new_alloc _ x1 (by simp))))), at_alloc (at_alloc (at_alloc (new_alloc _ x2 (by simp)))), at_alloc (at_alloc (new_alloc _ x3 (by simp))), at_alloc (new_alloc _ x4 (by simp)), new_alloc _ x5 (by simp),
    ((((((((Below.refl _ _).alloc (Nat.le_refl _) _).alloc (by simp) _).alloc (by simp; omega) _).alloc (by simp; omega) _).alloc (by simp; omega) _).alloc (by simp; omega) _)).drew⟩

/-- What a round of either loop reads and writes. -/
theorem less_facts {w wc wr : World} {f1 f2 : List Nat} {n m j B : Nat} {P R : Nat → Prop} {ca cb : Nat} {a b : Option Addr} (hbut : But B wc wr) (hblk : Blk wr B 3 (intsV (mix (addTo m f1 f2) (List.replicate n 0) j)))
    (l1 : f1.length = n) (l2 : f2.length = n) (h1 : NsP P w (.slice a n ca) f1) (h2 : NsP R w (.slice b n cb) f2) (b1 : Bytes f1) (b2 : Bytes f2) (hm : m < 256) (hB : w.heap.size ≤ B) (hb : Below w.heap.size w wc) (hj : j < n) :
    ∃ p q x y : Nat, a = some ⟨p, 0, none⟩ ∧ b = some ⟨q, 0, none⟩ ∧ p ≠ B ∧ q ≠ B ∧ x < 256 ∧ y < 256 ∧ wr.cell? ⟨p, j, none⟩ = some (.int .i64 (x : Nat)) ∧ wr.cell? ⟨q, j, none⟩ = some (.int .i64 (y : Nat)) ∧ wr.cell? ⟨B, j, none⟩ = some (.int .i64 0) ∧ wr.frozen? ⟨B, j, none⟩ = false ∧
      bits .xor .i64 (x : Int) ((Gf.times m y : Nat) : Int) = ((x ^^^ Gf.times m y : Nat) : Int) ∧ Blk (wr.setCell ⟨B, j, none⟩ (.int .i64 ((x ^^^ Gf.times m y : Nat) : Int))) B 3 (intsV (mix (addTo m f1 f2) (List.replicate n 0) (j + 1))) := by
  obtain ⟨p, c, e1, hp, hpc⟩ := h1.pos (by omega)
  obtain ⟨q, c', e2, hq, hqc⟩ := h2.pos (by omega)
  injection e1 with e11 e12 e13
  injection e2 with e21 e22 e23
  have la : (addTo m f1 f2).length = n := by rw [Gf.addTo_length (by omega)]; omega
  have hle : (addTo m f1 f2).length = (List.replicate n 0).length := by simp [la]
  have hx := b1.at j (by omega)
  have hy := b2.at j (by omega)
  have ht := Gf.times_lt m (f2[j]'(by omega)) hm
  have hsz := hb.size
  have back : ∀ k, k < w.heap.size → wr.cell? ⟨k, j, none⟩ = w.cell? ⟨k, j, none⟩ := fun k hk => (hbut.cell (p := ⟨k, j, none⟩) (by show k ≠ B; omega) (by show k < wc.heap.size; omega)).trans (hb.cell (p := ⟨k, j, none⟩) hk)
  refine ⟨p, q, f1[j], f2[j], e11, e21, by omega, by omega, hx, hy, ?_, ?_, ?_, hblk.free j, Gf.i64_xor _ _ (by omega) (by omega), ?_⟩
  · rw [back p hp]; exact hpc j (by omega)
  · rw [back q hq]; exact hqc j (by omega)
  · refine hblk.cell_some ?_
    have := mix_at (new := addTo m f1 f2) (old := List.replicate n 0) (k := j) hle (by simpa using hj)
    simp [intsV, this]
  · refine (hblk.set j _).eq ?_
    have := mix_set (new := addTo m f1 f2) (old := List.replicate n 0) (k := j) hle (by simpa using hj)
    rw [← this]
    simp [intsV, List.map_set, addTo]

end Go.Proofs.YtokmllopbfmadabDoor.Ref

namespace Go.Proofs.YtokmllopbfmadabDoor.Ref
open Go.RowKit Mem FieldWalks Tab ByTab Parts
open Gf (Bytes)

theorem str_beq (a b : ByteArray) : (a.toList == b.toList) = decide (a = b) := by
  rw [Bool.eq_iff_iff, decide_eq_true_iff, ByteArray.toList_eq, ByteArray.toList_eq, beq_iff_eq]
  exact ⟨fun h => ByteArray.ext (Array.ext' h), fun h => by rw [h]⟩
theorem byteAt_get (p : ByteArray) (i : Nat) (h : i < p.size) : (p[i]'h).toNat = byteAt p i := (nums_get p i h).symm
theorem byteAt_lt (p : ByteArray) (i : Nat) : byteAt p i < 256 := (nums_bytes p).getD i
theorem results_row_tmp {P : Program} {fn : Func} {p u : Tmp} {ty : TypeId} (h : fn.results = #[.cell p ty, .tmp u]) (tmps : Array Value) (w : World) (g : Nat) (t : TypeId) (cs : Array Value) (fr : Nat × Nat) (d : TypeDesc)
    (hp : tmps.getD p undef = .pointer (some ⟨g, 0, none⟩)) (hg : w.heap[g]? = some (.cells cs t fr))
    (hu : P.underlying ty = some d) (hd : (match d with | .struct _ | .array _ _ => true | _ => false) = true) (hi : (P.info? ty).map (·.size) = some cs.size) (v : Value) (hv : tmps.getD u undef = v) :
    (results fn tmps).run P w = .ok (.tuple #[.agg cs, v]) w := by
  have hp' : tmps[p]?.getD undef = .pointer (some ⟨g, 0, none⟩) := by simpa using hp
  have hv' : tmps[u]?.getD undef = v := by simpa using hv
  simp [results, h, hp', hv', asAddr, run_loadVar_row w g t ty cs fr d hg hu hd hi]
theorem results_row_tmp3 {P : Program} {fn : Func} {p u u2 u3 : Tmp} {ty : TypeId} (h : fn.results = #[.cell p ty, .tmp u, .tmp u2, .tmp u3]) (tmps : Array Value) (w : World) (g : Nat) (t : TypeId) (cs : Array Value) (fr : Nat × Nat) (d : TypeDesc)
    (hp : tmps.getD p undef = .pointer (some ⟨g, 0, none⟩)) (hg : w.heap[g]? = some (.cells cs t fr))
    (hu : P.underlying ty = some d) (hd : (match d with | .struct _ | .array _ _ => true | _ => false) = true) (hi : (P.info? ty).map (·.size) = some cs.size) (v v2 v3 : Value) (hv : tmps.getD u undef = v) (hv2 : tmps.getD u2 undef = v2) (hv3 : tmps.getD u3 undef = v3) :
    (results fn tmps).run P w = .ok (.tuple #[.agg cs, v, v2, v3]) w := by
  have hp' : tmps[p]?.getD undef = .pointer (some ⟨g, 0, none⟩) := by simpa using hp
  have hv' : tmps[u]?.getD undef = v := by simpa using hv
  have hv2' : tmps[u2]?.getD undef = v2 := by simpa using hv2
  have hv3' : tmps[u3]?.getD undef = v3 := by simpa using hv3
  simp [results, h, hp', hv', hv2', hv3', asAddr, run_loadVar_row w g t ty cs fr d hg hu hd hi]
/-- The zero value of what Open answers. -/
def noOpened : Value := .agg #[.int .i64 0, .int .i64 0, .int .i64 0, .slice none 0 0, .slice none 0 0]

end Go.Proofs.YtokmllopbfmadabDoor.Ref
