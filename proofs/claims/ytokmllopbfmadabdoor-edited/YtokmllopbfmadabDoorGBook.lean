import Derived.Test.YtokmllopbfmadabDoorGChecks
import Derived.Laws.CopyOwn
import Derived.WalkSpells
import Derived.Test.YtokmllopbfmadabDoorGSolve
import Derived.OpenShut
import Derived.Deep.Strs
import Derived.ChangeSlices
import Derived.SizedLaws
import Derived.Carry
namespace Go.Proofs.YtokmllopbfmadabDoor.Book
open Go.RowKit Mem FieldWalks Tab ByTab Parts

/-- The mark of a number below ten. -/
def markS (n : Nat) : ByteArray := ⟨#[109, 97, 114, 107, UInt8.ofNat (48 + n)]⟩
end Go.Proofs.YtokmllopbfmadabDoor.Book

namespace Go.Proofs.YtokmllopbfmadabDoor.Book
open Go.RowKit Mem FieldWalks Tab ByTab Parts Ref
open Plans (But infoInt)

def beyond : ByteArray := ⟨#[98, 101, 121, 111, 110, 100]⟩
def mine : ByteArray := ⟨#[109, 105, 110, 101]⟩
theorem infoStrSize : (Tryd.prog.info? 9).map (·.size) = some 1 := by kernel_rfl
theorem infoIntSize : (Tryd.prog.info? 3).map (·.size) = some 1 := by kernel_rfl
theorem make_lent (n : Nat) (hn : n ≤ 8796093022204) (w : World) :
    (Instr.makeSlice 28 (.int .i64 ((n : Int) + 4)) (.int .i64 ((n : Int) + 4))).run Tryd.prog w = .ok (.slice (some ⟨w.heap.size, 0, none⟩) (n + 4) (n + 4)) (w.alloc (.cells (madeCells #[.string ByteArray.empty] (n + 4)) 9)) := by
  obtain ⟨i, hi, hz0, hz1, hz2⟩ := info_parts infoStr
  have := run_make (P := Tryd.prog) w 28 9 i (.string ByteArray.empty) Tryd.underlying28 hi hz0 .i64 .i64 ((n : Int) + 4) ((n : Int) + 4) (by omega) (by omega) (by rw [hz2]; omega) (by omega)
  rw [hz1, show ((n : Int) + 4).toNat = n + 4 by omega, Nat.mul_one] at this
  exact this
theorem make_lentI (n : Nat) (hn : n ≤ 17592186044412) (w : World) :
    (Instr.makeSlice 32 (.int .i64 ((n : Int) + 4)) (.int .i64 ((n : Int) + 4))).run Tryd.prog w = .ok (.slice (some ⟨w.heap.size, 0, none⟩) (n + 4) (n + 4)) (w.alloc (.cells (madeCells #[.int .i64 0] (n + 4)) 3)) := by
  obtain ⟨i, hi, hz0, hz1, hz2⟩ := info_parts infoInt
  have := run_make (P := Tryd.prog) w 32 3 i (.int .i64 0) Tryd.underlying32 hi hz0 .i64 .i64 ((n : Int) + 4) ((n : Int) + 4) (by omega) (by omega) (by rw [hz2]; omega) (by omega)
  rw [hz1, show ((n : Int) + 4).toNat = n + 4 by omega, Nat.mul_one] at this
  exact this
theorem eql_nilT (a : Option Addr) (n c : Nat) (w : World) : (binOp .eql 28 (.slice a n c) (.slice none 0 0)).run Tryd.prog w = .ok (.bool a.isNone) w := Lib.run_eql_slice_nil w 28 9 a n c 0 0 Tryd.underlying28
theorem eql_nilI (a : Option Addr) (n c : Nat) (w : World) : (binOp .eql 32 (.slice a n c) (.slice none 0 0)).run Tryd.prog w = .ok (.bool a.isNone) w := Lib.run_eql_slice_nil w 32 3 a n c 0 0 Tryd.underlying32
/-- The list, k of the caller's things behind it, then nothing yet. -/
def lentTo (vs : List Value) (x z : Value) (k : Nat) : List Value := vs ++ (List.replicate k x ++ List.replicate (4 - k) z)
theorem lentTo_next (vs : List Value) (x z : Value) (n k : Nat) (hn : vs.length = n) (hk : k < 4) : (lentTo vs x z k).set (n + k) x = lentTo vs x z (k + 1) := by
  unfold lentTo
  rw [List.set_append_right _ _ (by omega), hn, show n + k - n = k by omega, List.set_append_right _ _ (by simp), List.length_replicate, Nat.sub_self]
  obtain ⟨m, hm⟩ : ∃ m, 4 - k = m + 1 := ⟨4 - k - 1, by omega⟩
  rw [hm, List.replicate_succ, List.set_cons_zero, show 4 - (k + 1) = m by omega, List.replicate_succ']
  simp
theorem lentTo_at (vs : List Value) (x z : Value) (n k : Nat) (hn : vs.length = n) (hk : k < 4) : (lentTo vs x z k)[n + k]? = some z := by
  unfold lentTo
  rw [List.getElem?_append_right (by omega), hn, show n + k - n = k by omega, List.getElem?_append_right (by simp), List.length_replicate, Nat.sub_self]
  obtain ⟨m, hm⟩ : ∃ m, 4 - k = m + 1 := ⟨4 - k - 1, by omega⟩
  rw [hm, List.replicate_succ]; rfl
theorem splice_made (vs : List Value) (z : Value) (n : Nat) (hn : vs.length = n) : splice (madeCells #[z] (n + 4)).toList 0 vs = lentTo vs z z 0 := by
  unfold splice lentTo
  rw [toList_madeCells_one]
  simp [hn]

def intV (l : List Int) : List Value := l.map (Value.int .i64)
theorem lent_get (vs : List Value) (x z : Value) (n i : Nat) (hn : vs.length = n) : (lentTo vs x z 4)[i]? = if i < n then vs[i]? else if i < n + 4 then some x else none := by
  unfold lentTo
  by_cases h : i < n
  · rw [List.getElem?_append_left (by omega), if_pos h]
  · rw [List.getElem?_append_right (by omega), if_neg h, hn]
    by_cases h2 : i < n + 4
    · rw [if_pos h2, List.getElem?_append_left (by rw [List.length_replicate]; omega), List.getElem?_replicate, if_pos (by omega)]
    · rw [if_neg h2, List.getElem?_eq_none (by simp; omega)]
theorem lent_length (vs : List Value) (x z : Value) (n : Nat) (hn : vs.length = n) : (lentTo vs x z 4).length = n + 4 := by simp [lentTo, hn]
end Go.Proofs.YtokmllopbfmadabDoor.Book

namespace Go.Proofs.YtokmllopbfmadabDoor.Ref
open Go.RowKit Mem FieldWalks Tab ByTab Parts Book
open Plans (But)

/-- Only one block between lo and hi was written, and new ones made. -/
def Wrote (lo hi : Nat) (w w' : World) : Prop := w' = w ∨ ∃ S, lo ≤ S ∧ S < hi ∧ But S w w'
section
variable {lo hi : Nat} {w w' : World}
theorem Wrote.below (h : Wrote lo hi w w') {w0 : World} {B : Nat} (hb : Below B w0 w) (hB : B ≤ w.heap.size) (hlo : B ≤ lo) : Below B w0 w' := by
  rcases h with rfl | ⟨S, h1, _, h3⟩
  · exact hb
  · exact h3.below hb (Nat.le_trans hlo h1) hB
theorem Wrote.size (h : Wrote lo hi w w') : w.heap.size ≤ w'.heap.size := by
  rcases h with rfl | ⟨S, _, _, h3⟩
  · exact Nat.le_refl _
  · exact h3.size
theorem Wrote.blk (h : Wrote lo hi w w') {b : Nat} {t : TypeId} {vs : List Value} (hb : Blk w b t vs) (hl : hi ≤ b) : Blk w' b t vs := by
  rcases h with rfl | ⟨S, _, h2, h3⟩
  · exact hb
  · exact h3.blk hb (by omega)
theorem Wrote.blk_low (h : Wrote lo hi w w') {b : Nat} {t : TypeId} {vs : List Value} (hb : Blk w b t vs) (hl : b < lo) : Blk w' b t vs := by
  rcases h with rfl | ⟨S, h1, _, h3⟩
  · exact hb
  · exact h3.blk hb (by omega)
theorem Wrote.strs (h : Wrote lo hi w w') {v : Value} {ss : List ByteArray} (hs : StrsNew w hi v ss) : StrsNew w' hi v ss := by
  rcases h with rfl | ⟨S, _, h2, h3⟩
  · exact hs
  · obtain ⟨ao, cap, rfl, hs⟩ := hs
    refine ⟨ao, cap, rfl, ?_⟩
    rcases hs with hs | ⟨b, off, rfl, h4, h5, h6⟩
    · exact .inl hs
    · exact .inr ⟨b, off, rfl, h4, Nat.lt_of_lt_of_le h5 h3.size, fun k hk => by rw [h3.cell (p := ⟨b, off + k, none⟩) (by show b ≠ S; omega) h5]; exact h6 k hk⟩
end
/-- A list that came in: none, or one that lies in a block that is there. -/
def CameT (w : World) (pv : Value) (n : Nat) : Prop := pv = .slice none 0 0 ∨ ∃ ad cp, pv = .slice (some ad) n cp ∧ ad.block < w.heap.size
theorem CameT.to {w w' : World} {pv : Value} {n : Nat} (h : CameT w pv n) (hb : w.heap.size ≤ w'.heap.size) : CameT w' pv n := by
  rcases h with h | ⟨ad, cp, h1, h2⟩
  · exact .inl h
  · exact .inr ⟨ad, cp, h1, Nat.lt_of_lt_of_le h2 hb⟩

end Go.Proofs.YtokmllopbfmadabDoor.Ref

/- Lists that come in, opened: strings, numbers. -/
namespace Go.Proofs.YtokmllopbfmadabDoor.CardArgs
open Go.ChangeShapes Go.WideShapes Go.ChangeAt Go.RowKit Mem Ref

theorem laidOut : laidOutB Tryd.prog = true := by kernel_rfl
theorem cellsStr : Tryd.prog.cellsOf 9 = 1 := by kernel_rfl
theorem cellsInt : Tryd.prog.cellsOf 3 = 1 := by kernel_rfl
theorem bytesStr : Tryd.prog.bytesOf 9 = 16 := by kernel_rfl
theorem bytesInt : Tryd.prog.bytesOf 3 = 8 := by kernel_rfl

/-- A slice that is one lies in a block that is there, at no inner place. -/
theorem slice_plain {P : Program} {W : World} {r : Reach} {base : Nat} {t e : TypeId} {a : Addr} {len cap : Nat} (ht : P.underlying t = some (.slice e)) (h : Value.okWide P W r base t (.slice (some a) len cap)) : ∃ b off, a = ⟨b, off, none⟩ ∧ b < W.heap.size := by
  simp only [Value.okWide, ht, Cell.okWide, Cell.ok] at h
  obtain ⟨_, _, _, h1, row, cells, h2, _⟩ := h
  refine ⟨a.block, a.off, ?_, ?_⟩
  · cases a; simp at h1; subst h1; rfl
  · apply Classical.byContradiction
    intro hn
    have : W.heap[a.block]? = none := by simp; omega
    simp [World.shape?, this] at h2

theorem wf_i64 {x : Int} (h : (Lit.int .i64 x).wf = true) : -9223372036854775808 ≤ x ∧ x ≤ 9223372036854775807 := by
  have h1 : IntKind.i64.min = -9223372036854775808 := by decide
  have h2 : IntKind.i64.max = 9223372036854775807 := by decide
  simp only [Lit.wf, h1, h2, Bool.and_eq_true, decide_eq_true_eq] at h
  exact h
theorem weights_all {H : Type} {P : Program} {e : TypeId} {d : DataW H} {n : Nat} : ∀ {l : List (DataW H)}, d ∈ l → n ∈ d.weights P e → n ∈ DataW.weightsAll P e l
  | [], h, _ => by cases h
  | x :: l, h, hn => by
    simp only [DataW.weightsAll, List.mem_append]
    rcases List.mem_cons.1 h with rfl | h
    · exact .inl hn
    · exact .inr (weights_all h hn)

section
set_option maxRecDepth 100000
variable {H : Type} {enc : TypeId × Value → H} {W : World} {base j : Nat} {v : Value} {d : DataW H} {p : List MemPlace} {ts : List TypeId} {ds : List (DataW H)}
theorem strs_arg (hval : Value.okWide Tryd.prog W .any base 28 v) (h : DataW.Trod enc Tryd.prog W 0 (fun _ => true) true 28 v d p) (hsz : (DataW.weightsEach Tryd.prog ts ds).all (· ≤ reachBytes) = true) (hts : ts[j]? = some 28) (hds : ds[j]? = some d) :
    ∃ pieces : List ByteArray, CameT W v pieces.length ∧ StrsAt W v pieces ∧ pieces.length ≤ 8796093022204 ∧ ∀ q, (h : q < pieces.length) → pieces[q].size < 2 ^ 62 := by
  obtain ⟨fuel, h⟩ := h
  obtain ⟨a0, len0, cap0, rfl⟩ := okWide_slice Tryd.underlying28 hval
  have hcs : (Value.slice a0 len0 cap0).cells.toList = [.slice a0 len0 cap0] := rfl
  rw [hcs] at h
  rcases Deep.open_strs Tryd.underlying28 Tryd.underlying9 cellsStr h with ⟨h1, h2⟩ | ⟨a, len, cap, m, Sx, h1, h2, h3, h4, h5, h6, h7⟩
  · injection h1 with h1 _
    rw [h1]
    exact ⟨[], .inl rfl, ⟨none, 0, rfl, .inl rfl⟩, by simp, fun q hq => by simp at hq⟩
  · injection h1 with h1 _
    rw [h1] at hval ⊢
    obtain ⟨b, off, rfl, hb⟩ := slice_plain Tryd.underlying28 hval
    simp only [Prod.mk.injEq] at h6
    obtain ⟨rfl, _⟩ := h6
    have hm : m = cap := by simpa using h5
    have hbytes := sized_slice hsz hts hds Tryd.underlying28
    rw [bytesStr] at hbytes
    simp only [List.length_map, List.length_range] at hbytes
    have hr : reachBytes = 140737488351232 := by decide
    refine ⟨(List.range len).map Sx, .inr ⟨⟨b, off, none⟩, cap, by simp, hb⟩, ⟨_, cap, by simp, .inr ⟨b, off, rfl, hb, fun k hk => ?_⟩⟩, ?_, fun q hq => ?_⟩
    · have hk' : k < len := by simpa using hk
      have := (h7 k (by omega)).1
      rw [Addr.add_lit] at this
      rw [this]; simp
    · simp only [List.length_map, List.length_range]; omega
    · have hq' : q < len := by simpa using hq
      have hmem : (DataW.lit (.string (Sx q).data.toList) : DataW H) ∈ (List.range len).map fun i => (DataW.lit (.string (Sx i).data.toList) : DataW H) := List.mem_map.2 ⟨q, List.mem_range.2 hq', rfl⟩
      have hw := weights_all (P := Tryd.prog) (e := 9) (n := (Sx q).data.toList.length) hmem (by simp [DataW.weights])
      have hall := List.all_eq_true.1 hsz _ (DataW.weights_mem_each hts hds ((Sx q).data.toList.length) (by
        simp only [DataW.weights, Tryd.underlying28, List.mem_cons, List.mem_append]
        exact .inr (.inl hw)))
      have hsq : (Sx q).size = (Sx q).data.toList.length := by rw [Array.length_toList]; rfl
      simp only [List.getElem_map, List.getElem_range]
      rw [hsq]
      have : (Sx q).data.toList.length ≤ reachBytes := by simpa using hall
      omega
theorem ints_arg (hval : Value.okWide Tryd.prog W .any base 32 v) (h : DataW.Trod enc Tryd.prog W 0 (fun _ => true) true 32 v d p) (hsz : (DataW.weightsEach Tryd.prog ts ds).all (· ≤ reachBytes) = true) (hts : ts[j]? = some 32) (hds : ds[j]? = some d) :
    ∃ l : List Int, CameT W v l.length ∧ IsC W v l ∧ l.length ≤ 17592186044412 ∧ ∀ x, x ∈ l → -9223372036854775808 ≤ x ∧ x ≤ 9223372036854775807 := by
  obtain ⟨fuel, h⟩ := h
  obtain ⟨a0, len0, cap0, rfl⟩ := okWide_slice Tryd.underlying32 hval
  have hcs : (Value.slice a0 len0 cap0).cells.toList = [.slice a0 len0 cap0] := rfl
  rw [hcs] at h
  rcases open_ints Tryd.underlying32 Tryd.underlying3 cellsInt h with ⟨h1, h2⟩ | ⟨a, len, cap, zs, h1, h2, h3, h4, h5, h6, h7, h8⟩
  · injection h1 with h1 _
    rw [h1]
    exact ⟨[], .inl rfl, ⟨none, 0, rfl, .inl rfl⟩, by simp, fun q hq => by simp at hq⟩
  · injection h1 with h1 _
    rw [h1] at hval ⊢
    obtain ⟨b, off, rfl, hb⟩ := slice_plain Tryd.underlying32 hval
    simp only [Prod.mk.injEq] at h6
    obtain ⟨rfl, _⟩ := h6
    have hm : zs.length = cap := by simpa using h5
    have hbytes := sized_slice hsz hts hds Tryd.underlying32
    rw [bytesInt] at hbytes
    simp only [lits, List.length_map, List.length_take, List.length_drop] at hbytes
    have hr : reachBytes = 140737488351232 := by decide
    have hlt : (zs.take len).length = len := by rw [List.length_take]; omega
    refine ⟨zs.take len, .inr ⟨⟨b, off, none⟩, cap, by rw [hlt], hb⟩, ⟨_, cap - len, by rw [hlt]; congr 1; omega, .inr ⟨b, off, rfl, hb, fun k hk => ?_⟩⟩, ?_, fun x hx => ?_⟩
    · rw [hlt] at hk
      have := h7 k (by omega)
      rw [Addr.add_lit] at this
      rw [this]; simp [show k < zs.length by omega]
    · rw [hlt]; omega
    · have := h8 x (List.mem_of_mem_take hx)
      exact wf_i64 this
end
end Go.Proofs.YtokmllopbfmadabDoor.CardArgs
