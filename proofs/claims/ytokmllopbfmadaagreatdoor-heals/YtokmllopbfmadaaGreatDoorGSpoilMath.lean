import Derived.Test.YtokmllopbfmadaaGreatDoorGSpread
import Derived.Test.YtokmllopbfmadaaGreatDoorGNPiece2
import Derived.Lib.FrozenHead
import Derived.Test.YtokmllopbfmadaaGreatDoorGPChecks
/- A pack whose frames are spoilt, up to four bytes of each: which are bad, and what the others say. Nothing of the program. -/
namespace Go.Proofs.YtokmllopbfmadaaGreatDoor.Ref
open Go.RowKit Mem FieldWalks Tab ByTab Parts
open Gf (Bytes)

/-- To j bytes from a on something is added. -/
def xorTo (f : List Nat) (a : Nat) (g : Nat → Nat) : Nat → List Nat
  | 0 => f
  | j + 1 => (xorTo f a g j).set (a + j) ((xorTo f a g j).getD (a + j) 0 ^^^ g j)
theorem xorTo_length (f : List Nat) (a : Nat) (g : Nat → Nat) : ∀ j, (xorTo f a g j).length = f.length
  | 0 => rfl
  | j + 1 => by rw [xorTo, List.length_set, xorTo_length f a g j]
theorem xorTo_bytes {f : List Nat} (hf : Bytes f) (a : Nat) {g : Nat → Nat} (hg : ∀ j, g j < 256) : ∀ j, Bytes (xorTo f a g j)
  | 0 => hf
  | j + 1 => by
    intro x hx
    rcases List.mem_or_eq_of_mem_set hx with hx | rfl
    · exact xorTo_bytes hf a hg j x hx
    · exact Nat.xor_lt_two_pow (n := 8) ((xorTo_bytes hf a hg j).getD _) (hg j)
theorem xorTo_take (f : List Nat) (a : Nat) (g : Nat → Nat) (i : Nat) (hi : i ≤ a) : ∀ j, (xorTo f a g j).take i = f.take i
  | 0 => rfl
  | j + 1 => by rw [xorTo, List.take_set_of_le (by omega), xorTo_take f a g i hi j]
theorem xorTo_drop (f : List Nat) (a : Nat) (g : Nat → Nat) (i : Nat) : ∀ j, a + j ≤ i → (xorTo f a g j).drop i = f.drop i
  | 0, _ => rfl
  | j + 1, h => by rw [xorTo, List.drop_set_of_lt (by omega), xorTo_drop f a g i j (by omega)]
theorem xorTo_first (f : List Nat) (a : Nat) (g : Nat → Nat) (ha : a < f.length) : ∀ j, (xorTo f a g (j + 1)).getD a 0 = f.getD a 0 ^^^ g 0
  | 0 => by
    rw [xorTo, List.getD_eq_getElem?_getD, Nat.add_zero, List.getElem?_set_self (by rw [xorTo_length]; exact ha)]
    rfl
  | j + 1 => by
    rw [xorTo, List.getD_eq_getElem?_getD, List.getElem?_set_ne (by omega), ← List.getD_eq_getElem?_getD]
    exact xorTo_first f a g ha j
theorem xor_ne {a b : Nat} (hb : b ≠ 0) : a ^^^ b ≠ a := by
  intro h
  apply hb
  have : a ^^^ (a ^^^ b) = a ^^^ a := by rw [h]
  rw [← Nat.xor_assoc, Nat.xor_self, Nat.zero_xor] at this
  exact this
theorem three (l : List Nat) (a c e : Nat) : l.take e = (l.take e).take a ++ ((l.take e).drop a).take c ++ (l.take e).drop (a + c) := by
  rw [← List.drop_drop, List.append_assoc, List.take_append_drop, List.take_append_drop]
/-- How a frame is spoilt: from a on, c bytes, within its number and piece or within its check. -/
structure Hit (L a c : Nat) (g : Nat → Nat) : Prop where
  c1 : 1 ≤ c
  c4 : c ≤ 4
  g0 : g 0 ≠ 0
  gb : ∀ j, g j < 256
  place : a + c ≤ L + 1 ∨ (L + 1 ≤ a ∧ a + c ≤ L + 5)
theorem IsPack.hit {p : ByteArray} {d s n L : Nat} {fs : List (List Nat)} (h : IsPack p d s n L fs) {k : Nat} (hk : k < fs.length) {x : List Nat} (hx : x.length = L) (hxb : Bytes (k :: x)) {a c : Nat} {g : Nat → Nat} (hh : Hit L a c g) (hf : fs[k] = xorTo (frameL (headL d s n) k x) a g c) : badAt p k = true := by
  have ht := frameL_take (H := headL d s n) (k := k) hx
  have hd := frameL_drop (H := headL d s n) (k := k) hx
  have hlen := frameL_length (headL d s n) k x
  obtain ⟨j, rfl⟩ : ∃ j, c = j + 1 := ⟨c - 1, by have := hh.c1; omega⟩
  have hne : ∀ i, i = a → a < L + 5 → (xorTo (frameL (headL d s n) k x) a g (j + 1)).getD i 0 ≠ (frameL (headL d s n) k x).getD i 0 := by
    rintro i rfl hi
    rw [xorTo_first _ _ _ (by omega)]
    exact xor_ne hh.g0
  have hB : Bytes (frameL (headL d s n) k x) := by
    unfold frameL
    exact bytes_app hxb (Crc.check_bytes _)
  have hGB := xorTo_bytes hB a hh.gb (j + 1)
  have T := fun i hi => xorTo_take (frameL (headL d s n) k x) a g i hi (j + 1)
  have D := fun i => xorTo_drop (frameL (headL d s n) k x) a g i (j + 1)
  have Z := xorTo_length (frameL (headL d s n) k x) a g (j + 1)
  have h4 := hh.c4
  rw [← hf] at hne hGB T D Z
  rcases hh.place with hp | ⟨hp, hp2⟩
  · have e1 : (fs[k].take (L + 1)).take a = (k :: x).take a := by
      rw [List.take_take, Nat.min_eq_left (by omega), T a (Nat.le_refl _), ← ht, List.take_take, Nat.min_eq_left (by omega)]
    have e2 : (fs[k].take (L + 1)).drop (a + (j + 1)) = (k :: x).drop (a + (j + 1)) := by
      rw [List.drop_take, D _ (Nat.le_refl _), ← List.drop_take, ht]
    refine h.bad_body hk (x := x) (a := (k :: x).take a) (y := ((k :: x).drop a).take (j + 1)) (z := ((fs[k].take (L + 1)).drop a).take (j + 1)) (b := (k :: x).drop (a + (j + 1))) hxb ?_ ?_ ?_ ?_ ?_ ?_ ?_
    · have := three (k :: x) a (j + 1) (L + 1)
      rwa [List.take_of_length_le (show (k :: x).length ≤ L + 1 by simp [hx])] at this
    · have := three fs[k] a (j + 1) (L + 1)
      rw [e1, e2] at this
      exact this
    · exact fun v hv => hGB v (List.mem_of_mem_take (List.mem_of_mem_drop (List.mem_of_mem_take hv)))
    · simp only [List.length_take, List.length_drop, List.length_cons, hx, Z, hlen]; omega
    · rw [List.length_take]; omega
    · intro he
      have e0 : (((k :: x).drop a).take (j + 1)).getD 0 0 = (((fs[k].take (L + 1)).drop a).take (j + 1)).getD 0 0 := by rw [he]
      apply hne a rfl (by omega)
      simp only [List.getD_eq_getElem?_getD, List.getElem?_take, List.getElem?_drop, Nat.add_zero, Nat.zero_lt_succ, if_true, show a < L + 1 by omega, ← ht] at e0 ⊢
      exact e0.symm
    · rw [D _ (by omega), hd]
  · refine h.bad_check hk (x := x) ?_ ?_
    · rw [T _ hp, ht]
    · rw [← hd]
      intro he
      apply hne a rfl (by omega)
      have e0 : (fs[k].drop (L + 1)).getD (a - (L + 1)) 0 = ((frameL (headL d s n) k x).drop (L + 1)).getD (a - (L + 1)) 0 := by rw [he]
      simp only [List.getD_eq_getElem?_getD, List.getElem?_drop, show L + 1 + (a - (L + 1)) = a by omega] at e0 ⊢
      exact e0
/-- A pack of pieces, of which the frames in bad are spoilt. -/
structure Spoilt (q : ByteArray) (d s n L : Nat) (ps : List ByteArray) (bad : List Nat) (fs : List (List Nat)) : Prop where
  is : IsPack q d s n L fs
  plen : ps.length = d + s
  psize : ∀ x ∈ ps, x.size = L
  within : ∀ k ∈ bad, k < d + s
  good : ∀ k, (h : k < ps.length) → k ∉ bad → fs[k]? = some (frameL (headL d s n) k (nums ps[k]))
  hits : ∀ k, (h : k < ps.length) → k ∈ bad → ∃ a c g, Hit L a c g ∧ fs[k]? = some (xorTo (frameL (headL d s n) k (nums ps[k])) a g c)
theorem spoilt_none {d s n L : Nat} {ps : List ByteArray} (d1 : 1 ≤ d) (d2 : d ≤ 10) (s2 : s ≤ 6) (n2 : n ≤ 400) (eL : L = (n + d - 1) / d) (hl : ps.length = d + s) (hp : ∀ x ∈ ps, x.size = L) : Spoilt (packS d s n ps) d s n L ps [] (framesL (headL d s n) ps) where
  is := packS_is d1 d2 s2 n2 eL hl hp
  plen := hl
  psize := hp
  within := by simp
  good := by
    intro k h _
    have hk : k < (framesL (headL d s n) ps).length := by simp [framesL, h]
    rw [List.getElem?_eq_getElem hk, framesL_get hk h]
  hits := by simp
namespace Spoilt
variable {q : ByteArray} {d s n L : Nat} {ps : List ByteArray} {bad : List Nat} {fs : List (List Nat)}
theorem flen (h : Spoilt q d s n L ps bad fs) : fs.length = ps.length := by rw [h.is.len, h.plen]
theorem badAt_iff (h : Spoilt q d s n L ps bad fs) (k : Nat) (hk : k < d + s) : badAt q k = decide (k ∈ bad) := by
  have hk1 : k < ps.length := by rw [h.plen]; exact hk
  have hk2 : k < fs.length := by rw [h.flen]; exact hk1
  have hx : (nums ps[k]).length = L := by rw [nums_length]; exact h.psize _ (List.getElem_mem hk1)
  by_cases hb : k ∈ bad
  · obtain ⟨a, c, g, hh, he⟩ := h.hits k hk1 hb
    rw [List.getElem?_eq_getElem hk2] at he
    rw [decide_eq_true hb]
    refine h.is.hit hk2 hx ?_ hh (Option.some.inj he)
    have := h.is.d2; have := h.is.s2
    intro v hv
    rcases List.mem_cons.1 hv with rfl | hv
    · omega
    · exact nums_bytes _ v hv
  · have he := h.good k hk1 hb
    rw [List.getElem?_eq_getElem hk2] at he
    rw [decide_eq_false hb]
    exact (h.is.good hk2 hx (Option.some.inj he)).1
theorem pieceAt_eq (h : Spoilt q d s n L ps bad fs) (k : Nat) (hk : k < ps.length) (hb : k ∉ bad) : pieceAt q k = ps[k] := by
  have hk2 : k < fs.length := by rw [h.flen]; exact hk
  have hx : (nums ps[k]).length = L := by rw [nums_length]; exact h.psize _ (List.getElem_mem hk)
  have he := h.good k hk hb
  rw [List.getElem?_eq_getElem hk2] at he
  exact nums_inj (h.is.good hk2 hx (Option.some.inj he)).2
/-- Just the spoilt ones are bad. -/
theorem opened (h : Spoilt q d s n L ps bad fs) : openBad q = (List.range (d + s)).filter (fun k => decide (k ∈ bad)) := by
  unfold openBad badTo
  rw [h.is.hD, h.is.hS]
  refine List.filter_congr fun k hk => ?_
  rw [h.badAt_iff k (List.mem_range.1 hk)]
theorem pieces_length (h : Spoilt q d s n L ps bad fs) : (openPieces q).length = d + s := by
  simp [openPieces, piecesTo, h.is.hD, h.is.hS]
theorem pieces_size (h : Spoilt q d s n L ps bad fs) (k : Nat) (hk : k < (openPieces q).length) : (openPieces q)[k].size = L := by
  have := h.pieces_length
  simp only [openPieces, piecesTo, List.getElem_map, List.getElem_range]
  exact h.is.pieceSize k (by rw [h.is.len]; omega)
theorem pieces_get (h : Spoilt q d s n L ps bad fs) (k : Nat) (hk : k < (openPieces q).length) (hk2 : k < ps.length) (hb : k ∉ bad) : (openPieces q)[k] = ps[k] := by
  simp only [openPieces, piecesTo, List.getElem_map, List.getElem_range]
  exact h.pieceAt_eq k hk2 hb
/-- One more frame is spoilt. -/
theorem more (h : Spoilt q d s n L ps bad fs) {q' : ByteArray} {k a c : Nat} {g : Nat → Nat} (hk : k < d + s) (hb : k ∉ bad) (hh : Hit L a c g) (hk2 : k < fs.length) (hq : IsPack q' d s n L (fs.set k (xorTo fs[k] a g c))) : Spoilt q' d s n L ps (bad ++ [k]) (fs.set k (xorTo fs[k] a g c)) where
  is := hq
  plen := h.plen
  psize := h.psize
  within := by
    intro i hi
    rcases List.mem_append.1 hi with hi | hi
    · exact h.within i hi
    · simp at hi; omega
  good := by
    intro i hi hn
    simp at hn
    rw [List.getElem?_set_ne (by omega)]
    exact h.good i hi hn.1
  hits := by
    intro i hi hm
    by_cases e : k = i
    · subst e
      refine ⟨a, c, g, hh, ?_⟩
      have := h.good k hi hb
      rw [List.getElem?_eq_getElem hk2] at this
      rw [List.getElem?_set_self hk2, Option.some.inj this]
    · rw [List.getElem?_set_ne e]
      refine h.hits i hi ?_
      rcases List.mem_append.1 hm with hm | hm
      · exact hm
      · simp at hm; omega
end Spoilt
/-- The bytes of a frame are spoilt one after another. -/
theorem IsPack.hitTo {q : ByteArray} {d s n L : Nat} {fs : List (List Nat)} {k : Nat} (hk : k < fs.length) (a : Nat) (g : Nat → Nat) (j : Nat) (h : IsPack q d s n L (fs.set k (xorTo fs[k] a g j))) (ha : a + j < L + 5) {q' : ByteArray}
    (hq : nums q' = (nums q).set (10 + k * (L + 5) + (a + j)) ((nums q).getD (10 + k * (L + 5) + (a + j)) 0 ^^^ g j)) : IsPack q' d s n L (fs.set k (xorTo fs[k] a g (j + 1))) := by
  have hk' : k < (fs.set k (xorTo fs[k] a g j)).length := by simpa using hk
  have ge : (fs.set k (xorTo fs[k] a g j))[k] = xorTo fs[k] a g j := by simp
  have hv : (nums q).getD (10 + k * (L + 5) + (a + j)) 0 = (xorTo fs[k] a g j).getD (a + j) 0 := by
    have hf := h.frame k hk'
    rw [ge] at hf
    rw [← hf]
    unfold frameAt
    rw [numsX, h.hL]
    simp only [List.getD_eq_getElem?_getD, List.getElem?_take, List.getElem?_drop]
    rw [if_pos (by rw [Nat.add_mul]; omega)]
  have := h.set k (a + j) _ hk' ha hq
  rw [ge, hv, List.set_set] at this
  exact this
end Go.Proofs.YtokmllopbfmadaaGreatDoor.Ref

namespace Go.Proofs.YtokmllopbfmadaaGreatDoor.Ref
open Go.RowKit Parts
/-- The old byte. -/
def oldOf (pieces : List ByteArray) (p t : Nat) : Nat := (nums (pieces.getD p ByteArray.empty)).getD t 0
end Go.Proofs.YtokmllopbfmadaaGreatDoor.Ref

/- A row of bytes that came of a string and is the call's own: strings are appended to it. Nothing of the program but its type of bytes. -/
namespace Go.Proofs.YtokmllopbfmadaaGreatDoor.Pk
open Go.RowKit Mem FieldWalks Tab ByTab Parts Ref
open Go.Lib (strCells strCells_length strCells_oneCell)

/-- Values are stored one after another into a row of which nothing is frozen, or nothing but what lies behind it. -/
theorem store_run {P : Program} (g o : Nat) (t : TypeId) (fz : Nat × Nat) : ∀ (vs : List Value) (i : Nat) (cur : Array Value) (w : World), w.heap[g]? = some (.cells cur t fz) → (fz = (0, 0) ∨ cur.size ≤ fz.1) → o + i + vs.length ≤ cur.size → (∀ v ∈ vs, v.oneCell' = true) →
    ∃ cur', (storeCells ⟨g, o, none⟩ vs i).run P w = .ok () (w.setRow g cur') ∧ cur'.size = cur.size ∧ cur'.toList.take (o + i + vs.length) = cur.toList.take (o + i) ++ vs
  | [], i, cur, w, hg, _, _, _ => ⟨cur, by simp only [storeCells]; rw [setRow_self w g cur t fz hg]; rfl, rfl, by simp⟩
  | v :: rest, i, cur, w, hg, hf, hl, h1 => by
    rw [List.length_cons] at hl
    have hlt : o + i < cur.size := by omega
    have ha : (⟨g, o, none⟩ : Addr).add i = ⟨g, o + i, none⟩ := by unfold Addr.add; split <;> simp_all
    have hc : w.cell? ⟨g, o + i, none⟩ = some cur[o + i] := by rw [cell_of_row w g (o + i) cur t fz hg, Array.getElem?_eq_getElem hlt]
    have hz : w.frozen? ⟨g, o + i, none⟩ = false := by
      unfold World.frozen?
      simp only [hg]
      rcases hf with rfl | hf
      · simp
      · simp; intro h; omega
    have hs : (store ((⟨g, o, none⟩ : Addr).add i) v).run P w = .ok () (w.setRow g (cur.setIfInBounds (o + i) v)) := by
      rw [ha, run_store P w _ v _ (h1 v (by simp)), hc]
      simp [hz, setCell_eq_setRow w g (o + i) cur t fz v hg]
    obtain ⟨cur', h2, h3, h4⟩ := store_run (P := P) g o t fz rest (i + 1) (cur.setIfInBounds (o + i) v) (w.setRow g (cur.setIfInBounds (o + i) v)) (setRow_heap w g cur _ t _ hg) (by simpa using hf) (by simp; omega) (fun x hx => h1 x (by simp [hx]))
    refine ⟨cur', ?_, by simpa using h3, ?_⟩
    · simp only [storeCells, Sem.run_bind, hs, Result.andThen_ok, h2, setRow_setRow]
    · rw [List.length_cons, show o + i + (rest.length + 1) = o + (i + 1) + rest.length by omega, h4, Array.toList_setIfInBounds, show o + (i + 1) = o + i + 1 by omega, List.take_add_one]
      rw [List.take_set_of_le (Nat.le_refl _), List.getElem?_set_self (by simpa using hlt)]
      simp
/-- v is a slice of the call's own that holds the bytes of s. -/
def OwnB (w : World) (base : Nat) (v : Value) (s : ByteArray) : Prop :=
  ∃ g cap cur fz, v = .slice (some ⟨g, 0, none⟩) s.size cap ∧ base ≤ g ∧ w.heap[g]? = some (.cells cur 5 fz) ∧ (fz = (0, 0) ∨ cur.size ≤ fz.1) ∧ s.size ≤ cap ∧ cap ≤ maxLen ∧ cur.size = cap ∧ cur.toList.take s.size = strCells s
theorem OwnB.to {w w' : World} {base : Nat} {v : Value} {s : ByteArray} (h : OwnB w base v s) (hb : Below w.heap.size w w') : OwnB w' base v s := by
  obtain ⟨g, cap, cur, fz, hv, hg, hh, r⟩ := h
  exact ⟨g, cap, cur, fz, hv, hg, by rw [hb.block g (lt_of_block hh)]; exact hh, r⟩
theorem OwnB.new (w : World) (base : Nat) (s : ByteArray) (hb : base ≤ w.heap.size) (hs : s.size ≤ maxLen) : OwnB (Lib.bytesWorld w 5 s) base (.slice (some ⟨w.heap.size, 0, none⟩) s.size (grownCap w s.size 0 5)) s := by
  have hge := grownCap_ge w s.size 0 5
  refine ⟨w.heap.size, _, _, _, rfl, hb, Lib.bytesWorld_at_new w 5 s, .inr (Nat.le_refl _), hge, grownCap_le_maxLen w s.size 0 5 hs, ?_, ?_⟩
  · unfold Lib.bytesCells
    simp
    have : s.data.size = s.size := rfl
    have h2 := hge
    unfold grownCap at h2 ⊢
    omega
  · unfold Lib.bytesCells strCells
    have : s.size = (s.data.map fun b => Value.int .u8 b.toNat).toList.length := by simp
    rw [Array.toList_append, this, List.take_left]
    simp
theorem strCells_app (a b : ByteArray) : strCells (a ++ b) = strCells a ++ strCells b := by simp [strCells, ByteArray.data_append]
theorem infoByte : (Tryz.prog.info? 5).map (fun i => (i.zero, i.size, i.bytes)) = some (some (.int .u8 0), 1, 1) := by kernel_rfl
theorem append_str (w : World) (base : Nat) (v : Value) (S s : ByteArray) (ty : TypeId) (h : OwnB w base v S) (hs : S.size + s.size ≤ 100000000) (hbase : base ≤ w.heap.size) :
    ∃ v' w', (Builtin.append_ #[85, 9] ty #[v, .string s]).run Tryz.prog w = .ok v' w' ∧ OwnB w' base v' (S ++ s) ∧ (∀ B a, Below B a w → B ≤ base → Below B a w') := by
  obtain ⟨i, hi, hz0, hz1, hz2⟩ := info_parts infoByte
  obtain ⟨g, cap, cur, fz, rfl, hg, hh, hf, hc1, hc2, hc3, htk⟩ := h
  have hm : S.size + s.size ≤ maxLen := by unfold maxLen; omega
  by_cases hroom : S.size + s.size ≤ cap
  · obtain ⟨cur', h1, h2, h3⟩ := store_run (P := Tryz.prog) g S.size 5 fz (strCells s) 0 cur w hh hf (by rw [strCells_length]; omega) (strCells_oneCell s)
    have hfc := Lib.run_firstCells_string (P := Tryz.prog) w 1 s
    refine ⟨.slice (some ⟨g, 0, none⟩) (S ++ s).size cap, w.setRow g cur', ?_, ⟨g, cap, cur', fz, rfl, hg, setRow_heap w g cur _ _ _ hh, by rw [h2]; exact hf, by rw [ByteArray.size_append]; exact hroom, hc2, by rw [h2]; exact hc3, ?_⟩, fun B a hb hB => below_row hb (Nat.le_trans hB hg) cur'⟩
    · rw [ByteArray.size_append]
      simp [Builtin.append_, run_underlying Tryz.underlying85, run_underlying Tryz.underlying9, sizeOf, typeInfo, hi, hz1, Builtin.lenOf, hroom, hfc, Addr.add_lit, h1]
    · rw [Nat.add_zero, strCells_length, htk] at h3
      rw [ByteArray.size_append, h3, strCells_app]
  · have holds : ∀ j u, (strCells S)[j]? = some u → w.cell? ((⟨g, 0, none⟩ : Addr).add j) = some u := by
      intro j u hu
      rw [show (⟨g, 0, none⟩ : Addr).add j = ⟨g, j, none⟩ by unfold Addr.add; split <;> simp_all, cell_of_row w g j cur _ fz hh]
      rw [← htk, List.getElem?_take] at hu
      split at hu
      · simpa using hu
      · cases hu
    have hr := Lib.run_append_grow_string (P := Tryz.prog) w 85 9 ty 5 i (.int .u8 0) Tryz.underlying85 Tryz.underlying9 hi hz0 ⟨g, 0, none⟩ S.size cap (strCells S) (by rw [hz1, strCells_length, Nat.mul_one]) holds s (by omega) (by omega) (by rw [hz2]; exact growslice_fits (by omega) (by omega))
    have hge := grownCap_ge w (S.size + s.size) cap 5
    refine ⟨_, _, hr, ⟨w.heap.size, _, _, (0, 0), by rw [ByteArray.size_append], hbase, heap_alloc_new w.drew _, .inl rfl, by rw [ByteArray.size_append]; exact hge, grownCap_le_maxLen w _ cap _ hm, ?_, ?_⟩, fun B a hb hB => hb.drew.alloc (Nat.le_trans hB hbase) _⟩
    · have hz1 : (Value.int IntKind.u8 0).cells.size = 1 := rfl
      simp only [Array.size_append, List.size_toArray, size_zeroCells, hz1, strCells_length]
      omega
    · rw [ByteArray.size_append, strCells_app]
      simp only [Array.toList_append]
      have : S.size + s.size = (strCells S ++ strCells s).length := by rw [List.length_append, strCells_length, strCells_length]
      rw [this]
      exact List.take_left
theorem wpList_append_str (w : World) {ops : Array Oper} {rest : List Oper} {o : Oper} {a : Act} {Q : Exit → Act → World → Prop}
    (hgd : o.guard = none) (x y : Operand) (hop : o.op = Op.call { callee := Callee.builtin Builtin.append, args := #[x, y], argTypes := #[85, 9] })
    (base : Nat) (v : Value) (S s : ByteArray) (hx : a.eval x = v) (hy : a.eval y = .string s) (h : OwnB w base v S) (hs : S.size + s.size ≤ 100000000) (hbase : base ≤ w.heap.size)
    (hK : ∀ v' w', OwnB w' base v' (S ++ s) → (∀ B a, Below B a w → B ≤ base → Below B a w') → wpList Tryz.prog ops Q rest (a.put o.dst v') w') :
    wpList Tryz.prog ops Q (o :: rest) a w := by
  refine wpList_plain hgd fun K hK' => ?_
  obtain ⟨v', w', hrun, h1, h2⟩ := append_str w base v S s o.type h hs hbase
  unfold Oper.wp
  simp [execOp, hop, resolve, invoke, builtin, hx, hy, hrun, Result.andThen]
  exact hK' _ _ (hK v' w' h1 h2)
theorem OwnB.bs {w : World} {base : Nat} {v : Value} {s : ByteArray} (h : OwnB w base v s) : BsAt w v (nums s) := by
  obtain ⟨g, cap, cur, fz, rfl, hg, hh, _, _, _, _, htk⟩ := h
  refine ⟨_, cap, by rw [nums_length], .inr ⟨g, 0, rfl, lt_of_block hh, fun k hk => ?_⟩⟩
  rw [nums_length] at hk
  rw [Nat.zero_add, cell_of_row w g k cur _ fz hh]
  have e : (cur.toList.take s.size)[k]? = (strCells s)[k]? := by rw [htk]
  rw [List.getElem?_take, if_pos hk] at e
  rw [← Array.getElem?_toList, e]
  have hk2 : k < s.data.size := hk
  simp only [strCells, nums, List.getElem?_map, Array.getElem?_toList, Array.getElem?_eq_getElem hk2, Option.map_some, List.getElem_map, Array.getElem_toList]
end Go.Proofs.YtokmllopbfmadaaGreatDoor.Pk
