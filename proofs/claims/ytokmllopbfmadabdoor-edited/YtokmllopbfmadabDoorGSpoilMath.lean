import Derived.Test.YtokmllopbfmadabDoorGPackMath
import Derived.Test.YtokmllopbfmadabDoorGByTables
import Derived.Test.YtokmllopbfmadabDoorGPWay
import Derived.Lib.FrozenHead
import Derived.Test.YtokmllopbfmadabDoorGShaped
import Derived.Test.YtokmllopbfmadabDoorGField
import Derived.Test.YtokmllopbfmadabDoorGPlanRun
import Derived.RegionTactic
/- A pack whose frames are spoilt, up to four bytes of each: which are bad, and what the others say. Nothing of the program. -/
namespace Go.Proofs.YtokmllopbfmadabDoor.Ref
open Go.RowKit Mem FieldWalks Tab ByTab Parts
open Gf (Bytes)

/-- To j bytes from a on something is added. -/
def xorTo (f : List Nat) (a : Nat) (g : Nat → Nat) : Nat → List Nat
  | 0 => f
  | j + 1 => (xorTo f a g j).set (a + j) ((xorTo f a g j).getD (a + j) 0 ^^^ g j)
theorem xorTo_length (f : List Nat) (a : Nat) (g : Nat → Nat) : ∀ j, (xorTo f a g j).length = f.length
  | 0 => rfl
  | j + 1 => by rw [xorTo, List.length_set, xorTo_length f a g j]
theorem xorTo_bytes {f : List Nat} (hf : Bytes f) (a : Nat) {g : Nat → Nat} (hg : ∀ j, g j < 256) : ∀ j, Bytes (xorTo f a g j)
  | 0 => hf
  | j + 1 => by
    intro x hx
    rcases List.mem_or_eq_of_mem_set hx with hx | rfl
    · exact xorTo_bytes hf a hg j x hx
    · exact Nat.xor_lt_two_pow (n := 8) ((xorTo_bytes hf a hg j).getD _) (hg j)
theorem xorTo_take (f : List Nat) (a : Nat) (g : Nat → Nat) (i : Nat) (hi : i ≤ a) : ∀ j, (xorTo f a g j).take i = f.take i
  | 0 => rfl
  | j + 1 => by rw [xorTo, List.take_set_of_le (by omega), xorTo_take f a g i hi j]
theorem xorTo_drop (f : List Nat) (a : Nat) (g : Nat → Nat) (i : Nat) : ∀ j, a + j ≤ i → (xorTo f a g j).drop i = f.drop i
  | 0, _ => rfl
  | j + 1, h => by rw [xorTo, List.drop_set_of_lt (by omega), xorTo_drop f a g i j (by omega)]
theorem xorTo_first (f : List Nat) (a : Nat) (g : Nat → Nat) (ha : a < f.length) : ∀ j, (xorTo f a g (j + 1)).getD a 0 = f.getD a 0 ^^^ g 0
  | 0 => by
    rw [xorTo, List.getD_eq_getElem?_getD, Nat.add_zero, List.getElem?_set_self (by rw [xorTo_length]; exact ha)]
    rfl
  | j + 1 => by
    rw [xorTo, List.getD_eq_getElem?_getD, List.getElem?_set_ne (by omega), ← List.getD_eq_getElem?_getD]
    exact xorTo_first f a g ha j
theorem xor_ne {a b : Nat} (hb : b ≠ 0) : a ^^^ b ≠ a := by
  intro h
  apply hb
  have : a ^^^ (a ^^^ b) = a ^^^ a := by rw [h]
  rw [← Nat.xor_assoc, Nat.xor_self, Nat.zero_xor] at this
  exact this
theorem three (l : List Nat) (a c e : Nat) : l.take e = (l.take e).take a ++ ((l.take e).drop a).take c ++ (l.take e).drop (a + c) := by
  rw [← List.drop_drop, List.append_assoc, List.take_append_drop, List.take_append_drop]
/-- How a frame is spoilt: from a on, c bytes, within its number and piece or within its check. -/
structure Hit (L a c : Nat) (g : Nat → Nat) : Prop where
  c1 : 1 ≤ c
  c4 : c ≤ 4
  g0 : g 0 ≠ 0
  gb : ∀ j, g j < 256
  place : a + c ≤ L + 1 ∨ (L + 1 ≤ a ∧ a + c ≤ L + 5)
theorem IsPack.hit {p : ByteArray} {d s n L : Nat} {fs : List (List Nat)} (h : IsPack p d s n L fs) {k : Nat} (hk : k < fs.length) {x : List Nat} (hx : x.length = L) (hxb : Bytes (k :: x)) {a c : Nat} {g : Nat → Nat} (hh : Hit L a c g) (hf : fs[k] = xorTo (frameL (headL d s n) k x) a g c) : badAt p k = true := by
  have ht := frameL_take (H := headL d s n) (k := k) hx
  have hd := frameL_drop (H := headL d s n) (k := k) hx
  have hlen := frameL_length (headL d s n) k x
  obtain ⟨j, rfl⟩ : ∃ j, c = j + 1 := ⟨c - 1, by have := hh.c1; omega⟩
  have hne : ∀ i, i = a → a < L + 5 → (xorTo (frameL (headL d s n) k x) a g (j + 1)).getD i 0 ≠ (frameL (headL d s n) k x).getD i 0 := by
    rintro i rfl hi
    rw [xorTo_first _ _ _ (by omega)]
    exact xor_ne hh.g0
  have hB : Bytes (frameL (headL d s n) k x) := by
    unfold frameL
    exact bytes_app hxb (Crc.check_bytes _)
  have hGB := xorTo_bytes hB a hh.gb (j + 1)
  have T := fun i hi => xorTo_take (frameL (headL d s n) k x) a g i hi (j + 1)
  have D := fun i => xorTo_drop (frameL (headL d s n) k x) a g i (j + 1)
  have Z := xorTo_length (frameL (headL d s n) k x) a g (j + 1)
  have h4 := hh.c4
  rw [← hf] at hne hGB T D Z
  rcases hh.place with hp | ⟨hp, hp2⟩
  · have e1 : (fs[k].take (L + 1)).take a = (k :: x).take a := by
      rw [List.take_take, Nat.min_eq_left (by omega), T a (Nat.le_refl _), ← ht, List.take_take, Nat.min_eq_left (by omega)]
    have e2 : (fs[k].take (L + 1)).drop (a + (j + 1)) = (k :: x).drop (a + (j + 1)) := by
      rw [List.drop_take, D _ (Nat.le_refl _), ← List.drop_take, ht]
    refine h.bad_body hk (x := x) (a := (k :: x).take a) (y := ((k :: x).drop a).take (j + 1)) (z := ((fs[k].take (L + 1)).drop a).take (j + 1)) (b := (k :: x).drop (a + (j + 1))) hxb ?_ ?_ ?_ ?_ ?_ ?_ ?_
    · have := three (k :: x) a (j + 1) (L + 1)
      rwa [List.take_of_length_le (show (k :: x).length ≤ L + 1 by simp [hx])] at this
    · have := three fs[k] a (j + 1) (L + 1)
      rw [e1, e2] at this
      exact this
    · exact fun v hv => hGB v (List.mem_of_mem_take (List.mem_of_mem_drop (List.mem_of_mem_take hv)))
    · simp only [List.length_take, List.length_drop, List.length_cons, hx, Z, hlen]; omega
    · rw [List.length_take]; omega
    · intro he
      have e0 : (((k :: x).drop a).take (j + 1)).getD 0 0 = (((fs[k].take (L + 1)).drop a).take (j + 1)).getD 0 0 := by rw [he]
      apply hne a rfl (by omega)
      simp only [List.getD_eq_getElem?_getD, List.getElem?_take, List.getElem?_drop, Nat.add_zero, Nat.zero_lt_succ, if_true, show a < L + 1 by omega, ← ht] at e0 ⊢
      exact e0.symm
    · rw [D _ (by omega), hd]
  · refine h.bad_check hk (x := x) ?_ ?_
    · rw [T _ hp, ht]
    · rw [← hd]
      intro he
      apply hne a rfl (by omega)
      have e0 : (fs[k].drop (L + 1)).getD (a - (L + 1)) 0 = ((frameL (headL d s n) k x).drop (L + 1)).getD (a - (L + 1)) 0 := by rw [he]
      simp only [List.getD_eq_getElem?_getD, List.getElem?_drop, show L + 1 + (a - (L + 1)) = a by omega] at e0 ⊢
      exact e0
/-- A pack of pieces, of which the frames in bad are spoilt. -/
structure Spoilt (q : ByteArray) (d s n L : Nat) (ps : List ByteArray) (bad : List Nat) (fs : List (List Nat)) : Prop where
  is : IsPack q d s n L fs
  plen : ps.length = d + s
  psize : ∀ x ∈ ps, x.size = L
  within : ∀ k ∈ bad, k < d + s
  good : ∀ k, (h : k < ps.length) → k ∉ bad → fs[k]? = some (frameL (headL d s n) k (nums ps[k]))
  hits : ∀ k, (h : k < ps.length) → k ∈ bad → ∃ a c g, Hit L a c g ∧ fs[k]? = some (xorTo (frameL (headL d s n) k (nums ps[k])) a g c)
theorem spoilt_none {d s n L : Nat} {ps : List ByteArray} (d1 : 1 ≤ d) (d2 : d ≤ 10) (s2 : s ≤ 6) (n2 : n ≤ 400) (eL : L = (n + d - 1) / d) (hl : ps.length = d + s) (hp : ∀ x ∈ ps, x.size = L) : Spoilt (packS d s n ps) d s n L ps [] (framesL (headL d s n) ps) where
  is := packS_is d1 d2 s2 n2 eL hl hp
  plen := hl
  psize := hp
  within := by simp
  good := by
    intro k h _
    have hk : k < (framesL (headL d s n) ps).length := by simp [framesL, h]
    rw [List.getElem?_eq_getElem hk, framesL_get hk h]
  hits := by simp
namespace Spoilt
variable {q : ByteArray} {d s n L : Nat} {ps : List ByteArray} {bad : List Nat} {fs : List (List Nat)}
theorem flen (h : Spoilt q d s n L ps bad fs) : fs.length = ps.length := by rw [h.is.len, h.plen]
theorem badAt_iff (h : Spoilt q d s n L ps bad fs) (k : Nat) (hk : k < d + s) : badAt q k = decide (k ∈ bad) := by
  have hk1 : k < ps.length := by rw [h.plen]; exact hk
  have hk2 : k < fs.length := by rw [h.flen]; exact hk1
  have hx : (nums ps[k]).length = L := by rw [nums_length]; exact h.psize _ (List.getElem_mem hk1)
  by_cases hb : k ∈ bad
  · obtain ⟨a, c, g, hh, he⟩ := h.hits k hk1 hb
    rw [List.getElem?_eq_getElem hk2] at he
    rw [decide_eq_true hb]
    refine h.is.hit hk2 hx ?_ hh (Option.some.inj he)
    have := h.is.d2; have := h.is.s2
    intro v hv
    rcases List.mem_cons.1 hv with rfl | hv
    · omega
    · exact nums_bytes _ v hv
  · have he := h.good k hk1 hb
    rw [List.getElem?_eq_getElem hk2] at he
    rw [decide_eq_false hb]
    exact (h.is.good hk2 hx (Option.some.inj he)).1
theorem pieceAt_eq (h : Spoilt q d s n L ps bad fs) (k : Nat) (hk : k < ps.length) (hb : k ∉ bad) : pieceAt q k = ps[k] := by
  have hk2 : k < fs.length := by rw [h.flen]; exact hk
  have hx : (nums ps[k]).length = L := by rw [nums_length]; exact h.psize _ (List.getElem_mem hk)
  have he := h.good k hk hb
  rw [List.getElem?_eq_getElem hk2] at he
  exact nums_inj (h.is.good hk2 hx (Option.some.inj he)).2
/-- Just the spoilt ones are bad. -/
theorem opened (h : Spoilt q d s n L ps bad fs) : openBad q = (List.range (d + s)).filter (fun k => decide (k ∈ bad)) := by
  unfold openBad badTo
  rw [h.is.hD, h.is.hS]
  refine List.filter_congr fun k hk => ?_
  rw [h.badAt_iff k (List.mem_range.1 hk)]
theorem pieces_length (h : Spoilt q d s n L ps bad fs) : (openPieces q).length = d + s := by
  simp [openPieces, piecesTo, h.is.hD, h.is.hS]
theorem pieces_size (h : Spoilt q d s n L ps bad fs) (k : Nat) (hk : k < (openPieces q).length) : (openPieces q)[k].size = L := by
  have := h.pieces_length
  simp only [openPieces, piecesTo, List.getElem_map, List.getElem_range]
  exact h.is.pieceSize k (by rw [h.is.len]; omega)
theorem pieces_get (h : Spoilt q d s n L ps bad fs) (k : Nat) (hk : k < (openPieces q).length) (hk2 : k < ps.length) (hb : k ∉ bad) : (openPieces q)[k] = ps[k] := by
  simp only [openPieces, piecesTo, List.getElem_map, List.getElem_range]
  exact h.pieceAt_eq k hk2 hb
/-- One more frame is spoilt. -/
theorem more (h : Spoilt q d s n L ps bad fs) {q' : ByteArray} {k a c : Nat} {g : Nat → Nat} (hk : k < d + s) (hb : k ∉ bad) (hh : Hit L a c g) (hk2 : k < fs.length) (hq : IsPack q' d s n L (fs.set k (xorTo fs[k] a g c))) : Spoilt q' d s n L ps (bad ++ [k]) (fs.set k (xorTo fs[k] a g c)) where
  is := hq
  plen := h.plen
  psize := h.psize
  within := by
    intro i hi
    rcases List.mem_append.1 hi with hi | hi
    · exact h.within i hi
    · simp at hi; omega
  good := by
    intro i hi hn
    simp at hn
    rw [List.getElem?_set_ne (by omega)]
    exact h.good i hi hn.1
  hits := by
    intro i hi hm
    by_cases e : k = i
    · subst e
      refine ⟨a, c, g, hh, ?_⟩
      have := h.good k hi hb
      rw [List.getElem?_eq_getElem hk2] at this
      rw [List.getElem?_set_self hk2, Option.some.inj this]
    · rw [List.getElem?_set_ne e]
      refine h.hits i hi ?_
      rcases List.mem_append.1 hm with hm | hm
      · exact hm
      · simp at hm; omega
end Spoilt
/-- The bytes of a frame are spoilt one after another. -/
theorem IsPack.hitTo {q : ByteArray} {d s n L : Nat} {fs : List (List Nat)} {k : Nat} (hk : k < fs.length) (a : Nat) (g : Nat → Nat) (j : Nat) (h : IsPack q d s n L (fs.set k (xorTo fs[k] a g j))) (ha : a + j < L + 5) {q' : ByteArray}
    (hq : nums q' = (nums q).set (10 + k * (L + 5) + (a + j)) ((nums q).getD (10 + k * (L + 5) + (a + j)) 0 ^^^ g j)) : IsPack q' d s n L (fs.set k (xorTo fs[k] a g (j + 1))) := by
  have hk' : k < (fs.set k (xorTo fs[k] a g j)).length := by simpa using hk
  have ge : (fs.set k (xorTo fs[k] a g j))[k] = xorTo fs[k] a g j := by simp
  have hv : (nums q).getD (10 + k * (L + 5) + (a + j)) 0 = (xorTo fs[k] a g j).getD (a + j) 0 := by
    have hf := h.frame k hk'
    rw [ge] at hf
    rw [← hf]
    unfold frameAt
    rw [numsX, h.hL]
    simp only [List.getD_eq_getElem?_getD, List.getElem?_take, List.getElem?_drop]
    rw [if_pos (by rw [Nat.add_mul]; omega)]
  have := h.set k (a + j) _ hk' ha hq
  rw [ge, hv, List.set_set] at this
  exact this
end Go.Proofs.YtokmllopbfmadabDoor.Ref

namespace Go.Proofs.YtokmllopbfmadabDoor.Ref
open Go.RowKit Parts
/-- The old byte. -/
def oldOf (pieces : List ByteArray) (p t : Nat) : Nat := (nums (pieces.getD p ByteArray.empty)).getD t 0
end Go.Proofs.YtokmllopbfmadabDoor.Ref

namespace Go.Proofs.YtokmllopbfmadabDoor.Top
open Go.RowKit Mem FieldWalks Tab ByTab Parts

theorem StrsAt.of_blk {w : World} {b : Nat} {ss : List ByteArray} (h : Blk w b 9 (strV ss)) (n cap : Nat) (hn : n = ss.length) : StrsAt w (.slice (some ⟨b, 0, none⟩) n cap) ss := by
  subst hn
  exact ⟨_, _, rfl, .inr ⟨b, 0, rfl, h.lt, fun k hk => by rw [Nat.zero_add]; exact h.cell_some (by simp [strV, hk])⟩⟩
theorem below_drew {w : World} (n : Nat) : Below w.heap.size w (w.drewN n) := below_drewN (Below.refl _ _) n
theorem table_below {w w' : World} {B : Nat} (h : Table w) (hb : Below B w w') (hB : 0 < B) : Table w' := by
  intro k hk
  rw [hb.cell (p := ⟨0, k, none⟩) hB]; exact h k hk
end Go.Proofs.YtokmllopbfmadabDoor.Top

/- A row of bytes that came of a string and is the call's own: strings are appended to it. Nothing of the program but its type of bytes. -/
namespace Go.Proofs.YtokmllopbfmadabDoor.Pk
open Go.RowKit Mem FieldWalks Tab ByTab Parts Ref
open Go.Lib (strCells strCells_length strCells_oneCell)

/-- Values are stored one after another into a row of which nothing is frozen, or nothing but what lies behind it. -/
theorem store_run {P : Program} (g o : Nat) (t : TypeId) (fz : Nat × Nat) : ∀ (vs : List Value) (i : Nat) (cur : Array Value) (w : World), w.heap[g]? = some (.cells cur t fz) → (fz = (0, 0) ∨ cur.size ≤ fz.1) → o + i + vs.length ≤ cur.size → (∀ v ∈ vs, v.oneCell' = true) →
    ∃ cur', (storeCells ⟨g, o, none⟩ vs i).run P w = .ok () (w.setRow g cur') ∧ cur'.size = cur.size ∧ cur'.toList.take (o + i + vs.length) = cur.toList.take (o + i) ++ vs
  | [], i, cur, w, hg, _, _, _ => ⟨cur, by simp only [storeCells]; rw [setRow_self w g cur t fz hg]; rfl, rfl, by simp⟩
  | v :: rest, i, cur, w, hg, hf, hl, h1 => by
    rw [List.length_cons] at hl
    have hlt : o + i < cur.size := by omega
    have ha : (⟨g, o, none⟩ : Addr).add i = ⟨g, o + i, none⟩ := by unfold Addr.add; split <;> simp_all
    have hc : w.cell? ⟨g, o + i, none⟩ = some cur[o + i] := by rw [cell_of_row w g (o + i) cur t fz hg, Array.getElem?_eq_getElem hlt]
    have hz : w.frozen? ⟨g, o + i, none⟩ = false := by
      unfold World.frozen?
      simp only [hg]
      rcases hf with rfl | hf
      · simp
      · simp; intro h; omega
    have hs : (store ((⟨g, o, none⟩ : Addr).add i) v).run P w = .ok () (w.setRow g (cur.setIfInBounds (o + i) v)) := by
      rw [ha, run_store P w _ v _ (h1 v (by simp)), hc]
      simp [hz, setCell_eq_setRow w g (o + i) cur t fz v hg]
    obtain ⟨cur', h2, h3, h4⟩ := store_run (P := P) g o t fz rest (i + 1) (cur.setIfInBounds (o + i) v) (w.setRow g (cur.setIfInBounds (o + i) v)) (setRow_heap w g cur _ t _ hg) (by simpa using hf) (by simp; omega) (fun x hx => h1 x (by simp [hx]))
    refine ⟨cur', ?_, by simpa using h3, ?_⟩
    · simp only [storeCells, Sem.run_bind, hs, Result.andThen_ok, h2, setRow_setRow]
    · rw [List.length_cons, show o + i + (rest.length + 1) = o + (i + 1) + rest.length by omega, h4, Array.toList_setIfInBounds, show o + (i + 1) = o + i + 1 by omega, List.take_add_one]
      rw [List.take_set_of_le (Nat.le_refl _), List.getElem?_set_self (by simpa using hlt)]
      simp
/-- v is a slice of the call's own that holds the bytes of s. -/
def OwnB (w : World) (base : Nat) (v : Value) (s : ByteArray) : Prop :=
  ∃ g cap cur fz, v = .slice (some ⟨g, 0, none⟩) s.size cap ∧ base ≤ g ∧ w.heap[g]? = some (.cells cur 5 fz) ∧ (fz = (0, 0) ∨ cur.size ≤ fz.1) ∧ s.size ≤ cap ∧ cap ≤ maxLen ∧ cur.size = cap ∧ cur.toList.take s.size = strCells s
theorem OwnB.to {w w' : World} {base : Nat} {v : Value} {s : ByteArray} (h : OwnB w base v s) (hb : Below w.heap.size w w') : OwnB w' base v s := by
  obtain ⟨g, cap, cur, fz, hv, hg, hh, r⟩ := h
  exact ⟨g, cap, cur, fz, hv, hg, by rw [hb.block g (lt_of_block hh)]; exact hh, r⟩
theorem OwnB.new (w : World) (base : Nat) (s : ByteArray) (hb : base ≤ w.heap.size) (hs : s.size ≤ maxLen) : OwnB (Lib.bytesWorld w 5 s) base (.slice (some ⟨w.heap.size, 0, none⟩) s.size (grownCap w s.size 0 5)) s := by
  have hge := grownCap_ge w s.size 0 5
  refine ⟨w.heap.size, _, _, _, rfl, hb, Lib.bytesWorld_at_new w 5 s, .inr (Nat.le_refl _), hge, grownCap_le_maxLen w s.size 0 5 hs, ?_, ?_⟩
  · unfold Lib.bytesCells
    simp
    have : s.data.size = s.size := rfl
    have h2 := hge
    unfold grownCap at h2 ⊢
    omega
  · unfold Lib.bytesCells strCells
    have : s.size = (s.data.map fun b => Value.int .u8 b.toNat).toList.length := by simp
    rw [Array.toList_append, this, List.take_left]
    simp
theorem strCells_app (a b : ByteArray) : strCells (a ++ b) = strCells a ++ strCells b := by simp [strCells, ByteArray.data_append]
theorem infoByte : (Tryd.prog.info? 5).map (fun i => (i.zero, i.size, i.bytes)) = some (some (.int .u8 0), 1, 1) := by kernel_rfl
theorem append_str (w : World) (base : Nat) (v : Value) (S s : ByteArray) (ty : TypeId) (h : OwnB w base v S) (hs : S.size + s.size ≤ 100000000) (hbase : base ≤ w.heap.size) :
    ∃ v' w', (Builtin.append_ #[56, 9] ty #[v, .string s]).run Tryd.prog w = .ok v' w' ∧ OwnB w' base v' (S ++ s) ∧ (∀ B a, Below B a w → B ≤ base → Below B a w') := by
  obtain ⟨i, hi, hz0, hz1, hz2⟩ := info_parts infoByte
  obtain ⟨g, cap, cur, fz, rfl, hg, hh, hf, hc1, hc2, hc3, htk⟩ := h
  have hm : S.size + s.size ≤ maxLen := by unfold maxLen; omega
  by_cases hroom : S.size + s.size ≤ cap
  · obtain ⟨cur', h1, h2, h3⟩ := store_run (P := Tryd.prog) g S.size 5 fz (strCells s) 0 cur w hh hf (by rw [strCells_length]; omega) (strCells_oneCell s)
    have hfc := Lib.run_firstCells_string (P := Tryd.prog) w 1 s
    refine ⟨.slice (some ⟨g, 0, none⟩) (S ++ s).size cap, w.setRow g cur', ?_, ⟨g, cap, cur', fz, rfl, hg, setRow_heap w g cur _ _ _ hh, by rw [h2]; exact hf, by rw [ByteArray.size_append]; exact hroom, hc2, by rw [h2]; exact hc3, ?_⟩, fun B a hb hB => below_row hb (Nat.le_trans hB hg) cur'⟩
    · rw [ByteArray.size_append]
      simp [Builtin.append_, run_underlying Tryd.underlying56, run_underlying Tryd.underlying9, sizeOf, typeInfo, hi, hz1, Builtin.lenOf, hroom, hfc, Addr.add_lit, h1]
    · rw [Nat.add_zero, strCells_length, htk] at h3
      rw [ByteArray.size_append, h3, strCells_app]
  · have holds : ∀ j u, (strCells S)[j]? = some u → w.cell? ((⟨g, 0, none⟩ : Addr).add j) = some u := by
      intro j u hu
      rw [show (⟨g, 0, none⟩ : Addr).add j = ⟨g, j, none⟩ by unfold Addr.add; split <;> simp_all, cell_of_row w g j cur _ fz hh]
      rw [← htk, List.getElem?_take] at hu
      split at hu
      · simpa using hu
      · cases hu
    have hr := Lib.run_append_grow_string (P := Tryd.prog) w 56 9 ty 5 i (.int .u8 0) Tryd.underlying56 Tryd.underlying9 hi hz0 ⟨g, 0, none⟩ S.size cap (strCells S) (by rw [hz1, strCells_length, Nat.mul_one]) holds s (by omega) (by omega) (by rw [hz2]; exact growslice_fits (by omega) (by omega))
    have hge := grownCap_ge w (S.size + s.size) cap 5
    refine ⟨_, _, hr, ⟨w.heap.size, _, _, (0, 0), by rw [ByteArray.size_append], hbase, heap_alloc_new w.drew _, .inl rfl, by rw [ByteArray.size_append]; exact hge, grownCap_le_maxLen w _ cap _ hm, ?_, ?_⟩, fun B a hb hB => hb.drew.alloc (Nat.le_trans hB hbase) _⟩
    · have hz1 : (Value.int IntKind.u8 0).cells.size = 1 := rfl
      simp only [Array.size_append, List.size_toArray, size_zeroCells, hz1, strCells_length]
      omega
    · rw [ByteArray.size_append, strCells_app]
      simp only [Array.toList_append]
      have : S.size + s.size = (strCells S ++ strCells s).length := by rw [List.length_append, strCells_length, strCells_length]
      rw [this]
      exact List.take_left
theorem wpList_append_str (w : World) {ops : Array Oper} {rest : List Oper} {o : Oper} {a : Act} {Q : Exit → Act → World → Prop}
    (hgd : o.guard = none) (x y : Operand) (hop : o.op = Op.call { callee := Callee.builtin Builtin.append, args := #[x, y], argTypes := #[56, 9] })
    (base : Nat) (v : Value) (S s : ByteArray) (hx : a.eval x = v) (hy : a.eval y = .string s) (h : OwnB w base v S) (hs : S.size + s.size ≤ 100000000) (hbase : base ≤ w.heap.size)
    (hK : ∀ v' w', OwnB w' base v' (S ++ s) → (∀ B a, Below B a w → B ≤ base → Below B a w') → wpList Tryd.prog ops Q rest (a.put o.dst v') w') :
    wpList Tryd.prog ops Q (o :: rest) a w := by
  refine wpList_plain hgd fun K hK' => ?_
  obtain ⟨v', w', hrun, h1, h2⟩ := append_str w base v S s o.type h hs hbase
  unfold Oper.wp
  simp [execOp, hop, resolve, invoke, builtin, hx, hy, hrun, Result.andThen]
  exact hK' _ _ (hK v' w' h1 h2)
theorem OwnB.bs {w : World} {base : Nat} {v : Value} {s : ByteArray} (h : OwnB w base v s) : BsAt w v (nums s) := by
  obtain ⟨g, cap, cur, fz, rfl, hg, hh, _, _, _, _, htk⟩ := h
  refine ⟨_, cap, by rw [nums_length], .inr ⟨g, 0, rfl, lt_of_block hh, fun k hk => ?_⟩⟩
  rw [nums_length] at hk
  rw [Nat.zero_add, cell_of_row w g k cur _ fz hh]
  have e : (cur.toList.take s.size)[k]? = (strCells s)[k]? := by rw [htk]
  rw [List.getElem?_take, if_pos hk] at e
  rw [← Array.getElem?_toList, e]
  have hk2 : k < s.data.size := hk
  simp only [strCells, nums, List.getElem?_map, Array.getElem?_toList, Array.getElem?_eq_getElem hk2, Option.map_some, List.getElem_map, Array.getElem_toList]
end Go.Proofs.YtokmllopbfmadabDoor.Pk

/- A pack in a list of bytes, spoilt byte by byte: what spoilt's loops keep. Nothing of the program. -/
namespace Go.Proofs.YtokmllopbfmadabDoor.Ref
open Go.RowKit Mem FieldWalks Tab ByTab Parts
open Gf (Bytes)

/-- A list of bytes that is a pack of which a frame is being spoilt. -/
structure Hitting (l : List Nat) (d s n L : Nat) (fs : List (List Nat)) (p a : Nat) (g : Nat → Nat) (j : Nat) : Prop where
  bytes : Bytes l
  pos : p < fs.length
  is : IsPack (mkS l) d s n L (fs.set p (xorTo (fs.getD p []) a g j))
theorem Hitting.start {l : List Nat} {d s n L : Nat} {fs : List (List Nat)} (hb : Bytes l) (h : IsPack (mkS l) d s n L fs) {p : Nat} (hp : p < fs.length) (a : Nat) (g : Nat → Nat) : Hitting l d s n L fs p a g 0 where
  bytes := hb
  pos := hp
  is := by
    have e : fs.set p (xorTo (fs.getD p []) a g 0) = fs := by
      rw [xorTo, List.getD_eq_getElem?_getD, List.getElem?_eq_getElem hp, Option.getD_some, List.set_getElem_self]
    rw [e]; exact h
theorem Hitting.length {l : List Nat} {d s n L : Nat} {fs : List (List Nat)} {p a : Nat} {g : Nat → Nat} {j : Nat} (h : Hitting l d s n L fs p a g j) : l.length = 10 + (d + s) * (L + 5) := by
  have := h.is.size
  rw [← this]
  show _ = (mkS l).data.size
  simp [mkS]
theorem Hitting.place {l : List Nat} {d s n L : Nat} {fs : List (List Nat)} {p a : Nat} {g : Nat → Nat} {j : Nat} (h : Hitting l d s n L fs p a g j) (ha : a + j < L + 5) : 10 + p * (L + 5) + a + j < l.length := by
  rw [h.length]
  have h1 := h.is.len
  rw [List.length_set] at h1
  have h2 := h.pos
  have : (p + 1) * (L + 5) ≤ (d + s) * (L + 5) := Nat.mul_le_mul_right _ (by omega)
  rw [Nat.add_mul] at this
  omega
theorem Hitting.next {l : List Nat} {d s n L : Nat} {fs : List (List Nat)} {p a : Nat} {g : Nat → Nat} {j : Nat} (h : Hitting l d s n L fs p a g j) (ha : a + j < L + 5) (hg : g j < 256) :
    Hitting (l.set (10 + p * (L + 5) + a + j) (l.getD (10 + p * (L + 5) + a + j) 0 ^^^ g j)) d s n L fs p a g (j + 1) := by
  have hb : Bytes (l.set (10 + p * (L + 5) + a + j) (l.getD (10 + p * (L + 5) + a + j) 0 ^^^ g j)) := by
    intro x hx
    rcases List.mem_or_eq_of_mem_set hx with hx | rfl
    · exact h.bytes x hx
    · exact Nat.xor_lt_two_pow (n := 8) (h.bytes.getD _) hg
  refine ⟨hb, h.pos, ?_⟩
  have hp := h.pos
  have e : fs.getD p [] = fs[p] := by rw [List.getD_eq_getElem?_getD, List.getElem?_eq_getElem hp, Option.getD_some]
  have hi := h.is
  rw [e] at hi ⊢
  refine IsPack.hitTo hp a g j hi ha ?_
  rw [numsM _ hb, numsM _ h.bytes, show 10 + p * (L + 5) + (a + j) = 10 + p * (L + 5) + a + j by omega]
/-- The frame is spoilt. -/
theorem Hitting.done {q : ByteArray} {l : List Nat} {d s n L : Nat} {ps : List ByteArray} {bad : List Nat} {fs : List (List Nat)} {p a : Nat} {g : Nat → Nat} {c : Nat} (h : Hitting l d s n L fs p a g c) (hs : Spoilt q d s n L ps bad fs) (hb : p ∉ bad) (hh : Hit L a c g) :
    ∃ fs', Spoilt (mkS l) d s n L ps (bad ++ [p]) fs' := by
  have hp := h.pos
  have e : fs.getD p [] = fs[p] := by rw [List.getD_eq_getElem?_getD, List.getElem?_eq_getElem hp, Option.getD_some]
  have hi := h.is
  rw [e] at hi
  exact ⟨_, hs.more (by have := hs.is.len; omega) hb hh hp hi⟩
end Go.Proofs.YtokmllopbfmadabDoor.Ref

namespace Go.Proofs.YtokmllopbfmadabDoor.Planes
open Go.RowKit Mem FieldWalks Tab

def colsOf (f : Nat) : List Nat := (List.range 8).map fun b => Gf.times f (2 ^ b)
theorem infoCols : (Tryd.prog.info? 146).map (·.size) = some 8 := by kernel_rfl

set_option maxRecDepth 100000 in
set_option maxHeartbeats 400000 in
theorem columns_any (f : Nat) (hf : f < 256) (w : World) (ht : Table w) :
    Calls Tryd.prog 85 #[.int .u8 f] w fun e w' => e = .returned (.agg (bytesV (colsOf f)).toArray) ∧ Below w.heap.size w w' := by
  go_enter Tryd.func85, Tryd.ntmps85
  go_wp2
  go_loopw [5] (fun i wr => ∃ k : Nat, k ≤ 8 ∧ i = .int .i64 k ∧ Blk wr w.heap.size 146 (bytesV (zeros 8)) ∧ Blk wr (w.heap.size + 1) 146 (bytesV (mix (colsOf f) (zeros 8) k)) ∧ Below w.heap.size w wr) (fun i _ => 8 - (intOf i).toNat)
  case atStart => exact ⟨0, Nat.zero_le _, rfl, (Blk.new w _ _).alloc _, Blk.new1 w _ _ _, (Below.refl _ _).alloc (Nat.le_refl _) _ |>.alloc (by simp) _⟩
  case round =>
    obtain ⟨k, hk, rfl, hb1, hb2, hbel⟩ := hrel
    by_cases hlt : k < 8
    · have hT := table_to ht hbel
      have hll : (mix (colsOf f) (zeros 8) k).length = 8 := by rw [mix_length (by simp [colsOf, zeros])]; simp [zeros]
      have hc1 := hb2.cell_some (k := k) (bytesV_at (by omega))
      generalize (mix (colsOf f) (zeros 8) k)[k]'(by omega) = old at hc1
      have hf1 := hb2.free k
      have HB1 : Hid (Blk wr w.heap.size 146 (bytesV (zeros 8))) := hb1
      have HB2 : Hid (Blk wr (w.heap.size + 1) 146 (bytesV (mix (colsOf f) (zeros 8) k))) := hb2
      obtain ⟨p, hp⟩ : ∃ p, p = 2 ^ k := ⟨_, rfl⟩
      have hpb : p < 256 := by rw [hp]; exact Gf.two_lt k hlt
      have ep : (2 : Int) ^ k = (p : Int) := by rw [hp]; simp
      have HP : Hid (p = 2 ^ k) := hp
      clear hb1 hb2 hll hp
      go_wp2_with fail
      refine (mul_any f p hf hpb _ hT).mono ?_
      rintro e w' ⟨rfl, rfl⟩
      clear hT
      go_wp2
      go_roundw
      case rel =>
        refine ⟨k + 1, by omega, by go_num, ?_, ?_, ?_⟩
        · exact HB1.out.other (by show _ ≠ w.heap.size + 1; omega) _
        · refine (HB2.out.set k _).eq ?_
          rw [bytesV_set, ← mix_set (k := k) (new := colsOf f) (old := zeros 8) (by simp [colsOf, zeros]) (by simpa [zeros] using hlt), HP.out]
          simp [colsOf]
        · exact hbel.setCell (by show _ ≤ w.heap.size + 1; omega) _
      case measure => simp [intOf]; omega
    · obtain rfl : k = 8 := by omega
      have e := mix_all (new := colsOf f) (old := zeros 8) (by simp [colsOf, zeros])
      rw [show (zeros 8).length = 8 from rfl] at e
      rw [e] at hb2
      have HS : Hid ((Tryd.prog.info? 146).map (·.size) = some (bytesV (colsOf f)).toArray.size) := by show _ = _; rw [infoCols]; simp [colsOf]
      have HB1 : Hid (Blk wr w.heap.size 146 (bytesV (zeros 8))) := hb1
      have HB2 : Hid (Blk wr (w.heap.size + 1) 146 (bytesV (colsOf f))) := hb2
      clear hb1 hb2 e
      go_wp2_with (first | refine wpList_load_row rfl 146 _ rfl (w.heap.size + 1) rfl 146 _ _ _ HB2.out Tryd.underlying146 rfl HS.out ?_ | refine wpList_store_row rfl 146 _ _ rfl w.heap.size _ rfl rfl 146 _ HB1.out HS.out (by simp [colsOf, zeros]) (bytesV_one _) ?_)
      have hr := HB1.out.row (bytesV (colsOf f)).toArray
      refine bodyPost_ret (v := .agg (bytesV (colsOf f)).toArray) (results_cell_row (p := 2) (ty := 146) (by kernel_rfl) _ _ w.heap.size 146 _ (0, 0) _ rfl hr Tryd.underlying146 rfl HS.out) rfl ⟨rfl, ?_⟩
      exact below_row hbel (Nat.le_refl _) _
end Go.Proofs.YtokmllopbfmadabDoor.Planes

namespace Go.Proofs.YtokmllopbfmadabDoor.Planes
open Go.RowKit Mem FieldWalks Tab

def wordsV (l : List Nat) : List Value := l.map fun (n : Nat) => Value.int .u64 (n : Int)
@[simp] theorem wordsV_length (l : List Nat) : (wordsV l).length = l.length := by simp [wordsV]
theorem wordsV_at {l : List Nat} {k : Nat} (h : k < l.length) : (wordsV l)[k]? = some (.int .u64 (l[k] : Nat)) := by simp [wordsV, h]
theorem wordsV_set (l : List Nat) (k n : Nat) : (wordsV l).set k (.int .u64 (n : Int)) = wordsV (l.set k n) := by simp [wordsV, List.map_set]
theorem wordsV_one (l : List Nat) : (wordsV l).toArray.all (·.oneCell') = true := by
  rw [Array.all_eq_true_iff_forall_mem]; intro v hv; simp [wordsV] at hv; obtain ⟨n, _, rfl⟩ := hv; rfl

theorem index_col (f k : Nat) (hk : k < 8) (w : World) : (Instr.index 146 (.agg (bytesV (colsOf f)).toArray) (.int .i64 (k : Int))).run Tryd.prog w = .ok (.int .u8 (Gf.times f (2 ^ k) : Nat)) w := by
  rcases (show k = 0 ∨ k = 1 ∨ k = 2 ∨ k = 3 ∨ k = 4 ∨ k = 5 ∨ k = 6 ∨ k = 7 by omega) with rfl | rfl | rfl | rfl | rfl | rfl | rfl | rfl <;> kernel_rfl
def movesOf (f : Nat) : List Nat := (List.range 8).map fun b => Gf.moves (Gf.times f (2 ^ b))
/-- The moves of one column, behind n of its bits. -/
def movesTo (c n : Nat) : Nat := Gf.bitsOf 64 fun j => decide (j % 8 = 0) && (decide (j / 8 < n) && c.testBit (j / 8))
theorem movesTo_zero (c : Nat) : movesTo c 0 = 0 := by
  refine (Gf.eq_bitsOf (n := 64) (Nat.two_pow_pos 64) fun j _ => ?_).symm
  simp
theorem movesTo_all (c : Nat) : movesTo c 8 = Gf.moves c := Gf.bitsOf_congr fun j hj => by simp [show j / 8 < 8 by omega]
theorem movesTo_lt (c n : Nat) : movesTo c n < 18446744073709551616 := Gf.bitsOf_lt 64 _
theorem movesTo_next (c n : Nat) (hn : n < 8) : movesTo c n ||| (if c.testBit n then 2 ^ (8 * n) else 0) = movesTo c (n + 1) := by
  refine Gf.or_bit (c.testBit n) (by omega) fun i hi => ?_
  by_cases e : i = 8 * n
  · subst e; simp [show 8 * n / 8 = n by omega]
  · by_cases h8 : i % 8 = 0
    · have h1 : i / 8 ≠ n := by omega
      have : (i / 8 < n + 1) ↔ (i / 8 < n) := by omega
      simp [h8, e, this]
    · simp [h8, e]
theorem mix_stay {new old : List Nat} {b x : Nat} (h : new.length = old.length) (hb : b < old.length) (hx : old[b] = x) : (mix new old b).set b x = mix new old b := by
  apply List.ext_getElem?
  intro i
  by_cases e : i = b
  · subst e
    rw [mix_at h hb, hx, List.getElem?_set_self (by rw [mix_length h]; exact hb)]
  · rw [List.getElem?_set_ne (by omega)]
/-- A bit, as the walk spells it, moved up in a word. -/
theorem bit_word (c n m : Nat) (hc : c < 256) (hm : m < 64) : IntKind.u64.wrap (IntKind.u64.wrap (bits .and .u8 ((c : Int) / 2 ^ n) 1) * 2 ^ m) = ((if c.testBit n then 2 ^ m else 0 : Nat) : Int) := by
  have h1 : bits .and .u8 ((c : Int) / 2 ^ n) 1 = if c.testBit n then 1 else 0 := by
    have hl : c / 2 ^ n < 256 := Nat.lt_of_le_of_lt (Nat.div_le_self _ _) hc
    rw [Gf.cast_shr, show (1 : Int) = ((1 : Nat) : Int) from rfl, u8_and_nat _ _ hl (by omega), nat_mask1, Gf.testBit_div]
    have hlt : c / 2 ^ n % 2 < 2 := Nat.mod_lt _ (by omega)
    generalize c / 2 ^ n % 2 = t at hlt ⊢
    rcases (show t = 0 ∨ t = 1 by omega) with rfl | rfl <;> rfl
  rw [h1]
  have hp : (2 : Nat) ^ m < 2 ^ 64 := Nat.pow_lt_pow_right (by omega) hm
  split
  · rw [IntKind.wrap_u64, IntKind.wrap_u64]
    have e : ((2 : Int) ^ m) = ((2 ^ m : Nat) : Int) := by simp
    rw [e, show (1 : Int) % 18446744073709551616 = 1 from rfl, Int.one_mul]
    generalize 2 ^ m = t at hp ⊢
    omega
  · rw [IntKind.wrap_u64, IntKind.wrap_u64]; simp

theorem bit_lt (b : Bool) (m : Nat) (hm : m < 64) : (if b then 2 ^ m else 0) < 18446744073709551616 := by
  split
  · have h : 2 ^ m < 2 ^ 64 := Nat.pow_lt_pow_right (by omega) hm
    exact h
  · omega
theorem zeros_get (n b : Nat) (h : b < (zeros n).length) : (zeros n)[b] = 0 := by unfold zeros; exact List.getElem_replicate _
theorem infoMoves : (Tryd.prog.info? 128).map (·.size) = some 8 := by kernel_rfl

set_option maxRecDepth 100000 in
set_option maxHeartbeats 400000 in
theorem planeMoves_any (f : Nat) (hf : f < 256) (w : World) (ht : Table w) :
    Calls Tryd.prog 79 #[.int .u8 f] w fun e w' => e = .returned (.agg (wordsV (movesOf f)).toArray) ∧ Below w.heap.size w w' := by
  go_enter Tryd.func79, Tryd.ntmps79
  go_wp2_with fail
  refine (columns_any f hf _ (table_to ht ((Below.refl _ _).alloc (Nat.le_refl _) _ |>.alloc (by simp) _))).mono ?_
  rintro e w1 ⟨rfl, hw1⟩
  go_wp2
  have hbel : Below w.heap.size w w1 := ((Below.refl _ _).alloc (Nat.le_refl _) _ |>.alloc (by simp) _).trans (hw1.mono (by simp; omega))
  have hA : Blk w1 w.heap.size 128 (wordsV (zeros 8)) := ((Blk.new w _ _).alloc _).to hw1
  have hM : Blk w1 (w.heap.size + 1) 128 (wordsV (zeros 8)) := (Blk.new1 w _ _ _).to hw1
  clear hw1
  go_loopw [9] (fun i wr => ∃ b : Nat, b ≤ 8 ∧ i = .int .i64 b ∧ Blk wr w.heap.size 128 (wordsV (zeros 8)) ∧ Blk wr (w.heap.size + 1) 128 (wordsV (mix (movesOf f) (zeros 8) b)) ∧ Below w.heap.size w wr) (fun i _ => 8 - (intOf i).toNat)
  case atStart => exact ⟨0, Nat.zero_le _, rfl, hA, by rw [mix_zero]; exact hM, hbel⟩
  case round =>
    clear hA hM hbel
    obtain ⟨b, hb, rfl, hA, hM, hbel⟩ := hrel
    by_cases hlt : b < 8
    · have hix := fun w => index_col f b hlt w
      obtain ⟨col, hcol⟩ : ∃ col, col = Gf.times f (2 ^ b) := ⟨_, rfl⟩
      have hcb : col < 256 := by rw [hcol]; exact Gf.times_lt _ _ hf
      have HC : Hid (col = Gf.times f (2 ^ b)) := hcol
      rw [← hcol] at hix
      clear hcol
      go_wp2
      clear hix
      go_loopw [13] (fun i wr => ∃ t : Nat, t ≤ 8 ∧ i = .int .i64 t ∧ Blk wr w.heap.size 128 (wordsV (zeros 8)) ∧ Blk wr (w.heap.size + 1) 128 (wordsV ((mix (movesOf f) (zeros 8) b).set b (movesTo col t))) ∧ Below w.heap.size w wr) (fun i _ => 8 - (intOf i).toNat)
      case atStart =>
        refine ⟨0, Nat.zero_le _, rfl, hA, hM.eq ?_, hbel⟩
        rw [movesTo_zero, mix_stay (by simp [movesOf, zeros]) (by simpa [zeros] using hlt) (zeros_get _ _ _)]
      case round =>
        clear hA hM hbel
        obtain ⟨t, ht', rfl, hA, hM, hbel⟩ := hrel
        by_cases htlt : t < 8
        · have hll : ((mix (movesOf f) (zeros 8) b).set b (movesTo col t)).length = 8 := by rw [List.length_set, mix_length (by simp [movesOf, zeros])]; simp [zeros]
          have hc1 := hM.cell_some (k := b) (v := .int .u64 (movesTo col t : Nat)) (by rw [wordsV_at (by omega)]; simp)
          have hf1 := hM.free b
          have HA : Hid (Blk wr w.heap.size 128 (wordsV (zeros 8))) := hA
          have HM : Hid (Blk wr (w.heap.size + 1) 128 (wordsV ((mix (movesOf f) (zeros 8) b).set b (movesTo col t)))) := hM
          clear hA hM hll
          have EV : Hid (bits .or .u64 (movesTo col t : Nat) (IntKind.u64.wrap (IntKind.u64.wrap (bits .and .u8 ((col : Int) / 2 ^ t) 1) * 2 ^ (8 * t))) = (movesTo col (t + 1) : Nat)) := by
            show _ = _
            rw [bit_word col t (8 * t) hcb (by omega), u64_or_nat _ _ (movesTo_lt col t) (bit_lt _ _ (by omega)), movesTo_next col t htlt]
          generalize movesTo col t = old at hc1 EV
          go_wp2
          go_region
          go_wp2
          go_roundw
          case rel =>
            refine ⟨t + 1, by omega, by go_num, (HA.out.other (by show _ ≠ w.heap.size + 1; omega) _).drew, ?_, (hbel.setCell (by show _ ≤ w.heap.size + 1; omega) _).drew⟩
            refine (HM.out.set b _).drew.eq ?_
            rw [EV.out, wordsV_set, List.set_set]
          case measure => simp [intOf]; omega
        · obtain rfl : t = 8 := by omega
          go_wp2
          go_roundw
          case rel =>
            refine ⟨b + 1, by omega, by go_num, hA, hM.eq ?_, hbel⟩
            rw [movesTo_all, HC.out, ← mix_set (k := b) (new := movesOf f) (old := zeros 8) (by simp [movesOf, zeros]) (by simpa [zeros] using hlt)]
            simp [movesOf]
          case measure => simp [intOf]; omega
    · obtain rfl : b = 8 := by omega
      have e := mix_all (new := movesOf f) (old := zeros 8) (by simp [movesOf, zeros])
      rw [show (zeros 8).length = 8 from rfl] at e
      rw [e] at hM
      have HS : Hid ((Tryd.prog.info? 128).map (·.size) = some (wordsV (movesOf f)).toArray.size) := by show _ = _; rw [infoMoves]; simp [movesOf]
      have HA : Hid (Blk wr w.heap.size 128 (wordsV (zeros 8))) := hA
      have HM : Hid (Blk wr (w.heap.size + 1) 128 (wordsV (movesOf f))) := hM
      clear hA hM e
      go_wp2_with (first | refine wpList_load_row rfl 128 _ rfl (w.heap.size + 1) rfl 128 _ _ _ HM.out Tryd.underlying128 rfl HS.out ?_ | refine wpList_store_row rfl 128 _ _ rfl w.heap.size _ rfl rfl 128 _ HA.out HS.out (by simp [movesOf, zeros]) (wordsV_one _) ?_)
      have hr := HA.out.row (wordsV (movesOf f)).toArray
      refine bodyPost_ret (v := .agg (wordsV (movesOf f)).toArray) (results_cell_row (p := 2) (ty := 128) (by kernel_rfl) _ _ w.heap.size 128 _ (0, 0) _ rfl hr Tryd.underlying128 rfl HS.out) rfl ⟨rfl, ?_⟩
      exact below_row hbel (Nat.le_refl _) _
end Go.Proofs.YtokmllopbfmadabDoor.Planes
