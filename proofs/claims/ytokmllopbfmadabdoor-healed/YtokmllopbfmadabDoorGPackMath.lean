import Derived.Test.YtokmllopbfmadabDoorGGf
import Derived.Test.YtokmllopbfmadabDoorGByTables
import Derived.Deep.RegionHeld3
/- What a pack is, and what is read off it, in plain bytes: of a pack that is whole, and of one whose frames are spoilt. Nothing of the program. -/
namespace Go.Proofs.YtokmllopbfmadabDoor.Ref
open Go.RowKit Mem FieldWalks Tab ByTab Parts
open Gf (Bytes)

/-- The check of a string. -/
def checkS (s : ByteArray) : ByteArray := mkS (Crc.check (nums s))
/-- A string of one byte. -/
def oneS (n : Nat) : ByteArray := mkS [n % 256]
/-- The head's six bytes. -/
def headS (d s n : Nat) : ByteArray := mkS [119, 1, d % 256, s % 256, n / 256 % 256, n % 256]
theorem checkS_size (s : ByteArray) : (checkS s).size = 4 := rfl
theorem oneS_size (n : Nat) : (oneS n).size = 1 := rfl
theorem headS_size (d s n : Nat) : (headS d s n).size = 6 := rfl
/-- A frame. -/
def frameS (h : ByteArray) (p : Nat) (x : ByteArray) : ByteArray := oneS p ++ x ++ checkS (h ++ oneS p ++ x)
/-- A pack, behind its first k frames. -/
def packTo (h : ByteArray) (ps : List ByteArray) : Nat → ByteArray
  | 0 => h ++ checkS h
  | k + 1 => packTo h ps k ++ frameS h k (ps.getD k ByteArray.empty)
def packS (d s n : Nat) (ps : List ByteArray) : ByteArray := packTo (headS d s n) ps ps.length

/-- A byte of a string. -/
def byteAt (p : ByteArray) (i : Nat) : Nat := (nums p).getD i 0
def pD (p : ByteArray) : Nat := byteAt p 2
def pS (p : ByteArray) : Nat := byteAt p 3
def pN (p : ByteArray) : Nat := 256 * byteAt p 4 + byteAt p 5
def pL (p : ByteArray) : Nat := (pN p + pD p - 1) / pD p
/-- The first ten bytes are a head and its check. -/
def headOk (p : ByteArray) : Prop := 10 ≤ p.size ∧ byteAt p 0 = 119 ∧ byteAt p 1 = 1 ∧ (1 ≤ pD p ∧ pD p ≤ 10 ∧ pS p ≤ 6) ∧ pN p ≤ 400 ∧ p.extract 6 10 = checkS (p.extract 0 6)
/-- It has just the bytes that its head asks for. -/
def cutOk (p : ByteArray) : Prop := p.size = 10 + (pD p + pS p) * (pL p + 5)
def frameAt (p : ByteArray) (k : Nat) : ByteArray := p.extract (10 + k * (pL p + 5)) (10 + (k + 1) * (pL p + 5))
def pieceAt (p : ByteArray) (k : Nat) : ByteArray := (frameAt p k).extract 1 (pL p + 1)
/-- Its number or its check is not right. -/
def badAt (p : ByteArray) (k : Nat) : Bool := decide (byteAt (frameAt p k) 0 ≠ k ∨ (frameAt p k).extract (pL p + 1) (pL p + 5) ≠ checkS (p.extract 0 6 ++ (frameAt p k).extract 0 (pL p + 1)))
def piecesTo (p : ByteArray) (k : Nat) : List ByteArray := (List.range k).map (pieceAt p)
def badTo (p : ByteArray) (k : Nat) : List Nat := (List.range k).filter (badAt p)
def openPieces (p : ByteArray) : List ByteArray := piecesTo p (pD p + pS p)
def openBad (p : ByteArray) : List Nat := badTo p (pD p + pS p)
theorem piecesTo_next (p : ByteArray) (k : Nat) : piecesTo p (k + 1) = piecesTo p k ++ [pieceAt p k] := by simp [piecesTo, List.range_succ]
theorem badTo_next (p : ByteArray) (k : Nat) : badTo p (k + 1) = if badAt p k then badTo p k ++ [k] else badTo p k := by
  unfold badTo
  rw [List.range_succ, List.filter_append]
  by_cases h : badAt p k <;> simp [h]

/-! Bytes in lists. -/
theorem numsX (p : ByteArray) (a b : Nat) : nums (p.extract a b) = ((nums p).drop a).take (b - a) := by
  simp only [nums, ByteArray.data_extract, Array.toList_extract, List.extract_eq_take_drop, List.map_take, List.map_drop]
theorem numsA (a b : ByteArray) : nums (a ++ b) = nums a ++ nums b := by simp [nums, ByteArray.data_append]
theorem mkN (s : ByteArray) : mkS (nums s) = s := by
  apply ByteArray.ext
  simp only [mkS, nums, List.map_map]
  have : (UInt8.ofNat ∘ UInt8.toNat) = id := by funext x; simp
  rw [this, List.map_id]
theorem numsM (l : List Nat) (h : Bytes l) : nums (mkS l) = l := by
  simp only [mkS, nums, List.map_map]
  conv => rhs; rw [← List.map_id l]
  refine List.map_congr_left fun x hx => ?_
  have := h x hx
  simp [UInt8.toNat_ofNat']; omega
theorem nums_inj {a b : ByteArray} (h : nums a = nums b) : a = b := by rw [← mkN a, h, mkN]
theorem numsC (s : ByteArray) : nums (checkS s) = Crc.check (nums s) := numsM _ (Crc.check_bytes _)
theorem check_len (l : List Nat) : (Crc.check l).length = 4 := rfl
theorem bytes_app {a b : List Nat} (ha : Bytes a) (hb : Bytes b) : Bytes (a ++ b) := by
  intro x hx
  rcases List.mem_append.1 hx with h | h
  · exact ha x h
  · exact hb x h
theorem flat_at {m : Nat} : ∀ (fs : List (List Nat)) (k : Nat), (∀ f ∈ fs, f.length = m) → (h : k < fs.length) → (fs.flatten.drop (k * m)).take m = fs[k]
  | [], k, _, h => absurd h (by simp)
  | f :: fs, 0, hm, _ => by
    have := hm f (by simp)
    simp [← this]
  | f :: fs, k + 1, hm, h => by
    have h1 := hm f (by simp)
    have h2 := flat_at fs k (fun g hg => hm g (by simp [hg])) (by simpa using h)
    rw [List.flatten_cons, Nat.add_mul, Nat.one_mul, Nat.add_comm, List.drop_append, h1]
    rw [List.drop_eq_nil_of_le (by omega), List.nil_append]
    rw [show m + k * m - m = k * m by omega, h2]
    simp
theorem flat_length {m : Nat} : ∀ (fs : List (List Nat)), (∀ f ∈ fs, f.length = m) → fs.flatten.length = fs.length * m
  | [], _ => by simp
  | f :: fs, hm => by
    have h2 := flat_length fs (fun g hg => hm g (by simp [hg]))
    rw [List.flatten_cons, List.length_append, h2, hm f (by simp), List.length_cons, Nat.add_mul]; omega
theorem flat_set {m : Nat} (j v : Nat) (hj : j < m) : ∀ (fs : List (List Nat)) (k : Nat), (∀ f ∈ fs, f.length = m) → (h : k < fs.length) → fs.flatten.set (k * m + j) v = (fs.set k (fs[k].set j v)).flatten
  | [], k, _, h => absurd h (by simp)
  | f :: fs, 0, hm, _ => by
    have := hm f (by simp)
    simp only [Nat.zero_mul, Nat.zero_add, List.flatten_cons, List.set_cons_zero, List.getElem_cons_zero]
    rw [List.set_append_left _ _ (by omega)]
  | f :: fs, k + 1, hm, h => by
    have h1 := hm f (by simp)
    have h2 := flat_set j v hj fs k (fun g hg => hm g (by simp [hg])) (by simpa using h)
    simp only [List.flatten_cons, List.set_cons_succ, List.getElem_cons_succ]
    rw [← h2, List.set_append_right _ _ (by rw [Nat.add_mul]; omega), h1, show (k + 1) * m + j - m = k * m + j by rw [Nat.add_mul]; omega]

/-! Packs by their frames. -/
def headL (d s n : Nat) : List Nat := [119, 1, d, s, n / 256, n % 256]
/-- The frame of a piece. -/
def frameL (H : List Nat) (k : Nat) (x : List Nat) : List Nat := k :: x ++ Crc.check (H ++ k :: x)
/-- p is a head and so many frames of the right length. -/
structure IsPack (p : ByteArray) (d s n L : Nat) (fs : List (List Nat)) : Prop where
  d1 : 1 ≤ d
  d2 : d ≤ 10
  s2 : s ≤ 6
  n2 : n ≤ 400
  eL : L = (n + d - 1) / d
  len : fs.length = d + s
  each : ∀ f ∈ fs, f.length = L + 5
  eq : nums p = headL d s n ++ Crc.check (headL d s n) ++ fs.flatten
namespace IsPack
variable {p : ByteArray} {d s n L : Nat} {fs : List (List Nat)} (h : IsPack p d s n L fs)
theorem headB (h : IsPack p d s n L fs) : Bytes (headL d s n) := by
  have := h.d2; have := h.s2; have := h.n2
  intro x hx
  simp [headL] at hx
  rcases hx with rfl | rfl | rfl | rfl | rfl | rfl <;> omega
include h
theorem b0 : byteAt p 0 = 119 := by unfold byteAt; rw [h.eq]; rfl
theorem b1 : byteAt p 1 = 1 := by unfold byteAt; rw [h.eq]; rfl
theorem hD : pD p = d := by unfold pD byteAt; rw [h.eq]; rfl
theorem hS : pS p = s := by unfold pS byteAt; rw [h.eq]; rfl
theorem hN : pN p = n := by
  unfold pN byteAt; rw [h.eq]
  show 256 * (n / 256) + n % 256 = n
  omega
theorem hL : pL p = L := by unfold pL; rw [h.hN, h.hD, h.eL]
theorem size : p.size = 10 + (d + s) * (L + 5) := by
  rw [← nums_length, h.eq, List.length_append, flat_length fs h.each, h.len]; rfl
theorem head6 : nums (p.extract 0 6) = headL d s n := by rw [numsX, h.eq]; rfl
theorem ok : headOk p := by
  refine ⟨by rw [h.size]; omega, h.b0, h.b1, ⟨by rw [h.hD]; exact h.d1, by rw [h.hD]; exact h.d2, by rw [h.hS]; exact h.s2⟩, by rw [h.hN]; exact h.n2, ?_⟩
  apply nums_inj
  rw [numsC, h.head6, numsX, h.eq]
  rfl
theorem cut : cutOk p := by unfold cutOk; rw [h.hD, h.hS, h.hL, h.size]
theorem frame (k : Nat) (hk : k < fs.length) : nums (frameAt p k) = fs[k] := by
  unfold frameAt
  rw [numsX, h.hL, h.eq, ← flat_at fs k h.each hk]
  rw [show 10 + (k + 1) * (L + 5) - (10 + k * (L + 5)) = L + 5 by rw [Nat.add_mul]; omega]
  congr 1
  rw [List.drop_append, List.drop_eq_nil_of_le (by show 10 ≤ _; omega), List.nil_append]
  congr 1
  show 10 + _ - 10 = _
  omega
theorem piece (k : Nat) (hk : k < fs.length) : nums (pieceAt p k) = (fs[k].drop 1).take L := by
  unfold pieceAt
  rw [numsX, h.hL, h.frame k hk, Nat.add_sub_cancel]
theorem pieceSize (k : Nat) (hk : k < fs.length) : (pieceAt p k).size = L := by
  rw [← nums_length, h.piece k hk, List.length_take, List.length_drop, h.each _ (List.getElem_mem hk)]; omega
theorem bad (k : Nat) (hk : k < fs.length) : badAt p k = decide (fs[k].getD 0 0 ≠ k ∨ fs[k].drop (L + 1) ≠ Crc.check (headL d s n ++ fs[k].take (L + 1))) := by
  unfold badAt byteAt
  rw [h.frame k hk, h.hL]
  have e : ((frameAt p k).extract (L + 1) (L + 5) = checkS (p.extract 0 6 ++ (frameAt p k).extract 0 (L + 1))) ↔ fs[k].drop (L + 1) = Crc.check (headL d s n ++ fs[k].take (L + 1)) := by
    have hz := h.each _ (List.getElem_mem hk)
    have e1 : nums ((frameAt p k).extract (L + 1) (L + 5)) = fs[k].drop (L + 1) := by
      rw [numsX, h.frame k hk, List.take_of_length_le]
      rw [List.length_drop]; omega
    have e2 : nums (checkS (p.extract 0 6 ++ (frameAt p k).extract 0 (L + 1))) = Crc.check (headL d s n ++ fs[k].take (L + 1)) := by
      rw [numsC, numsA, h.head6, numsX, h.frame k hk]; rfl
    rw [← e1, ← e2]
    exact ⟨fun x => by rw [x], nums_inj⟩
  simp only [ne_eq, e]
omit h in
/-- A byte of a frame is written over. -/
theorem set (h : IsPack p d s n L fs) {q : ByteArray} (k j v : Nat) (hk : k < fs.length) (hj : j < L + 5) (hq : nums q = (nums p).set (10 + k * (L + 5) + j) v) : IsPack q d s n L (fs.set k (fs[k].set j v)) where
  d1 := h.d1
  d2 := h.d2
  s2 := h.s2
  n2 := h.n2
  eL := h.eL
  len := by simp [h.len]
  each := by
    intro f hf
    rcases List.mem_or_eq_of_mem_set hf with hf | rfl
    · exact h.each f hf
    · rw [List.length_set]; exact h.each _ (List.getElem_mem hk)
  eq := by
    rw [hq, h.eq, List.set_append_right _ _ (by show 10 ≤ _; omega)]
    congr 1
    rw [← flat_set j v hj fs k h.each hk]
    congr 1
    show 10 + _ + j - 10 = _
    omega
end IsPack

/-! A pack that is whole. -/
def framesL (H : List Nat) (ps : List ByteArray) : List (List Nat) := (List.range ps.length).map fun k => frameL H k (nums (ps.getD k ByteArray.empty))
theorem frameL_length (H : List Nat) (k : Nat) (x : List Nat) : (frameL H k x).length = x.length + 5 := by simp [frameL]
theorem nums_head {d s n : Nat} (hd : d ≤ 10) (hs : s ≤ 6) (hn : n ≤ 400) : nums (headS d s n) = headL d s n := by
  unfold headS
  rw [numsM]
  · unfold headL
    rw [Nat.mod_eq_of_lt (show d < 256 by omega), Nat.mod_eq_of_lt (show s < 256 by omega), Nat.mod_eq_of_lt (show n / 256 < 256 by omega)]
  · intro x hx
    simp at hx
    rcases hx with rfl | rfl | rfl | rfl | rfl | rfl <;> omega
theorem nums_one {k : Nat} (hk : k < 256) : nums (oneS k) = [k] := by
  unfold oneS
  rw [numsM, Nat.mod_eq_of_lt hk]
  intro x hx
  simp at hx; omega
theorem nums_frame {h x : ByteArray} {k : Nat} (hk : k < 256) : nums (frameS h k x) = frameL (nums h) k (nums x) := by
  unfold frameS frameL
  rw [numsA, numsA, numsC, numsA, numsA, nums_one hk]
  simp
theorem nums_packTo (h : ByteArray) (ps : List ByteArray) (hl : ps.length ≤ 100) : ∀ k, k ≤ ps.length → nums (packTo h ps k) = nums h ++ Crc.check (nums h) ++ ((List.range k).map fun k => frameL (nums h) k (nums (ps.getD k ByteArray.empty))).flatten
  | 0, _ => by simp [packTo, numsA, numsC]
  | k + 1, hk => by
    rw [packTo, numsA, nums_packTo h ps hl k (by omega), nums_frame (by omega), List.range_succ]
    simp
theorem packS_is {d s n L : Nat} {ps : List ByteArray} (d1 : 1 ≤ d) (d2 : d ≤ 10) (s2 : s ≤ 6) (n2 : n ≤ 400) (eL : L = (n + d - 1) / d) (hl : ps.length = d + s) (hp : ∀ x ∈ ps, x.size = L) : IsPack (packS d s n ps) d s n L (framesL (headL d s n) ps) where
  d1 := d1
  d2 := d2
  s2 := s2
  n2 := n2
  eL := eL
  len := by simp [framesL, hl]
  each := by
    intro f hf
    simp only [framesL, List.mem_map, List.mem_range] at hf
    obtain ⟨k, hk, rfl⟩ := hf
    rw [frameL_length, nums_length, List.getD_eq_getElem?_getD, List.getElem?_eq_getElem hk, Option.getD_some, hp _ (List.getElem_mem hk)]
  eq := by
    unfold packS framesL
    rw [nums_packTo _ _ (by omega) _ (Nat.le_refl _), nums_head d2 s2 n2]
theorem framesL_get {H : List Nat} {ps : List ByteArray} {k : Nat} (hk : k < (framesL H ps).length) (hk2 : k < ps.length) : (framesL H ps)[k] = frameL H k (nums ps[k]) := by
  simp only [framesL, List.getElem_map, List.getElem_range]
  rw [List.getD_eq_getElem?_getD, List.getElem?_eq_getElem hk2, Option.getD_some]
theorem frameL_take {H x : List Nat} {k L : Nat} (hx : x.length = L) : (frameL H k x).take (L + 1) = k :: x := by
  unfold frameL
  rw [List.take_append_of_le_length (by simp [hx]), List.take_of_length_le (by simp [hx])]
theorem frameL_drop {H x : List Nat} {k L : Nat} (hx : x.length = L) : (frameL H k x).drop (L + 1) = Crc.check (H ++ k :: x) := by
  unfold frameL
  rw [List.drop_append, List.drop_eq_nil_of_le (by simp [hx]), List.nil_append]
  simp [hx]
theorem frameL_piece {H x : List Nat} {k L : Nat} (hx : x.length = L) : ((frameL H k x).drop 1).take L = x := by
  unfold frameL
  simp [← hx]
/-- A frame that stands as it was made is good. -/
theorem IsPack.good {p : ByteArray} {d s n L : Nat} {fs : List (List Nat)} (h : IsPack p d s n L fs) {k : Nat} (hk : k < fs.length) {x : List Nat} (hx : x.length = L) (hf : fs[k] = frameL (headL d s n) k x) : badAt p k = false ∧ nums (pieceAt p k) = x := by
  rw [h.bad k hk, h.piece k hk, hf, frameL_take hx, frameL_drop hx, frameL_piece hx]
  refine ⟨decide_eq_false ?_, rfl⟩
  simp [frameL]
/-- A frame whose number or piece is spoilt within four bytes is bad. -/
theorem IsPack.bad_body {p : ByteArray} {d s n L : Nat} {fs : List (List Nat)} (h : IsPack p d s n L fs) {k : Nat} (hk : k < fs.length) {x a y z b : List Nat} (hxb : Bytes (k :: x)) (hy : k :: x = a ++ y ++ b) (hz : fs[k].take (L + 1) = a ++ z ++ b) (hzb : Bytes z) (hyz : y.length = z.length) (h4 : y.length ≤ 4) (hne : y ≠ z)
    (hc : fs[k].drop (L + 1) = Crc.check (headL d s n ++ k :: x)) : badAt p k = true := by
  rw [h.bad k hk]
  refine decide_eq_true (Or.inr ?_)
  rw [hc, hz, hy]
  intro he
  rw [hy] at hxb
  have hab : Bytes a := fun v hv => hxb v (by simp [hv])
  have hyb : Bytes y := fun v hv => hxb v (by simp [hv])
  have hbb : Bytes b := fun v hv => hxb v (by simp [hv])
  apply hne
  apply Crc.check_burst (p := headL d s n ++ a) (q := b) (bytes_app h.headB hab) hyb hzb hbb hyz h4
  simpa using he
/-- A frame whose check is spoilt is bad. -/
theorem IsPack.bad_check {p : ByteArray} {d s n L : Nat} {fs : List (List Nat)} (h : IsPack p d s n L fs) {k : Nat} (hk : k < fs.length) {x : List Nat} (hz : fs[k].take (L + 1) = k :: x)
    (hc : fs[k].drop (L + 1) ≠ Crc.check (headL d s n ++ k :: x)) : badAt p k = true := by
  rw [h.bad k hk]
  refine decide_eq_true (Or.inr ?_)
  rw [hz]
  exact hc
/-- A whole pack: nothing is bad, and the pieces are told. -/
theorem packS_open {d s n L : Nat} {ps : List ByteArray} (d1 : 1 ≤ d) (d2 : d ≤ 10) (s2 : s ≤ 6) (n2 : n ≤ 400) (eL : L = (n + d - 1) / d) (hl : ps.length = d + s) (hp : ∀ x ∈ ps, x.size = L) : openPieces (packS d s n ps) = ps ∧ openBad (packS d s n ps) = [] := by
  have h := packS_is d1 d2 s2 n2 eL hl hp
  have g : ∀ k, (hk : k < ps.length) → badAt (packS d s n ps) k = false ∧ pieceAt (packS d s n ps) k = ps[k] := by
    intro k hk
    have hk' : k < (framesL (headL d s n) ps).length := by rw [h.len]; omega
    have := h.good hk' (x := nums ps[k]) (by rw [nums_length]; exact hp _ (List.getElem_mem hk)) (framesL_get hk' hk)
    exact ⟨this.1, nums_inj this.2⟩
  unfold openPieces openBad piecesTo badTo
  rw [h.hD, h.hS, ← hl]
  constructor
  · apply List.ext_getElem (by simp)
    intro k h1 h2
    simp only [List.getElem_map, List.getElem_range]
    exact (g k h2).2
  · rw [List.filter_eq_nil_iff]
    intro k hk
    rw [(g k (List.mem_range.1 hk)).1]
    simp
end Go.Proofs.YtokmllopbfmadabDoor.Ref

namespace Go.Proofs.YtokmllopbfmadabDoor.Ref
open Go.RowKit Mem FieldWalks Tab ByTab Parts
open Gf (Bytes)

theorem run_next (s : ByteArray) (i : Nat) (h : i < s.size) : Crc.run 4294967295 ((nums s).take (i + 1)) = Crc.stpTo (Crc.run 4294967295 ((nums s).take i) ^^^ (s[i]'h).toNat) 8 := by
  have hl : i < (nums s).length := by rw [nums_length]; exact h
  rw [List.take_add_one, List.getElem?_eq_getElem hl, Crc.run_append]
  simp only [Option.toList_some, Crc.run, List.foldl_cons, List.foldl_nil, Crc.crcB]
  congr 2
  simp only [nums, List.getElem_map, Array.getElem_toList]; rfl
theorem nums_bytes' (s : ByteArray) : Bytes (nums s) := by
  intro x hx
  simp only [nums, List.mem_map] at hx
  obtain ⟨b, _, rfl⟩ := hx
  exact b.toNat_lt
theorem i64_xor62 (a b : Nat) (ha : a < 4611686018427387904) (hb : b < 4611686018427387904) : bits .xor .i64 (a : Int) (b : Int) = ((a ^^^ b : Nat) : Int) := by
  have hx : a ^^^ b < 2 ^ 62 := Nat.xor_lt_two_pow (by omega) (by omega)
  show IntKind.i64.wrap ((BitVec.ofInt 64 (a : Int) ^^^ BitVec.ofInt 64 (b : Int)).toNat : Int) = _
  rw [BitVec.toNat_xor, ofInt_u64 a (by omega), ofInt_u64 b (by omega)]
  simp [IntKind.wrap, IntKind.bits, IntKind.signed]
  omega
theorem stp_yes (v : Nat) (hv : v < 4294967296) (h : ((v : Int) % 2 == 1) = true) : bits .xor .i64 ((v : Int) / 2) 3988292384 = ((Crc.stp v : Nat) : Int) := by
  have h1 : v % 2 = 1 := by
    simp at h; omega
  rw [show (v : Int) / 2 = ((v / 2 : Nat) : Int) by omega, show (3988292384 : Int) = ((3988292384 : Nat) : Int) from rfl, i64_xor62 _ _ (by omega) (by omega), Crc.stp, if_pos h1]; rfl
theorem stp_no (v : Nat) (h : ((v : Int) % 2 == 1) = false) : (v : Int) / 2 = ((Crc.stp v : Nat) : Int) := by
  have h1 : ¬ v % 2 = 1 := by
    simp at h; omega
  rw [Crc.stp, if_neg h1]; omega
theorem four_at (w : World) (v : Nat) (hv : v < 4294967296) : BsAt (w.alloc (.cells #[.int .u8 ((4294967295 - (v : Int)) / 16777216), .int .u8 ((4294967295 - (v : Int)) / 65536 % 256), .int .u8 ((4294967295 - (v : Int)) / 256 % 256), .int .u8 ((4294967295 - (v : Int)) % 256)] 5)) (.slice (some ⟨w.heap.size, 0, none⟩) 4 4) (Crc.four (4294967295 - v)) := by
  refine BsAt.of_blk ((Blk.new w _ 5).eq ?_) 4 4 rfl
  have e : (4294967295 : Int) - (v : Int) = ((4294967295 - v : Nat) : Int) := by omega
  have e1 : ((4294967295 - v : Nat) : Int) / 16777216 = ((4294967295 - v : Nat) / 16777216 % 256 : Nat) := by omega
  simp only [bytesV, Crc.four, List.map_cons, List.map_nil, e, e1]
  congr 1
theorem one_at (w : World) (n : Nat) : BsAt (w.alloc (.cells #[.int .u8 ((n : Int) % 256)] 5)) (.slice (some ⟨w.heap.size, 0, none⟩) 1 1) [n % 256] := by
  refine BsAt.of_blk ((Blk.new w _ 5).eq ?_) 1 1 rfl
  simp only [bytesV, List.map_cons, List.map_nil]
  congr 1
theorem mkS_app (a b : List Nat) : mkS a ++ mkS b = mkS (a ++ b) := ByteArray.ext (by simp [mkS, ByteArray.data_append])
end Go.Proofs.YtokmllopbfmadabDoor.Ref

/- The program's check of bytes is the document's. -/
namespace Go.Proofs.YtokmllopbfmadabDoor.Pk
open Go.RowKit Mem FieldWalks Tab ByTab Parts Ref
open Gf (Bytes)

theorem ofInt_u32 (a : Nat) (h : a < 4294967296) : (BitVec.ofInt 32 (a : Int)).toNat = a := by
  rw [BitVec.toNat_ofInt]; omega
theorem u32_xor (a b : Nat) (ha : a < 4294967296) (hb : b < 4294967296) : bits .xor .u32 (a : Int) (b : Int) = ((a ^^^ b : Nat) : Int) := by
  have hx : a ^^^ b < 4294967296 := Crc.xlt ha hb
  show IntKind.u32.wrap ((BitVec.ofInt 32 (a : Int) ^^^ BitVec.ofInt 32 (b : Int)).toNat : Int) = _
  rw [BitVec.toNat_xor, ofInt_u32 a ha, ofInt_u32 b hb]
  simp [IntKind.wrap, IntKind.bits, IntKind.signed]
  omega
theorem u32_and1 (a : Nat) (ha : a < 4294967296) : bits .and .u32 (a : Int) 1 = ((a % 2 : Nat) : Int) := by
  show IntKind.u32.wrap ((BitVec.ofInt 32 (a : Int) &&& BitVec.ofInt 32 ((1 : Nat) : Int)).toNat : Int) = _
  rw [BitVec.toNat_and, ofInt_u32 a ha, ofInt_u32 1 (by decide), Nat.and_one_is_mod]
  simp [IntKind.wrap, IntKind.bits, IntKind.signed]
  omega
theorem u32_not (v : Nat) (hv : v < 4294967296) : bits .xor .u32 IntKind.u32.max (v : Int) = ((4294967295 - v : Nat) : Int) := by
  have h : (4294967295 : Nat) ^^^ v = 4294967295 - v := by
    apply Nat.eq_of_testBit_eq
    intro i
    have h1 := Nat.testBit_two_pow_sub_succ (n := 32) (x := v) (by omega) i
    have h2 := Nat.testBit_two_pow_sub_one 32 i
    rw [Nat.testBit_xor, show (4294967295 : Nat) - v = 2 ^ 32 - (v + 1) by omega, h1, show (4294967295 : Nat) = 2 ^ 32 - 1 from rfl, h2]
    by_cases hi : i < 32
    · simp [hi]
    · have : v.testBit i = false := Nat.testBit_lt_two_pow (Nat.lt_of_lt_of_le (show v < 2 ^ 32 by omega) (Nat.pow_le_pow_right (by decide) (by omega)))
      simp [hi, this]
  rw [show IntKind.u32.max = ((4294967295 : Nat) : Int) from rfl, u32_xor _ _ (by decide) hv, h]
theorem four_at' (w : World) (v : Nat) (hv : v < 4294967296) : BsAt (w.alloc (.cells #[.int .u8 ((v : Int) / 16777216), .int .u8 ((v : Int) / 65536 % 256), .int .u8 ((v : Int) / 256 % 256), .int .u8 ((v : Int) % 256)] 5)) (.slice (some ⟨w.heap.size, 0, none⟩) 4 4) (Crc.four v) := by
  refine BsAt.of_blk ((Blk.new w _ 5).eq ?_) 4 4 rfl
  have e1 : (v : Int) / 16777216 = (v / 16777216 % 256 : Nat) := by omega
  simp only [bytesV, Crc.four, List.map_cons, List.map_nil, e1]
  congr 1
set_option maxRecDepth 100000 in
set_option maxHeartbeats 1000000 in
theorem moveDown_any (v : Nat) (hv : v < 4294967296) (w : World) :
    Calls Tryd.prog 43 #[.int .u32 v] w fun e w' => e = .returned (.int .u32 (Crc.stpTo v 8 : Nat)) ∧ w' = w := by
  go_enter Tryd.func43, Tryd.ntmps43
  go_wp2
  go_loop [0, 4] (fun x j => ∃ n : Nat, n ≤ 8 ∧ j = .int .i64 n ∧ x = .int .u32 (Crc.stpTo v n : Nat)) (fun _ j => 8 - (intOf j).toNat)
  case atStart => exact ⟨0, Nat.zero_le _, rfl, rfl⟩
  case round =>
    obtain ⟨n, hn, rfl, rfl⟩ := hrel
    have hx := Crc.stpTo_lt hv n
    by_cases h8 : n < 8
    · have HS : Hid (Crc.stpTo v (n + 1) = Crc.stp (Crc.stpTo v n)) := rfl
      generalize Crc.stpTo v n = x at hx HS ⊢
      have HA : Hid (bits .and .u32 (x : Int) 1 = ((x % 2 : Nat) : Int)) := u32_and1 x hx
      by_cases hq : x % 2 = 1
      · have e1 : (bits .and .u32 (x : Int) 1 == 1) = true := by rw [HA.out, hq]; rfl
        have HQ : Hid (bits .xor .u32 ((x : Int) / 2) 3988292384 = ((Crc.stp x : Nat) : Int)) := by
          show _ = _
          rw [show (x : Int) / 2 = ((x / 2 : Nat) : Int) by omega, show (3988292384 : Int) = ((3988292384 : Nat) : Int) from rfl, u32_xor _ _ (by omega) (by omega), Crc.stp, if_pos hq]; rfl
        clear hq
        go_wp2
        go_round
        case rel => exact ⟨n + 1, by omega, by go_num, by rw [HQ.out, HS.out]⟩
        case measure => simp [intOf]; omega
      · have e1 : (bits .and .u32 (x : Int) 1 == 1) = false := by
          rw [HA.out, show x % 2 = 0 by omega]; rfl
        have HQ : Hid ((x : Int) / 2 = ((Crc.stp x : Nat) : Int)) := by
          show _ = _
          rw [Crc.stp, if_neg hq]; omega
        clear hq
        go_wp2
        go_round
        case rel => exact ⟨n + 1, by omega, by go_num, by rw [HQ.out, HS.out]⟩
        case measure => simp [intOf]; omega
    · obtain rfl : n = 8 := by omega
      go_wp2
      go_ret
      exact ⟨rfl, rfl⟩
set_option maxRecDepth 100000 in
set_option maxHeartbeats 1000000 in
theorem written_any (v : Nat) (hv : v < 4294967296) (w : World) :
    Calls Tryd.prog 44 #[.int .u32 v] w fun e w' => e = .returned (.string (mkS (Crc.four v))) ∧ Below w.heap.size w w' := by
  go_enter Tryd.func44, Tryd.ntmps44
  go_wp2_with (refine wpList_convert _ rfl 56 9 _ rfl _ (.string (mkS (Crc.four v))) rfl (conv_str _ _ _ (four_at' _ v hv)) ?_)
  go_ret
  exact ⟨rfl, (Below.refl _ _).alloc (Nat.le_refl _) _⟩
set_option maxRecDepth 100000 in
set_option maxHeartbeats 1000000 in
theorem checkOf_any (s : ByteArray) (hs : s.size ≤ 1000000) (w : World) :
    Calls Tryd.prog 29 #[.string s] w fun e w' => e = .returned (.string (checkS s)) ∧ Below w.heap.size w w' := by
  go_enter Tryd.func29, Tryd.ntmps29
  go_wp2
  go_loop [3, 7] (fun v i => ∃ k : Nat, k ≤ s.size ∧ i = .int .i64 k ∧ v = .int .u32 (Crc.run 4294967295 ((nums s).take k) : Nat)) (fun _ i => s.size - (intOf i).toNat)
  case atStart => exact ⟨0, Nat.zero_le _, rfl, rfl⟩
  case round =>
    obtain ⟨k, hk, rfl, rfl⟩ := hrel
    have hlt32 : Crc.run 4294967295 ((nums s).take k) < 4294967296 := Crc.run_lt (fun x hx => nums_bytes' s x (List.mem_of_mem_take hx)) (by decide)
    by_cases hlt : k < s.size
    · have E : Hid (Crc.run 4294967295 ((nums s).take (k + 1)) = Crc.stpTo (Crc.run 4294967295 ((nums s).take k) ^^^ (s[k]'hlt).toNat) 8) := run_next s k hlt
      have hb : (s[k]'hlt).toNat < 256 := (s[k]'hlt).toNat_lt
      generalize Crc.run 4294967295 ((nums s).take k) = v at hlt32 E ⊢
      have HX : Hid (bits .xor .u32 (v : Int) ((s[k]'hlt).toNat : Int) = ((v ^^^ (s[k]'hlt).toNat : Nat) : Int)) := u32_xor _ _ (by omega) (by omega)
      have hu : v ^^^ (s[k]'hlt).toNat < 4294967296 := Crc.xlt hlt32 (by omega)
      go_wp2_with fail
      rw [HX.out]
      refine (moveDown_any _ hu _).mono ?_
      rintro e w' ⟨rfl, rfl⟩
      go_wp2
      go_round
      case rel => exact ⟨k + 1, by omega, by go_num, by rw [E.out]⟩
      case measure => simp [intOf]; omega
    · obtain rfl : k = s.size := by omega
      have hE : Hid (Crc.check (nums s) = Crc.four (4294967295 - Crc.run 4294967295 ((nums s).take s.size))) := by
        show _ = _
        rw [List.take_of_length_le (by rw [nums_length]; exact Nat.le_refl _)]; rfl
      generalize Crc.run 4294967295 ((nums s).take s.size) = v at hlt32 hE ⊢
      have HX : Hid (bits .xor .u32 IntKind.u32.max (v : Int) = ((4294967295 - v : Nat) : Int)) := u32_not v hlt32
      go_wp2_with fail
      rw [HX.out]
      refine (written_any _ (by omega) _).mono ?_
      rintro e w' ⟨rfl, hb⟩
      go_wp2
      go_ret
      exact ⟨by unfold checkS; rw [hE.out]; rfl, hb⟩
end Go.Proofs.YtokmllopbfmadabDoor.Pk

namespace Go.Proofs.YtokmllopbfmadabDoor.Ref
open Go.RowKit Mem FieldWalks Tab ByTab Parts
open Gf (Bytes)

theorem packTo_size (h : ByteArray) (ps : List ByteArray) (L : Nat) (hp : ∀ p, (h : p < ps.length) → ps[p].size = L) : ∀ k, k ≤ ps.length → (packTo h ps k).size = h.size + 4 + k * (L + 5)
  | 0, _ => by unfold packTo; rw [ByteArray.size_append, checkS_size]; omega
  | k + 1, hk => by
    unfold packTo frameS
    rw [ByteArray.size_append, ByteArray.size_append, ByteArray.size_append, checkS_size, oneS_size, packTo_size h ps L hp k (by omega), List.getD_eq_getElem?_getD, List.getElem?_eq_getElem (by omega), Option.getD_some, hp k (by omega), Nat.add_mul]
    omega
theorem packTo_le (h : ByteArray) (ps : List ByteArray) (hp : ∀ p, (h : p < ps.length) → ps[p].size ≤ 1000) : ∀ k, k ≤ ps.length → (packTo h ps k).size ≤ h.size + 4 + k * 1005
  | 0, _ => by unfold packTo; rw [ByteArray.size_append, checkS_size]; omega
  | k + 1, hk => by
    unfold packTo frameS
    have := packTo_le h ps hp k (by omega)
    have h2 := hp k (by omega)
    rw [ByteArray.size_append, ByteArray.size_append, ByteArray.size_append, checkS_size, oneS_size, List.getD_eq_getElem?_getD, List.getElem?_eq_getElem (by omega), Option.getD_some, Nat.add_mul]
    omega
end Go.Proofs.YtokmllopbfmadabDoor.Ref
