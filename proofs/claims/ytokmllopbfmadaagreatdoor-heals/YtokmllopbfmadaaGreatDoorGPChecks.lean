import Derived.Test.YtokmllopbfmadaaGreatDoorGRefCheck
import Derived.Lib.ConvBytes
import Derived.Test.YtokmllopbfmadaaGreatDoorGChangeMath
import Derived.Test.YtokmllopbfmadaaGreatDoorGNPiece2
import Derived.Test.YtokmllopbfmadaaGreatDoorGMem
import Derived.Deep.RegionHeld3
import Derived.Laws.CopyOwn
namespace Go.Proofs.YtokmllopbfmadaaGreatDoor.Ref
open Go.RowKit Mem FieldWalks Tab ByTab Parts

set_option maxRecDepth 100000 in
theorem index_any (l : List Int) (n : Int) (v : Value) (w : World) (h : IsC w v l) (hl : l.length < 2 ^ 62) :
    Calls Tryz.prog 91 #[v, .int .i64 n] w fun e w' => ((∃ k : Nat, e = .returned (.int .i64 k) ∧ k < l.length ∧ n ∈ l) ∨ (e = .returned (.int .i64 (-1)) ∧ n ∉ l)) ∧ w' = w := by
  obtain ⟨ao, ex, rfl, hc⟩ := h
  have HC : Hid (l = [] ∨ ∃ b off, ao = some ⟨b, off, none⟩ ∧ b < w.heap.size ∧ ∀ k, (h : k < l.length) → w.cell? ⟨b, off + k, none⟩ = some (.int .i64 l[k])) := hc
  clear hc
  go_enter Tryz.func91, Tryz.ntmps91
  go_wp2
  go_loop [8] (fun i => ∃ k : Nat, k ≤ l.length ∧ i = .int .i64 k ∧ n ∉ l.take k) (fun i => l.length - (intOf i).toNat)
  case atStart => exact ⟨0, Nat.zero_le _, rfl, by simp⟩
  case round =>
    obtain ⟨k, hk, rfl, hn⟩ := hrel
    by_cases hlt : k < l.length
    · obtain ⟨b, off, rfl, hb, hc⟩ : ∃ b off, ao = some ⟨b, off, none⟩ ∧ b < w.heap.size ∧ ∀ k, (h : k < l.length) → w.cell? ⟨b, off + k, none⟩ = some (.int .i64 l[k]) := by
        rcases HC.out with h | h
        · rw [h] at hlt; simp at hlt
        · exact h
      have c1 := hc k hlt
      have HN : Hid (n ∉ l.take k) := hn
      clear hc hn
      by_cases e : l[k] = n
      · have HM : Hid (n ∈ l) := e ▸ List.getElem_mem hlt
        rw [e] at c1
        clear e
        go_wp2
        go_ret
        exact ⟨.inl ⟨k, rfl, hlt, HM.out⟩, rfl⟩
      · have HX : Hid (n ∉ l.take (k + 1)) := not_take_next HN.out hlt e
        have he : (n == l[k]) = false := by simp; exact fun h => e h.symm
        generalize l[k] = x at c1 he
        clear e
        go_wp2
        go_round
        case rel => exact ⟨k + 1, by omega, by go_num, HX.out⟩
        case measure => simp [intOf]; omega
    · obtain rfl : k = l.length := by omega
      rw [List.take_length] at hn
      have HN : Hid (n ∉ l) := hn
      clear hn
      go_wp2
      go_ret
      exact ⟨.inr ⟨rfl, HN.out⟩, rfl⟩

set_option maxRecDepth 100000 in
theorem contains_any (l : List Int) (n : Int) (v : Value) (w : World) (h : IsC w v l) (hl : l.length < 2 ^ 62) :
    Calls Tryz.prog 79 #[v, .int .i64 n] w fun e w' => e = .returned (.bool (decide (n ∈ l))) ∧ w' = w := by
  go_enter Tryz.func79, Tryz.ntmps79
  go_wp2_with fail
  refine (index_any l n v w h hl).mono ?_
  rintro e w' ⟨h1, rfl⟩
  rcases h1 with ⟨k, rfl, hk, hm⟩ | ⟨rfl, hm⟩
  · have hd : decide (n ∈ l) = true := by simp [hm]
    have HD : Hid (decide (n ∈ l) = true) := hd
    clear hd hm
    go_wp2
    go_ret
    exact ⟨by rw [HD.out]; rfl, rfl⟩
  · have hd : decide (n ∈ l) = false := by simp [hm]
    have HD : Hid (decide (n ∈ l) = false) := hd
    clear hd hm
    go_wp2
    go_ret
    exact ⟨by rw [HD.out]; rfl, rfl⟩

def okSize (n : Int) : Bool := decide (0 ≤ n ∧ n ≤ 400)
theorem okSize_yes (n : Int) (h : 0 ≤ n ∧ n ≤ 400) : okSize n = true := by simp [okSize]; omega
theorem okSize_no (n : Int) (h : ¬ (0 ≤ n ∧ n ≤ 400)) : okSize n = false := by simp [okSize]; omega
theorem isSize_any (n : Int) (w : World) : Calls Tryz.prog 57 #[.int .i64 n] w fun e w' => e = .returned (.bool (okSize n)) ∧ w' = w := by
  by_cases h1 : 0 ≤ n
  · by_cases h2 : n ≤ 400
    · rw [okSize_yes n ⟨h1, h2⟩]
      go_enter Tryz.func57, Tryz.ntmps57
      go_wp2
      go_ret
      exact ⟨rfl, rfl⟩
    · rw [okSize_no n (by omega)]
      go_enter Tryz.func57, Tryz.ntmps57
      go_wp2
      go_ret
      exact ⟨rfl, rfl⟩
  · rw [okSize_no n (by omega)]
    go_enter Tryz.func57, Tryz.ntmps57
    go_wp2
    go_ret
    exact ⟨rfl, rfl⟩

def okWithin (n at_ : Int) (m : Nat) : Bool := decide (0 ≤ at_ ∧ at_ + m ≤ n)
theorem isWithin_any (n : Nat) (hn : n ≤ 400) (at_ : Int) (h2 : at_ ≤ 9223372036854775807) (text : ByteArray) (hlen : text.size ≤ maxLen) (w : World) :
    Calls Tryz.prog 22 #[.int .i64 n, .int .i64 at_, .string text] w fun e w' => e = .returned (.bool (okWithin n at_ text.size)) ∧ w' = w := by
  unfold maxLen at hlen
  by_cases h1 : 0 ≤ at_
  · by_cases h3 : (text.size : Int) ≤ n - at_
    · have : okWithin n at_ text.size = true := by simp [okWithin]; omega
      rw [this]
      go_enter Tryz.func22, Tryz.ntmps22
      go_wp2
      go_ret
      exact ⟨rfl, rfl⟩
    · have : okWithin n at_ text.size = false := by simp [okWithin]; omega
      rw [this]
      go_enter Tryz.func22, Tryz.ntmps22
      go_wp2
      go_ret
      exact ⟨rfl, rfl⟩
  · have : okWithin n at_ text.size = false := by simp [okWithin]; omega
    rw [this]
    go_enter Tryz.func22, Tryz.ntmps22
    go_wp2
    go_ret
    exact ⟨rfl, rfl⟩

def NumsOk (N : Nat) (lost : List Int) : Prop := ∀ k, (h : k < lost.length) → 0 ≤ lost[k] ∧ lost[k] < (N : Int) ∧ lost[k] ∉ lost.take k
def NumsOkTo (N : Nat) (lost : List Int) (m : Nat) : Prop := ∀ k, (h : k < lost.length) → k < m → 0 ≤ lost[k] ∧ lost[k] < (N : Int) ∧ lost[k] ∉ lost.take k
/-- The pieces that are not lost have L bytes. -/
def SizesOk (L : Nat) (pieces : List ByteArray) (lost : List Int) : Prop := ∀ p, (h : p < pieces.length) → (p : Int) ∉ lost → pieces[p].size = L
end Go.Proofs.YtokmllopbfmadaaGreatDoor.Ref

/- Rows of bytes that came of strings, in memory. -/
namespace Go.Proofs.YtokmllopbfmadaaGreatDoor.Ref
open Go.RowKit Mem FieldWalks Tab ByTab Parts
open Gf (Bytes)
open Plans (But rowF)

/-- The block b begins with these bytes, and they may be written. -/
def Row8 (w : World) (b : Nat) (l : List Nat) : Prop :=
  ∃ cs fr, w.heap[b]? = some (.cells cs 5 fr) ∧ (∀ k, (h : k < l.length) → cs[k]? = some (.int .u8 (l[k] : Nat))) ∧ l.length ≤ cs.size ∧ (cs.size ≤ fr.1 ∨ fr = (0, 0))
section
variable {w w' : World} {b : Nat} {l : List Nat}
theorem Row8.lt (h : Row8 w b l) : b < w.heap.size := by obtain ⟨cs, fr, h, _⟩ := h; exact lt_of_block h
theorem Row8.cell (h : Row8 w b l) (k : Nat) (hk : k < l.length) : w.cell? ⟨b, k, none⟩ = some (.int .u8 (l[k] : Nat)) := by
  obtain ⟨cs, fr, h, hc, _⟩ := h
  rw [cell_of_row w b k cs 5 fr h]; exact hc k hk
theorem Row8.free (h : Row8 w b l) (k : Nat) (hk : k < l.length) : w.frozen? ⟨b, k, none⟩ = false := by
  obtain ⟨cs, fr, h, hc, hl, hf⟩ := h
  unfold World.frozen?
  simp only [h]
  rcases hf with hf | rfl
  · simp; intro h1; omega
  · simp
theorem Row8.of_block (h : Row8 w b l) (e : w'.heap[b]? = w.heap[b]?) : Row8 w' b l := by
  obtain ⟨cs, fr, h, r⟩ := h
  exact ⟨cs, fr, e.trans h, r⟩
theorem Row8.to (h : Row8 w b l) (hb : Below w.heap.size w w') : Row8 w' b l := h.of_block (hb.block b h.lt)
theorem Row8.other (h : Row8 w b l) {a : Addr} (ha : b ≠ a.block) (u : Value) : Row8 (w.setCell a u) b l := h.of_block (heap_setCell_other w a b u ha)
theorem Row8.type_ne {c : Nat} {t : TypeId} {us : List Value} (h : Row8 w b l) (k : Blk w c t us) (ht : 5 ≠ t) : b ≠ c := by
  intro e; subst e
  obtain ⟨cs, fr, h, _⟩ := h
  unfold Blk at k
  rw [h] at k
  simp at k
  exact ht k.2.1
theorem Row8.set (h : Row8 w b l) (k x : Nat) : Row8 (w.setCell ⟨b, k, none⟩ (.int .u8 (x : Nat))) b (l.set k x) := by
  obtain ⟨cs, fr, h, hc, hl, hf⟩ := h
  have e : (w.setCell ⟨b, k, none⟩ (.int .u8 (x : Nat))).heap[b]? = some (.cells (cs.setIfInBounds k (.int .u8 (x : Nat))) 5 fr) := by
    unfold World.setCell
    simp only [Array.getElem?_modify, h]
    simp
  refine ⟨_, fr, e, fun i hi => ?_, by simpa using hl, by simpa using hf⟩
  have hi' : i < l.length := by simpa using hi
  by_cases e1 : k = i
  · subst e1
    rw [Array.getElem?_setIfInBounds_self_of_lt (by omega)]
    simp
  · rw [Array.getElem?_setIfInBounds_ne e1, hc i hi', List.getElem_set_ne e1]
theorem Row8.new (w : World) (s : ByteArray) : Row8 (Lib.bytesWorld w 5 s) w.heap.size (nums s) := by
  refine ⟨_, _, Lib.bytesWorld_at_new w 5 s, fun k hk => ?_, ?_, .inl (Nat.le_refl _)⟩
  · have hk' : k < s.size := by rw [nums_length] at hk; exact hk
    have hk2 : k < s.data.size := hk'
    unfold Lib.bytesCells
    rw [Array.getElem?_append_left (by simpa using hk2)]
    simp only [nums, Array.getElem?_map, Array.getElem?_eq_getElem hk2]
    simp
  · rw [nums_length]; unfold Lib.bytesCells; simp
end
theorem below_bytes (w : World) (s : ByteArray) : Below w.heap.size w (Lib.bytesWorld w 5 s) :=
  ⟨rfl, rfl, rfl, by rw [Lib.bytesWorld_size]; omega, fun k hk => Lib.bytesWorld_at_old w 5 s k hk⟩

/-- The list at block g has n rows, each in a block of its own, of L bytes. -/
structure OutAt (w : World) (g n L : Nat) (bs : List Nat) (us : List Value) (rows : Nat → List Nat) : Prop where
  list : Blk w g 85 us
  len : bs.length = n
  nodup : bs.Nodup
  size : ∀ p, p < n → (rows p).length = L
  at_ : ∀ p, (h : p < bs.length) → ∃ c, us[p]? = some (.slice (some ⟨bs[p], 0, none⟩) L c)
  row : ∀ p, (h : p < bs.length) → Row8 w bs[p] (rows p)
section
variable {w w' : World} {g n L : Nat} {bs : List Nat} {us : List Value} {rows : Nat → List Nat}
theorem OutAt.to (h : OutAt w g n L bs us rows) (hb : Below w.heap.size w w') : OutAt w' g n L bs us rows := ⟨h.list.to hb, h.len, h.nodup, h.size, h.at_, fun p hp => (h.row p hp).to hb⟩
theorem OutAt.congr {rows' : Nat → List Nat} (h : OutAt w g n L bs us rows) (e : ∀ p, p < n → rows' p = rows p) : OutAt w g n L bs us rows' := by
  have := h.len
  exact ⟨h.list, h.len, h.nodup, fun p hp => by rw [e p hp]; exact h.size p hp, h.at_, fun p hp => by rw [e p (by omega)]; exact h.row p hp⟩
theorem OutAt.set (h : OutAt w g n L bs us rows) (p : Nat) (hp : p < bs.length) (t x : Nat) : OutAt (w.setCell ⟨bs[p], t, none⟩ (.int .u8 (x : Nat))) g n L bs us (fun q => if q = p then (rows p).set t x else rows q) := by
  have hl := h.len
  refine ⟨h.list.other (Ne.symm ((h.row p hp).type_ne h.list (by decide))) _, h.len, h.nodup, fun q hq => ?_, h.at_, fun q hq => ?_⟩
  · split
    · rw [List.length_set]; exact h.size p (by omega)
    · exact h.size q hq
  · by_cases e : q = p
    · subst e; rw [if_pos rfl]; exact (h.row q hq).set t x
    · rw [if_neg e]
      refine (h.row q hq).other ?_ _
      intro e2
      have hnd := h.nodup
      rw [List.Nodup, List.pairwise_iff_getElem] at hnd
      rcases Nat.lt_or_gt_of_ne e with hlt | hlt
      · exact hnd q p hq hp hlt e2
      · exact hnd p q hp hq hlt e2.symm
/-- Reading: the row's slice, its byte. -/
theorem OutAt.read (h : OutAt w g n L bs us rows) (p : Nat) (hp : p < n) : ∃ b c, bs[p]? = some b ∧ w.cell? ⟨g, p, none⟩ = some (.slice (some ⟨b, 0, none⟩) L c) ∧ b ≠ g ∧ b < w.heap.size ∧ ∀ t, (ht : t < L) → w.cell? ⟨b, t, none⟩ = some (.int .u8 ((rows p).getD t 0 : Nat)) ∧ w.frozen? ⟨b, t, none⟩ = false := by
  have hl := h.len
  have hpl : p < bs.length := by omega
  obtain ⟨c, hc⟩ := h.at_ p hpl
  have hr := h.row p hpl
  refine ⟨bs[p], c, by simp [hpl], h.list.cell_some hc, hr.type_ne h.list (by decide), hr.lt, fun t ht => ?_⟩
  have ht2 : t < (rows p).length := by rw [h.size p hp]; exact ht
  rw [hr.cell t ht2]
  exact ⟨by simp [ht2], hr.free t ht2⟩
end
end Go.Proofs.YtokmllopbfmadaaGreatDoor.Ref

namespace Go.Proofs.YtokmllopbfmadaaGreatDoor.Ref
open Go.RowKit Mem FieldWalks Tab ByTab Parts
open Gf (Bytes)
open Plans (But rowF)

theorem Row8.of_blk {w : World} {b : Nat} {l : List Nat} (h : Blk w b 5 (bytesV l)) : Row8 w b l :=
  ⟨(bytesV l).toArray, (0, 0), h, fun k hk => by simp [bytesV, hk], by simp [bytesV], .inr rfl⟩
theorem Row8.but {w w' : World} {b S : Nat} {l : List Nat} (h : Row8 w b l) (hb : But S w w') (hne : b ≠ S) : Row8 w' b l := h.of_block (hb.rest b hne h.lt)
theorem Row8.bs {w : World} {b : Nat} {l : List Nat} (h : Row8 w b l) (n c : Nat) (hn : n = l.length) : BsAt w (.slice (some ⟨b, 0, none⟩) n c) l := by
  subst hn
  exact ⟨_, c, rfl, .inr ⟨b, 0, rfl, h.lt, fun k hk => by rw [Nat.zero_add]; exact h.cell k hk⟩⟩
theorem table_but {w w' : World} {S : Nat} (h : Table w) (hb : But S w w') (hS : S ≠ 0) : Table w' := by
  intro k hk
  rw [hb.cell (p := ⟨0, k, none⟩) (by exact Ne.symm hS) (block_lt_of_cell (h k hk))]; exact h k hk
theorem rowF_at' (m : Nat) (f : Nat → Nat) (k : Nat) (h : k < m) : (rowF m f).getD k 0 = f k := by simp [rowF, h]
theorem rowF_of (l : List Nat) : l = rowF l.length (fun k => l.getD k 0) := by
  apply List.ext_getElem
  · simp
  · intro k h1 h2; simp [rowF, h1]

/-- k of the places are written. -/
def half (f g : Nat → Nat) (k : Nat) : Nat → Nat := fun i => if i < k then f i else g i
theorem half_zero (f g : Nat → Nat) : half f g 0 = g := by funext i; simp [half]
theorem half_all (m : Nat) (f g : Nat → Nat) : rowF m (half f g m) = rowF m f := Plans.rowF_congr fun i hi => by simp [half, hi]
theorem half_set (m : Nat) (f g : Nat → Nat) (k : Nat) : (rowF m (half f g k)).set k (f k) = rowF m (half f g (k + 1)) := by
  rw [Plans.rowF_set]
  refine Plans.rowF_congr fun i hi => ?_
  unfold Plans.upd half
  by_cases e : i = k
  · subst e; rw [if_pos rfl, if_pos (by omega)]
  · rw [if_neg e]
    by_cases h : i < k
    · rw [if_pos h, if_pos (by omega)]
    · rw [if_neg h, if_neg (by omega)]
theorem half_at (m : Nat) (f g : Nat → Nat) (k : Nat) (hk : k < m) : ∃ h : k < (rowF m (half f g k)).length, (rowF m (half f g k))[k] = g k := ⟨by simpa using hk, by simp [rowF, half]⟩

set_option maxRecDepth 100000 in
set_option maxHeartbeats 1000000 in
theorem scale_any (m : Nat) (f : Nat → Nat) (x b c : Nat) (hm : m ≤ 1000) (hf : ∀ k, k < m → f k < 256) (hx : x < 256) (hb0 : b ≠ 0) (w : World) (ht : Table w) (hr : Row8 w b (rowF m f)) :
    Calls Tryz.prog 104 #[.slice (some ⟨b, 0, none⟩) m c, .int .u8 x] w fun e w' => e = .returned (.tuple #[]) ∧ Row8 w' b (rowF m fun k => Gf.times (f k) x) ∧ But b w w' := by
  have HT : Hid (Table w) := ht
  have HF : Hid (∀ k, k < m → f k < 256) := hf
  have HR : Hid (Row8 w b (rowF m f)) := hr
  clear ht hf hr
  go_enter Tryz.func104, Tryz.ntmps104
  go_wp2
  go_loopw [7] (fun i wr => ∃ k : Nat, k ≤ m ∧ i = .int .i64 k ∧ Row8 wr b (rowF m (half (fun k => Gf.times (f k) x) f k)) ∧ But b w wr) (fun i _ => m - (intOf i).toNat)
  case atStart => exact ⟨0, Nat.zero_le _, rfl, by rw [half_zero]; exact HR.out, But.refl _ _⟩
  case round =>
    obtain ⟨k, hk, rfl, hrow, hbut⟩ := hrel
    by_cases hlt : k < m
    · obtain ⟨hl, hv⟩ := half_at m (fun k => Gf.times (f k) x) f k hlt
      have c1 := hrow.cell k hl
      have f1 := hrow.free k hl
      rw [hv] at c1
      have hfk := HF.out k hlt
      obtain ⟨y, hy⟩ : ∃ y, y = f k := ⟨_, rfl⟩
      rw [← hy] at c1 hfk
      have HNW : Hid (Row8 (wr.setCell ⟨b, k, none⟩ (.int .u8 (Gf.times y x : Nat))) b (rowF m (half (fun k => Gf.times (f k) x) f (k + 1)))) := by
        have := hrow.set k (Gf.times y x)
        rw [hy, half_set m (fun k => Gf.times (f k) x) f k] at this
        rw [hy]; exact this
      have HBU : Hid (But b w wr) := hbut
      have HT1 : Hid (Table wr) := table_but HT.out hbut hb0
      clear hrow hbut hv hl hy
      go_wp2_with (go_at_call 45; refine (mul_any y x hfk hx _ (by exact HT1.out)).mono ?_; rintro e w' ⟨rfl, rfl⟩)
      go_roundw
      case rel => exact ⟨k + 1, by omega, by go_num, HNW.out, HBU.out.setCell k _⟩
      case measure => simp [intOf]; omega
    · obtain rfl : m = k := by omega
      have HRW : Hid (Row8 wr b (rowF m fun k => Gf.times (f k) x)) := by
        have := hrow
        rw [half_all] at this; exact this
      have HBU : Hid (But b w wr) := hbut
      clear hrow hbut
      go_wp2
      go_end0
      exact ⟨rfl, HRW.out, HBU.out⟩

set_option maxRecDepth 100000 in
set_option maxHeartbeats 1000000 in
theorem addTimes_any (m : Nat) (f o : Nat → Nat) (x b c q c' : Nat) (hm : m ≤ 1000) (hf : ∀ k, k < m → f k < 256) (ho : ∀ k, k < m → o k < 256) (hx : x < 256) (hb0 : b ≠ 0) (hbq : b ≠ q) (w : World) (ht : Table w) (hr : Row8 w b (rowF m f)) (hq : Row8 w q (rowF m o)) :
    Calls Tryz.prog 105 #[.slice (some ⟨b, 0, none⟩) m c, .int .u8 x, .slice (some ⟨q, 0, none⟩) m c'] w fun e w' => e = .returned (.tuple #[]) ∧ Row8 w' b (rowF m fun k => f k ^^^ Gf.times x (o k)) ∧ But b w w' := by
  have HT : Hid (Table w) := ht
  have HF : Hid (∀ k, k < m → f k < 256) := hf
  have HO : Hid (∀ k, k < m → o k < 256) := ho
  have HR : Hid (Row8 w b (rowF m f)) := hr
  have HQ : Hid (Row8 w q (rowF m o)) := hq
  clear ht hf hr ho hq
  go_enter Tryz.func105, Tryz.ntmps105
  go_wp2
  go_loopw [9] (fun i wr => ∃ k : Nat, k ≤ m ∧ i = .int .i64 k ∧ Row8 wr b (rowF m (half (fun k => f k ^^^ Gf.times x (o k)) f k)) ∧ But b w wr) (fun i _ => m - (intOf i).toNat)
  case atStart => exact ⟨0, Nat.zero_le _, rfl, by rw [half_zero]; exact HR.out, But.refl _ _⟩
  case round =>
    obtain ⟨k, hk, rfl, hrow, hbut⟩ := hrel
    by_cases hlt : k < m
    · obtain ⟨hl, hv⟩ := half_at m (fun k => f k ^^^ Gf.times x (o k)) f k hlt
      have c1 := hrow.cell k hl
      have f1 := hrow.free k hl
      rw [hv] at c1
      have hfk := HF.out k hlt
      have hzb := HO.out k hlt
      obtain ⟨y, hy⟩ : ∃ y, y = f k := ⟨_, rfl⟩
      obtain ⟨z, hz⟩ : ∃ z, z = o k := ⟨_, rfl⟩
      rw [← hy] at c1 hfk
      rw [← hz] at hzb
      have c2 := (HQ.out.but hbut (Ne.symm hbq)).cell k (by simpa using hlt)
      rw [show (rowF m o)[k]'(by simpa using hlt) = z by simp [rowF, hz]] at c2
      obtain ⟨nv, hnv⟩ : ∃ nv, nv = y ^^^ Gf.times x z := ⟨_, rfl⟩
      have hxor : bits .xor .u8 (y : Int) ((Gf.times x z : Nat) : Int) = (nv : Int) := by rw [hnv]; exact u8_xor_nat _ _ hfk (Gf.times_lt _ _ hx)
      have HNW : Hid (Row8 (wr.setCell ⟨b, k, none⟩ (.int .u8 (nv : Nat))) b (rowF m (half (fun k => f k ^^^ Gf.times x (o k)) f (k + 1)))) := by
        have := hrow.set k nv
        rw [hnv, hy, hz, half_set m (fun k => f k ^^^ Gf.times x (o k)) f k] at this
        rw [hnv, hy, hz]; exact this
      have HBU : Hid (But b w wr) := hbut
      have HT1 : Hid (Table wr) := table_but HT.out hbut hb0
      have HS : Hid (wr.drew.cell? ⟨q, k, none⟩ = some (.int .u8 (z : Int))) := c2
      have HA : Hid ((⟨b, k, none⟩ : Addr) ≠ ⟨q, k, none⟩) := by intro h; injection h; omega
      clear hrow hbut hv hl hy hz c2 hnv
      go_wp2_with fail
      refine wp_region_held (S := fun wx => wx.cell? ⟨q, k, none⟩ = some (.int .u8 (z : Int))) rfl ?_
      refine wpAnyH_take (i := 0) (v := (.slice (some ⟨b, 0, none⟩) m c)) rfl (by kernel_rfl) (by kernel_rfl) (by kernel_rfl) (fun _ _ _ h => h) (Or.inl ⟨by rfl, fun w hw => by go_simp⟩) HS.out ?_
      refine wpAnyH_take (i := 1) (v := (.int .i64 (k : Int))) rfl (by kernel_rfl) (by kernel_rfl) (by kernel_rfl) (fun _ _ _ h => h) (Or.inl ⟨by rfl, fun w hw => by go_simp⟩) HS.out ?_
      refine wpAnyH_take (i := 2) (v := (.pointer (some ⟨b, k, none⟩))) rfl (by kernel_rfl) (by kernel_rfl) (by kernel_rfl) (fun _ _ _ h => h) (Or.inl ⟨by rfl, fun w hw => by go_simp⟩) HS.out ?_
      refine wpAnyH_take (i := 4) (v := (.int .u8 (x : Int))) rfl (by kernel_rfl) (by kernel_rfl) (by kernel_rfl) (fun _ _ _ h => h) (Or.inl ⟨by rfl, fun w hw => by go_simp⟩) HS.out ?_
      refine wpAnyH_take (i := 5) (v := (.slice (some ⟨q, 0, none⟩) m c')) rfl (by kernel_rfl) (by kernel_rfl) (by kernel_rfl) (fun _ _ _ h => h) (Or.inl ⟨by rfl, fun w hw => by go_simp⟩) HS.out ?_
      simp only [Act.put]
      refine wpAnyH_take (i := 6) (v := (.int .i64 (k : Int))) rfl (by kernel_rfl) (by kernel_rfl) (by kernel_rfl) (fun _ _ _ h => h) (Or.inl ⟨by rfl, fun w hw => by go_simp⟩) HS.out ?_
      refine wpAnyH_take (i := 7) (v := (.pointer (some ⟨q, k, none⟩))) rfl (by kernel_rfl) (by kernel_rfl) (by kernel_rfl) (fun _ _ _ h => h) (Or.inl ⟨by rfl, fun w hw => by go_simp⟩) HS.out ?_
      refine wpAnyH_take (i := 8) (v := (.int .u8 (z : Int))) rfl (by kernel_rfl) (by kernel_rfl) (by kernel_rfl) (fun _ _ _ h => h) (Or.inl ⟨by rfl, fun w hw => by go_simp⟩) HS.out ?_
      simp only [Act.put, List.setIfInBounds_toArray]
      refine wpAnyH_ready (rs := [3, 9]) (by kernel_rfl) (by simp) ?_
      refine AllReadyH.cons rfl (fun K hK => ?_) (AllReadyH.cons rfl (fun K hK => ?_) AllReadyH.nil)
      · go_simp
        refine hK.out _ _ HS.out (fun _ => ?_)
        clear hK K
        refine wpAnyH_ready (rs := [9]) (by kernel_rfl) (by simp) ?_
        refine AllReadyH.cons rfl (fun K hK => ?_) AllReadyH.nil
        go_simp
        refine (mul_any x z hx hzb _ (by exact HT1.out)).mono ?_
        rintro e w2 ⟨rfl, rfl⟩
        dsimp only
        refine hK.out _ _ HS.out (fun _ => ?_)
        clear hK K
        refine wpAnyH_take (i := 10) (v := (.int .u8 (nv : Int))) rfl (by kernel_rfl) (by kernel_rfl) (by kernel_rfl) (fun _ _ _ h => h) (Or.inl ⟨by rfl, fun w hw => by go_simp⟩) HS.out ?_
        refine wpAnyH_take (i := 11) (v := (.pointer (some ⟨b, k, none⟩))) rfl (by kernel_rfl) (by kernel_rfl) (by kernel_rfl) (fun _ _ _ h => h) (Or.inl ⟨by rfl, fun w hw => by go_simp⟩) HS.out ?_
        simp only [Act.put, List.setIfInBounds_toArray]
        refine wpAnyH_ready (rs := [12]) (by kernel_rfl) (by simp) ?_
        refine AllReadyH.cons rfl (fun K hK => ?_) AllReadyH.nil
        go_simp
        refine hK.out _ _ ((World.cell?_setCell_other _ _ _ _ HA.out).trans HS.out) (fun _ => ?_)
        clear hK K
        refine wpAnyH_done (by kernel_rfl) ?_ _
        go_wp2
        go_roundw
        case rel => exact ⟨k + 1, by omega, by go_num, HNW.out.to (Below.refl _ _).drew, (HBU.out.setCell k _).drew⟩
        case measure => simp [intOf]; omega
      · go_simp
        refine (mul_any x z hx hzb _ (by exact HT1.out)).mono ?_
        rintro e w2 ⟨rfl, rfl⟩
        dsimp only
        refine hK.out _ _ HS.out (fun _ => ?_)
        clear hK K
        refine wpAnyH_ready (rs := [3]) (by kernel_rfl) (by simp) ?_
        refine AllReadyH.cons rfl (fun K hK => ?_) AllReadyH.nil
        go_simp
        refine hK.out _ _ HS.out (fun _ => ?_)
        clear hK K
        refine wpAnyH_take (i := 10) (v := (.int .u8 (nv : Int))) rfl (by kernel_rfl) (by kernel_rfl) (by kernel_rfl) (fun _ _ _ h => h) (Or.inl ⟨by rfl, fun w hw => by go_simp⟩) HS.out ?_
        refine wpAnyH_take (i := 11) (v := (.pointer (some ⟨b, k, none⟩))) rfl (by kernel_rfl) (by kernel_rfl) (by kernel_rfl) (fun _ _ _ h => h) (Or.inl ⟨by rfl, fun w hw => by go_simp⟩) HS.out ?_
        simp only [Act.put, List.setIfInBounds_toArray]
        refine wpAnyH_ready (rs := [12]) (by kernel_rfl) (by simp) ?_
        refine AllReadyH.cons rfl (fun K hK => ?_) AllReadyH.nil
        go_simp
        refine hK.out _ _ ((World.cell?_setCell_other _ _ _ _ HA.out).trans HS.out) (fun _ => ?_)
        clear hK K
        refine wpAnyH_done (by kernel_rfl) ?_ _
        go_wp2
        go_roundw
        case rel => exact ⟨k + 1, by omega, by go_num, HNW.out.to (Below.refl _ _).drew, (HBU.out.setCell k _).drew⟩
        case measure => simp [intOf]; omega
    · obtain rfl : m = k := by omega
      have HRW : Hid (Row8 wr b (rowF m fun k => f k ^^^ Gf.times x (o k))) := by
        have := hrow
        rw [half_all] at this; exact this
      have HBU : Hid (But b w wr) := hbut
      clear hrow hbut
      go_wp2
      go_end0
      exact ⟨rfl, HRW.out, HBU.out⟩
end Go.Proofs.YtokmllopbfmadaaGreatDoor.Ref
