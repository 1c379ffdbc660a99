import Derived.Deep.QuietTactic
import Derived.BigQuiet
import Derived.Test.YtokmllopbfmadabDoorGChecks
import Derived.Test.YtokmllopbfmadabDoorGByTables
import Derived.Lib.ConvBytes
import Derived.Test.YtokmllopbfmadabDoorGChangeMath
import Derived.Test.YtokmllopbfmadabDoorGSolve
namespace Go.Proofs.YtokmllopbfmadabDoor.Ref
open Go.RowKit Mem FieldWalks Tab ByTab Parts
open Gf (Bytes sumTo addTo)

def Drew (w w' : World) : Prop := ∃ m, w' = w.drewN m
theorem Drew.below {w w' : World} (h : Drew w w') : Below w.heap.size w w' := by
  obtain ⟨m, rfl⟩ := h
  exact below_drewN (Below.refl _ _) _
theorem Drew.cell {w w' : World} (h : Drew w w') (p : Addr) : w'.cell? p = w.cell? p := by
  obtain ⟨m, rfl⟩ := h; rfl
theorem Drew.more {w w' : World} (h : Drew w w') (n : Nat) : Drew w (w'.drewN n) := by
  obtain ⟨m, rfl⟩ := h; exact ⟨m + n, World.drewN_drewN _ _ _⟩
theorem Drew.isC {w w' : World} (h : Drew w w') {v : Value} {l : List Int} (k : IsC w v l) : IsC w' v l := k.to h.below
/-- The call says whether it is so. -/
def Says (P : Prop) (e : Ending) : Prop := ∃ b : Bool, e = .returned (.bool b) ∧ (b = true ↔ P)
theorem Says.yes {P : Prop} {e : Ending} (he : e = .returned (.bool true)) (h : P) : Says P e := ⟨true, he, fun _ => h, fun _ => rfl⟩
theorem Says.no {P : Prop} {e : Ending} (he : e = .returned (.bool false)) (h : ¬ P) : Says P e := ⟨false, he, fun h => (by cases h), fun k => absurd k h⟩
/-- The first k lost numbers are as they must be. -/
def NumsTo (d s : Nat) (lost : List Int) (k : Nat) : Prop := ∀ j, (h : j < lost.length) → j < k → 0 ≤ lost[j] ∧ lost[j] < (d + s : Nat) ∧ lost[j] ∉ lost.take j
def SizesTo (L : Nat) (pieces : List ByteArray) (lost : List Int) (k : Nat) : Prop := ∀ p, (h : p < pieces.length) → p < k → (p : Int) ∉ lost → pieces[p].size = L

end Go.Proofs.YtokmllopbfmadabDoor.Ref

namespace Go.Proofs.YtokmllopbfmadabDoor.Ref
open Go.RowKit Mem FieldWalks Tab ByTab Parts

set_option maxRecDepth 100000 in
theorem index_any (l : List Int) (n : Int) (v : Value) (w : World) (h : IsC w v l) (hl : l.length < 2 ^ 62) :
    Calls Tryd.prog 65 #[v, .int .i64 n] w fun e w' => ((∃ k : Nat, e = .returned (.int .i64 k) ∧ k < l.length ∧ n ∈ l) ∨ (e = .returned (.int .i64 (-1)) ∧ n ∉ l)) ∧ w' = w := by
  obtain ⟨ao, ex, rfl, hc⟩ := h
  have HC : Hid (l = [] ∨ ∃ b off, ao = some ⟨b, off, none⟩ ∧ b < w.heap.size ∧ ∀ k, (h : k < l.length) → w.cell? ⟨b, off + k, none⟩ = some (.int .i64 l[k])) := hc
  clear hc
  go_enter Tryd.func65, Tryd.ntmps65
  go_wp2
  go_loop [8] (fun i => ∃ k : Nat, k ≤ l.length ∧ i = .int .i64 k ∧ n ∉ l.take k) (fun i => l.length - (intOf i).toNat)
  case atStart => exact ⟨0, Nat.zero_le _, rfl, by simp⟩
  case round =>
    obtain ⟨k, hk, rfl, hn⟩ := hrel
    by_cases hlt : k < l.length
    · obtain ⟨b, off, rfl, hb, hc⟩ : ∃ b off, ao = some ⟨b, off, none⟩ ∧ b < w.heap.size ∧ ∀ k, (h : k < l.length) → w.cell? ⟨b, off + k, none⟩ = some (.int .i64 l[k]) := by
        rcases HC.out with h | h
        · rw [h] at hlt; simp at hlt
        · exact h
      have c1 := hc k hlt
      have HN : Hid (n ∉ l.take k) := hn
      clear hc hn
      by_cases e : l[k] = n
      · have HM : Hid (n ∈ l) := e ▸ List.getElem_mem hlt
        rw [e] at c1
        clear e
        go_wp2
        go_ret
        exact ⟨.inl ⟨k, rfl, hlt, HM.out⟩, rfl⟩
      · have HX : Hid (n ∉ l.take (k + 1)) := not_take_next HN.out hlt e
        have he : (n == l[k]) = false := by simp; exact fun h => e h.symm
        generalize l[k] = x at c1 he
        clear e
        go_wp2
        go_round
        case rel => exact ⟨k + 1, by omega, by go_num, HX.out⟩
        case measure => simp [intOf]; omega
    · obtain rfl : k = l.length := by omega
      rw [List.take_length] at hn
      have HN : Hid (n ∉ l) := hn
      clear hn
      go_wp2
      go_ret
      exact ⟨.inr ⟨rfl, HN.out⟩, rfl⟩

set_option maxRecDepth 100000 in
theorem contains_any (l : List Int) (n : Int) (v : Value) (w : World) (h : IsC w v l) (hl : l.length < 2 ^ 62) :
    Calls Tryd.prog 57 #[v, .int .i64 n] w fun e w' => e = .returned (.bool (decide (n ∈ l))) ∧ w' = w := by
  go_enter Tryd.func57, Tryd.ntmps57
  go_wp2_with fail
  refine (index_any l n v w h hl).mono ?_
  rintro e w' ⟨h1, rfl⟩
  rcases h1 with ⟨k, rfl, hk, hm⟩ | ⟨rfl, hm⟩
  · have hd : decide (n ∈ l) = true := by simp [hm]
    have HD : Hid (decide (n ∈ l) = true) := hd
    clear hd hm
    go_wp2
    go_ret
    exact ⟨by rw [HD.out]; rfl, rfl⟩
  · have hd : decide (n ∈ l) = false := by simp [hm]
    have HD : Hid (decide (n ∈ l) = false) := hd
    clear hd hm
    go_wp2
    go_ret
    exact ⟨by rw [HD.out]; rfl, rfl⟩

def okSize (n : Int) : Bool := decide (0 ≤ n ∧ n ≤ 400)
theorem okSize_yes (n : Int) (h : 0 ≤ n ∧ n ≤ 400) : okSize n = true := by simp [okSize]; omega
theorem okSize_no (n : Int) (h : ¬ (0 ≤ n ∧ n ≤ 400)) : okSize n = false := by simp [okSize]; omega
theorem isSize_any (n : Int) (w : World) : Calls Tryd.prog 31 #[.int .i64 n] w fun e w' => e = .returned (.bool (okSize n)) ∧ w' = w := by
  by_cases h1 : 0 ≤ n
  · by_cases h2 : n ≤ 400
    · rw [okSize_yes n ⟨h1, h2⟩]
      go_enter Tryd.func31, Tryd.ntmps31
      go_wp2
      go_ret
      exact ⟨rfl, rfl⟩
    · rw [okSize_no n (by omega)]
      go_enter Tryd.func31, Tryd.ntmps31
      go_wp2
      go_ret
      exact ⟨rfl, rfl⟩
  · rw [okSize_no n (by omega)]
    go_enter Tryd.func31, Tryd.ntmps31
    go_wp2
    go_ret
    exact ⟨rfl, rfl⟩

def okWithin (n at_ : Int) (m : Nat) : Bool := decide (0 ≤ at_ ∧ at_ + m ≤ n)
theorem isWithin_any (n : Nat) (hn : n ≤ 400) (at_ : Int) (h2 : at_ ≤ 9223372036854775807) (text : ByteArray) (hlen : text.size ≤ maxLen) (w : World) :
    Calls Tryd.prog 23 #[.int .i64 n, .int .i64 at_, .string text] w fun e w' => e = .returned (.bool (okWithin n at_ text.size)) ∧ w' = w := by
  unfold maxLen at hlen
  by_cases h1 : 0 ≤ at_
  · by_cases h3 : (text.size : Int) ≤ n - at_
    · have : okWithin n at_ text.size = true := by simp [okWithin]; omega
      rw [this]
      go_enter Tryd.func23, Tryd.ntmps23
      go_wp2
      go_ret
      exact ⟨rfl, rfl⟩
    · have : okWithin n at_ text.size = false := by simp [okWithin]; omega
      rw [this]
      go_enter Tryd.func23, Tryd.ntmps23
      go_wp2
      go_ret
      exact ⟨rfl, rfl⟩
  · have : okWithin n at_ text.size = false := by simp [okWithin]; omega
    rw [this]
    go_enter Tryd.func23, Tryd.ntmps23
    go_wp2
    go_ret
    exact ⟨rfl, rfl⟩

def NumsOk (N : Nat) (lost : List Int) : Prop := ∀ k, (h : k < lost.length) → 0 ≤ lost[k] ∧ lost[k] < (N : Int) ∧ lost[k] ∉ lost.take k
def NumsOkTo (N : Nat) (lost : List Int) (m : Nat) : Prop := ∀ k, (h : k < lost.length) → k < m → 0 ≤ lost[k] ∧ lost[k] < (N : Int) ∧ lost[k] ∉ lost.take k
/-- The pieces that are not lost have L bytes. -/
def SizesOk (L : Nat) (pieces : List ByteArray) (lost : List Int) : Prop := ∀ p, (h : p < pieces.length) → (p : Int) ∉ lost → pieces[p].size = L
end Go.Proofs.YtokmllopbfmadabDoor.Ref

namespace Go.Proofs.YtokmllopbfmadabDoor.Parts
open Go.RowKit Mem FieldWalks Tab ByTab

theorem make_strN (n : Nat) (hp : n ≤ 1000) (w : World) :
    (Instr.makeSlice 28 (.int .i64 (n : Int)) (.int .i64 (n : Int))).run Tryd.prog w = .ok (.slice (some ⟨w.heap.size, 0, none⟩) n n) (w.alloc (.cells (madeCells #[.string ByteArray.empty] n) 9)) := by
  obtain ⟨i, hi, hz0, hz1, hz2⟩ := info_parts infoStr
  have := run_make (P := Tryd.prog) w 28 9 i (.string ByteArray.empty) Tryd.underlying28 hi hz0 .i64 .i64 (n : Int) (n : Int) (by omega) (by omega) (by rw [hz2]; omega) (by omega)
  rw [hz1, show ((n : Int)).toNat = n by omega, Nat.mul_one] at this
  exact this

set_option maxRecDepth 100000 in
set_option maxHeartbeats 1000000 in
theorem asTexts_any (ps : List (List Nat)) (pv : Value) (w : World) (hp : RowsAt w pv ps) (hlp : ps.length ≤ 100) :
    Calls Tryd.prog 40 #[pv] w fun e w' => ∃ b, w.heap.size ≤ b ∧ e = .returned (.slice (some ⟨b, 0, none⟩) ps.length ps.length) ∧ Blk w' b 9 (strV (ps.map mkS)) ∧ Below w.heap.size w w' := by
  obtain ⟨pao, pcap, rfl, hpc⟩ := hp
  have hmk := fun w => make_strN ps.length (by omega) w
  have HPC : Hid (ps = [] ∨ ∃ b off, pao = some ⟨b, off, none⟩ ∧ b < w.heap.size ∧ ∀ k, (h : k < ps.length) → ∃ u, w.cell? ⟨b, off + k, none⟩ = some u ∧ BsAt w u ps[k]) := hpc
  have HTL : Hid ((ps.map mkS).length = ps.length) := List.length_map mkS
  clear hpc
  go_enter Tryd.func40, Tryd.ntmps40
  go_wp2
  go_loopw [11] (fun i wr => ∃ k : Nat, k ≤ ps.length ∧ i = .int .i64 k ∧ Blk wr w.heap.size 9 (strV (mix (ps.map mkS) (List.replicate ps.length ByteArray.empty) k)) ∧ Below w.heap.size w wr) (fun i _ => ps.length - (intOf i).toNat)
  case atStart =>
    refine ⟨0, Nat.zero_le _, rfl, (Blk.new w _ _).eq ?_, (Below.refl _ _).alloc (Nat.le_refl _) _⟩
    rw [toList_madeCells_one, mix_zero]; simp [strV]
  case round =>
    obtain ⟨k, hk, rfl, hblk, hbel⟩ := hrel
    by_cases hlt : k < ps.length
    · obtain ⟨b, off, rfl, hb, hc⟩ : ∃ b off, pao = some ⟨b, off, none⟩ ∧ b < w.heap.size ∧ ∀ k, (h : k < ps.length) → ∃ u, w.cell? ⟨b, off + k, none⟩ = some u ∧ BsAt w u ps[k] := by
        rcases HPC.out with h | h
        · rw [h] at hlt; simp at hlt
        · exact h
      obtain ⟨u, hu, hbs⟩ := hc k hlt
      rw [← hbel.cell (p := ⟨b, off + k, none⟩) hb] at hu
      have HBS : Hid (BsAt wr u ps[k]) := hbs.to hbel
      have hl1 : k < (strV (mix (ps.map mkS) (List.replicate ps.length ByteArray.empty) k)).length := by simp [strV, mix_length, HTL.out]; omega
      have hc1 := hblk.cell_some (List.getElem?_eq_getElem hl1)
      have hf1 := hblk.free k
      generalize (strV (mix (ps.map mkS) (List.replicate ps.length ByteArray.empty) k))[k] = old at hc1
      have HB : Hid (Blk wr w.heap.size 9 (strV (mix (ps.map mkS) (List.replicate ps.length ByteArray.empty) k))) := hblk
      have hBlt := hblk.lt
      clear hc hbs hblk hl1
      go_wp2_with (refine wpList_convert _ rfl 56 9 _ rfl u (.string (mkS ps[k])) rfl (conv_str _ _ _ HBS.out) ?_)
      go_roundw
      case rel =>
        refine ⟨k + 1, by omega, by go_num, ?_, ?_⟩
        · refine ((HB.out.set k _)).eq ?_
          have e := strs_step (ps.map mkS) ps.length k HTL.out (by omega)
          rw [← e]
          simp
        · exact hbel.setCell (Nat.le_refl _) _
      case measure => simp [intOf]; omega
    · obtain rfl : k = ps.length := by omega
      go_wp2
      go_ret
      refine ⟨w.heap.size, Nat.le_refl _, rfl, hblk.eq ?_, hbel⟩
      have e := mix_all (new := ps.map mkS) (old := List.replicate ps.length ByteArray.empty) (by simp)
      simp only [List.length_replicate] at e
      rw [e]
end Go.Proofs.YtokmllopbfmadabDoor.Parts

/- Rows of bytes that came of strings, in memory. -/
namespace Go.Proofs.YtokmllopbfmadabDoor.Ref
open Go.RowKit Mem FieldWalks Tab ByTab Parts
open Gf (Bytes)
open Plans (But rowF)

/-- The block b begins with these bytes, and they may be written. -/
def Row8 (w : World) (b : Nat) (l : List Nat) : Prop :=
  ∃ cs fr, w.heap[b]? = some (.cells cs 5 fr) ∧ (∀ k, (h : k < l.length) → cs[k]? = some (.int .u8 (l[k] : Nat))) ∧ l.length ≤ cs.size ∧ (cs.size ≤ fr.1 ∨ fr = (0, 0))
section
variable {w w' : World} {b : Nat} {l : List Nat}
theorem Row8.lt (h : Row8 w b l) : b < w.heap.size := by obtain ⟨cs, fr, h, _⟩ := h; exact lt_of_block h
theorem Row8.cell (h : Row8 w b l) (k : Nat) (hk : k < l.length) : w.cell? ⟨b, k, none⟩ = some (.int .u8 (l[k] : Nat)) := by
  obtain ⟨cs, fr, h, hc, _⟩ := h
  rw [cell_of_row w b k cs 5 fr h]; exact hc k hk
theorem Row8.free (h : Row8 w b l) (k : Nat) (hk : k < l.length) : w.frozen? ⟨b, k, none⟩ = false := by
  obtain ⟨cs, fr, h, hc, hl, hf⟩ := h
  unfold World.frozen?
  simp only [h]
  rcases hf with hf | rfl
  · simp; intro h1; omega
  · simp
theorem Row8.of_block (h : Row8 w b l) (e : w'.heap[b]? = w.heap[b]?) : Row8 w' b l := by
  obtain ⟨cs, fr, h, r⟩ := h
  exact ⟨cs, fr, e.trans h, r⟩
theorem Row8.to (h : Row8 w b l) (hb : Below w.heap.size w w') : Row8 w' b l := h.of_block (hb.block b h.lt)
theorem Row8.other (h : Row8 w b l) {a : Addr} (ha : b ≠ a.block) (u : Value) : Row8 (w.setCell a u) b l := h.of_block (heap_setCell_other w a b u ha)
theorem Row8.type_ne {c : Nat} {t : TypeId} {us : List Value} (h : Row8 w b l) (k : Blk w c t us) (ht : 5 ≠ t) : b ≠ c := by
  intro e; subst e
  obtain ⟨cs, fr, h, _⟩ := h
  unfold Blk at k
  rw [h] at k
  simp at k
  exact ht k.2.1
theorem Row8.set (h : Row8 w b l) (k x : Nat) : Row8 (w.setCell ⟨b, k, none⟩ (.int .u8 (x : Nat))) b (l.set k x) := by
  obtain ⟨cs, fr, h, hc, hl, hf⟩ := h
  have e : (w.setCell ⟨b, k, none⟩ (.int .u8 (x : Nat))).heap[b]? = some (.cells (cs.setIfInBounds k (.int .u8 (x : Nat))) 5 fr) := by
    unfold World.setCell
    simp only [Array.getElem?_modify, h]
    simp
  refine ⟨_, fr, e, fun i hi => ?_, by simpa using hl, by simpa using hf⟩
  have hi' : i < l.length := by simpa using hi
  by_cases e1 : k = i
  · subst e1
    rw [Array.getElem?_setIfInBounds_self_of_lt (by omega)]
    simp
  · rw [Array.getElem?_setIfInBounds_ne e1, hc i hi', List.getElem_set_ne e1]
theorem Row8.new (w : World) (s : ByteArray) : Row8 (Lib.bytesWorld w 5 s) w.heap.size (nums s) := by
  refine ⟨_, _, Lib.bytesWorld_at_new w 5 s, fun k hk => ?_, ?_, .inl (Nat.le_refl _)⟩
  · have hk' : k < s.size := by rw [nums_length] at hk; exact hk
    have hk2 : k < s.data.size := hk'
    unfold Lib.bytesCells
    rw [Array.getElem?_append_left (by simpa using hk2)]
    simp only [nums, Array.getElem?_map, Array.getElem?_eq_getElem hk2]
    simp
  · rw [nums_length]; unfold Lib.bytesCells; simp
end
theorem below_bytes (w : World) (s : ByteArray) : Below w.heap.size w (Lib.bytesWorld w 5 s) :=
  ⟨rfl, rfl, rfl, by rw [Lib.bytesWorld_size]; omega, fun k hk => Lib.bytesWorld_at_old w 5 s k hk⟩

/-- The list at block g has n rows, each in a block of its own, of L bytes. -/
structure OutAt (w : World) (g n L : Nat) (bs : List Nat) (us : List Value) (rows : Nat → List Nat) : Prop where
  list : Blk w g 56 us
  len : bs.length = n
  nodup : bs.Nodup
  size : ∀ p, p < n → (rows p).length = L
  at_ : ∀ p, (h : p < bs.length) → ∃ c, us[p]? = some (.slice (some ⟨bs[p], 0, none⟩) L c)
  row : ∀ p, (h : p < bs.length) → Row8 w bs[p] (rows p)
section
variable {w w' : World} {g n L : Nat} {bs : List Nat} {us : List Value} {rows : Nat → List Nat}
theorem OutAt.to (h : OutAt w g n L bs us rows) (hb : Below w.heap.size w w') : OutAt w' g n L bs us rows := ⟨h.list.to hb, h.len, h.nodup, h.size, h.at_, fun p hp => (h.row p hp).to hb⟩
theorem OutAt.congr {rows' : Nat → List Nat} (h : OutAt w g n L bs us rows) (e : ∀ p, p < n → rows' p = rows p) : OutAt w g n L bs us rows' := by
  have := h.len
  exact ⟨h.list, h.len, h.nodup, fun p hp => by rw [e p hp]; exact h.size p hp, h.at_, fun p hp => by rw [e p (by omega)]; exact h.row p hp⟩
theorem OutAt.set (h : OutAt w g n L bs us rows) (p : Nat) (hp : p < bs.length) (t x : Nat) : OutAt (w.setCell ⟨bs[p], t, none⟩ (.int .u8 (x : Nat))) g n L bs us (fun q => if q = p then (rows p).set t x else rows q) := by
  have hl := h.len
  refine ⟨h.list.other (Ne.symm ((h.row p hp).type_ne h.list (by decide))) _, h.len, h.nodup, fun q hq => ?_, h.at_, fun q hq => ?_⟩
  · split
    · rw [List.length_set]; exact h.size p (by omega)
    · exact h.size q hq
  · by_cases e : q = p
    · subst e; rw [if_pos rfl]; exact (h.row q hq).set t x
    · rw [if_neg e]
      refine (h.row q hq).other ?_ _
      intro e2
      have hnd := h.nodup
      rw [List.Nodup, List.pairwise_iff_getElem] at hnd
      rcases Nat.lt_or_gt_of_ne e with hlt | hlt
      · exact hnd q p hq hp hlt e2
      · exact hnd p q hp hq hlt e2.symm
/-- Reading: the row's slice, its byte. -/
theorem OutAt.read (h : OutAt w g n L bs us rows) (p : Nat) (hp : p < n) : ∃ b c, bs[p]? = some b ∧ w.cell? ⟨g, p, none⟩ = some (.slice (some ⟨b, 0, none⟩) L c) ∧ b ≠ g ∧ b < w.heap.size ∧ ∀ t, (ht : t < L) → w.cell? ⟨b, t, none⟩ = some (.int .u8 ((rows p).getD t 0 : Nat)) ∧ w.frozen? ⟨b, t, none⟩ = false := by
  have hl := h.len
  have hpl : p < bs.length := by omega
  obtain ⟨c, hc⟩ := h.at_ p hpl
  have hr := h.row p hpl
  refine ⟨bs[p], c, by simp [hpl], h.list.cell_some hc, hr.type_ne h.list (by decide), hr.lt, fun t ht => ?_⟩
  have ht2 : t < (rows p).length := by rw [h.size p hp]; exact ht
  rw [hr.cell t ht2]
  exact ⟨by simp [ht2], hr.free t ht2⟩
end
end Go.Proofs.YtokmllopbfmadabDoor.Ref
