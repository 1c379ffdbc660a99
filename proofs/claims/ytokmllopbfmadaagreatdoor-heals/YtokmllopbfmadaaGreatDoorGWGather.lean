import Derived.OwnWalk
import Derived.Test.YtokmllopbfmadaaGreatDoorGPRebuild
import Derived.Test.YtokmllopbfmadaaGreatDoorGRefRestored
import Derived.Test.YtokmllopbfmadaaGreatDoorGSpread
import Derived.Test.YtokmllopbfmadaaGreatDoorGChangeMath
import Derived.Test.YtokmllopbfmadaaGreatDoorGSpoilMath
import Derived.Test.YtokmllopbfmadaaGreatDoorGLess
namespace Go.Proofs.YtokmllopbfmadaaGreatDoor.Ref
open Go.RowKit Mem FieldWalks Tab ByTab Parts
open Gf (Bytes chosen left_ Fits sumTo)
open Plans (rowF)
open Top (SumsOk whole_any)

/-- The shape, as the program asks it. -/
theorem shape_iff (d s L : Nat) (pieces : List ByteArray) (lost : List Int) : ShapeOk d s L pieces lost ↔ NumsOk (d + s) lost ∧ (pieces.length = d + s ∧ SizesOk L pieces lost) :=
  ⟨fun h => ⟨h.nums, h.count, h.sizes⟩, fun h => ⟨h.2.1, h.1, h.2.2⟩⟩
theorem facs_fit (d s L : Nat) (ps : List (List Nat)) (hd : 1 ≤ d) (hd2 : d ≤ 10) (hs : s ≤ 6) (hL : L ≤ 400) (hl : ps.length = d) (hsz : ∀ j, (h : j < ps.length) → ps[j].length = L) (hb : ∀ j, (h : j < ps.length) → Bytes ps[j]) : Fit (facs d s) ps L := by
  refine ⟨by omega, by omega, by simp [facs]; omega, hsz, fun i hi => by simp [facs, facRow, hl], fun i hi => ?_, hb, by omega⟩
  simp only [facs, List.length_map, List.length_range] at hi
  simp only [facs, List.getElem_map, List.getElem_range]
  exact facRow_bytes _ _ (by omega)

set_option maxRecDepth 100000 in
set_option maxHeartbeats 2000000 in
theorem pGather_any (hS : SumsOk) (d s x n L : Nat) (pieces : List ByteArray) (lost : List Int) (ps : List (List Nat)) (pv lv : Value) (w : World) (ht : Table w) (hp : StrsAt w pv pieces) (hl : IsC w lv lost) (hd : 1 ≤ d) (hd2 : d ≤ 10) (hs : s ≤ 6) (hx : x ≤ 2) (hn : n ≤ 400) (hL : L = (n + d - 1) / d)
    (hyes : ShapeOk d s L pieces lost) (hfew : lost.length ≤ s) (hfit : Fits d L (chosen (left_ lost) d s) (fun p => nums (pieces.getD p ByteArray.empty)) ps) :
    Calls Tryz.prog 35 #[.int .i64 d, .int .i64 s, .int .i64 x, .int .i64 n, pv, lv] w fun e w' => ∃ b, w.heap.size ≤ b ∧ e = .returned (.tuple #[.string (mkS (ps.flatten.take n)), .slice (some ⟨b, 0, none⟩) (d + s) (d + s)]) ∧ Blk w' b 9 (strV (texts ps (sums (facs d s) ps L))) ∧ Below w.heap.size w w' := by
  have hLs : L ≤ 400 := by have := ceil_le n d hd; omega
  have hnL : n ≤ d * L := by rw [hL]; exact ceil_mul n d (by omega)
  have HRB := rebuild_any hS d s x L pieces lost ps pv lv w ht hp hl hd hd2 hs hx hLs hyes hfew hfit
  have HRBH : Hid _ := HRB
  have HT : Hid (Table w) := ht
  have HFI : Hid (Fit (facs d s) ps L) := facs_fit d s L ps hd hd2 hs hLs hfit.len hfit.size hfit.byte
  have HPL : Hid (ps.length = d) := hfit.len
  have HPB : Hid (∀ j, (h : j < ps.length) → Bytes ps[j]) := hfit.byte
  have hfl : ps.flatten.length = d * L := by rw [flatten_length ps L hfit.size, hfit.len]
  have hfl2 : d * L ≤ 4000 := Nat.mul_le_mul hd2 hLs
  obtain ⟨T, hT⟩ : ∃ T, T = ps.flatten.length := ⟨_, rfl⟩
  have hT1 : n ≤ T := by omega
  have hT2 : T ≤ 4000 := by omega
  have HTE : Hid (T = ps.flatten.length) := hT
  clear HRB ht hp hl hyes hfew hfit hfl hfl2 hT hL
  go_enter Tryz.func35, Tryz.ntmps35
  go_wp2_with fail
  refine Calls.mono HRBH.out ?_
  rintro e w1 ⟨cb, hcb, rfl, hrows, hb1⟩
  have hjn := join_any ps d cb w1 hd HPL.out hrows HPB.out (by omega) (by rw [← HTE.out]; omega)
  have HJN : Hid _ := hjn
  have HRO : Hid (RowsC w1 (.slice (some ⟨cb, 0, none⟩) d d) ps) := hrows
  have HB1 : Hid (Below w.heap.size w w1) := hb1
  clear hjn hrows hb1 HRBH
  go_wp2_with fail
  refine Calls.mono HJN.out ?_
  rintro e w2 ⟨v, rfl, hbs, hb2⟩
  have HB2 : Hid (Below w.heap.size w w2) := HB1.out.trans (hb2.mono HB1.out.size)
  have HRO2 : Hid (RowsC w2.drew (.slice (some ⟨cb, 0, none⟩) d d) ps) := (HRO.out.to hb2).to (Below.refl _ _).drew
  obtain ⟨ao, ex, rfl, hbc⟩ := hbs
  rw [← HTE.out]
  have HBT : Hid (BsAt w2.drew (.slice ao n (T + ex)) (ps.flatten.take n)) := by
    have hlt : (ps.flatten.take n).length = n := by rw [List.length_take, ← HTE.out]; omega
    refine ⟨ao, T + ex, by rw [hlt], ?_⟩
    rcases hbc with h | ⟨b, off, h1, h2, h3⟩
    · exact .inl (by rw [h]; simp)
    · exact .inr ⟨b, off, h1, h2, fun k hk => by rw [List.getElem_take]; exact h3 k (by rw [List.length_take] at hk; omega)⟩
  have hcv2 : (convert 85 9 (.slice ao n (T + ex))).run Tryz.prog w2.drew = .ok (.string (mkS (ps.flatten.take n))) w2.drew := conv_str _ _ _ HBT.out
  have HTW : Hid (Table w2.drew) := table_to HT.out HB2.out.drew
  have hnT : (n : Int) ≤ (T : Int) := by omega
  clear hbc hb2 HJN
  go_wp2_with fail
  go_region_with (go_at_call 64; refine (whole_any hS d s x ps L _ HPL.out hd2 hs hx HFI.out _ (by exact HTW.out) (by exact HRO2.out)).mono ?_; rintro e w3 ⟨b, hb, rfl, hblk, hb3⟩; have hcv3 := conv_str w3 _ _ (HBT.out.to hb3))
  all_goals
    go_wp2
    go_ret2
    exact ⟨b, Nat.le_trans HB2.out.size hb, rfl, hblk, HB2.out.drew.trans (hb3.mono HB2.out.size)⟩

section
variable (pv lv : Value) (w : World)
set_option maxRecDepth 100000
end
end Go.Proofs.YtokmllopbfmadaaGreatDoor.Ref

/- What follows (P12), in lists alone: pieces of a text fit it, and what Change makes of them are the changed text's. -/
namespace Go.Proofs.YtokmllopbfmadaaGreatDoor.Top
open Go.RowKit Mem FieldWalks Tab ByTab Parts Ref
open Gf (Bytes sumTo rowOf dot colOf Fits xs newP newD times inv)
open Plans (rowF)

theorem mkS_nums (s : ByteArray) : mkS (nums s) = s := by
  apply ByteArray.ext
  simp only [mkS, nums, List.map_map]
  have : (UInt8.ofNat ∘ UInt8.toNat) = id := by funext x; simp
  rw [this, List.map_id]
theorem nums_mkS (l : List Nat) (h : Bytes l) : nums (mkS l) = l := by
  simp only [mkS, nums, List.map_map]
  conv => rhs; rw [← List.map_id l]
  refine List.map_congr_left fun x hx => ?_
  have := h x hx
  simp [UInt8.toNat_ofNat']; omega
theorem cuts_length (l : List Nat) (d L : Nat) : (cuts l d L).length = d := by simp [cuts]
theorem cuts_size (l : List Nat) (d L j : Nat) (h : j < (cuts l d L).length) : (cuts l d L)[j].length = L := by simp [cuts, cutAt]
theorem colOf_cuts (l : List Nat) (d L t k : Nat) (ht : t < L) (hk : k < d) : colOf (cuts l d L) t k = l.getD (k * L + t) 0 := by
  unfold colOf cuts cutAt
  simp [hk, ht]
/-- The byte t of piece p of these data pieces. -/
theorem piece_dot (d s L : Nat) (ps : List (List Nat)) (hlen : ps.length = d) (hl : ∀ j, (h : j < ps.length) → ps[j].length = L) (hb : ∀ j, (h : j < ps.length) → Bytes ps[j]) (hds : d + s ≤ 256) (p : Nat) (hp : p < d + s) (t : Nat) (ht : t < L) :
    (nums ((texts ps (sums (facs d s) ps L)).getD p ByteArray.empty)).getD t 0 = dot d (rowOf d p) (colOf ps t) := by
  have hx := Gf.colOf_lt hb t
  by_cases hpd : p < d
  · have hpl : p < ps.length := by omega
    rw [Gf.dot_unit d p hpd _ fun k _ => hx k]
    have e : (texts ps (sums (facs d s) ps L)).getD p ByteArray.empty = mkS ps[p] := by
      unfold texts
      rw [List.getD_eq_getElem?_getD, List.getElem?_map, List.getElem?_append_left hpl, List.getElem?_eq_getElem hpl]; rfl
    rw [e, nums_mkS _ (hb p hpl)]
    simp [colOf, hpl]
  · obtain ⟨i, rfl⟩ : ∃ i, p = d + i := ⟨p - d, by omega⟩
    have hi : i < s := by omega
    have e : (texts ps (sums (facs d s) ps L)).getD (d + i) ByteArray.empty = mkS (sumTo (facRow d i) ps L ps.length) := by
      unfold texts
      rw [List.getD_eq_getElem?_getD, List.getElem?_map, List.getElem?_append_right (by omega), hlen]
      simp [sums, facs, hi, hlen]
    rw [e, nums_mkS _ (Gf.sumTo_bytes _ ps L (facRow_bytes d i (by omega)) _), Gf.sumTo_dot _ ps L t hl ht _ (Nat.le_refl _), hlen]
    refine Gf.xs_congr fun k hk => ?_
    rw [show rowOf d (d + i) k = inv ((d + i) ^^^ k) by unfold rowOf; rw [if_neg (by omega)]]
    simp [facRow, hk]
/-- Pieces of a text, some of them spoilt: the text's data pieces fit those that are left. -/
theorem pieces_fit (d s : Nat) (str : ByteArray) (lost : List Int) (spoilt : List ByteArray) (hds : d + s ≤ 256) (hsp : ∀ p, p < d + s → (p : Int) ∉ lost → spoilt.getD p ByteArray.empty = (pieces d s str).getD p ByteArray.empty) :
    Fits d ((str.size + d - 1) / d) (Gf.chosen (Gf.left_ lost) d s) (fun p => nums (spoilt.getD p ByteArray.empty)) (cuts (nums str) d ((str.size + d - 1) / d)) := by
  have hb : ∀ j, (h : j < (cuts (nums str) d ((str.size + d - 1) / d)).length) → Bytes (cuts (nums str) d ((str.size + d - 1) / d))[j] := fun j h => cuts_bytes _ _ _ _ (nums_bytes _) _
  refine ⟨cuts_length _ _ _, cuts_size _ _ _, hb, fun p hp t ht => ?_⟩
  have h1 := Gf.chosen_lt _ _ _ _ hp
  rw [hsp p h1.1 (by simpa [Gf.left_] using h1.2)]
  exact (piece_dot d s _ _ (cuts_length _ _ _) (cuts_size _ _ _) hb hds p h1.1 t ht).symm
theorem flatten_cuts (l : List Nat) (L : Nat) : ∀ d, (cuts l d L).flatten = (List.range (d * L)).map fun i => l.getD i 0 := by
  intro d
  induction d with
  | zero => simp [cuts]
  | succ d ih =>
    have e : cuts l (d + 1) L = cuts l d L ++ [cutAt l L d] := by simp [cuts, List.range_succ]
    rw [e, List.flatten_append, ih, Nat.add_mul, Nat.one_mul, List.range_add, List.map_append]
    simp [cutAt]
theorem flatten_take (l : List Nat) (d L n : Nat) (hn : l.length = n) (h : n ≤ d * L) : (cuts l d L).flatten.take n = l := by
  rw [flatten_cuts]
  apply List.ext_getElem
  · simp; omega
  · intro i h1 h2
    simp [h2]
theorem pieces_sizes (d s : Nat) (str : ByteArray) (p : Nat) (hp : p < (pieces d s str).length) : (pieces d s str)[p].size = (str.size + d - 1) / d := by
  rw [pieces_length] at hp
  have key : ∀ (ps : List (List Nat)) (L : Nat) (hl : ∀ j, (h : j < ps.length) → ps[j].length = L), ps.length = d → ∀ q, (h : q < (texts ps (sums (facs d s) ps L)).length) → ((texts ps (sums (facs d s) ps L))[q]).size = L := by
    intro ps L hl hlen q h
    have hq : q < d + s := by simpa [texts, sums, facs, hlen] using h
    have h' : q < (ps ++ sums (facs d s) ps L).length := by simpa [texts] using h
    have e0 : (texts ps (sums (facs d s) ps L))[q] = mkS (ps ++ sums (facs d s) ps L)[q] := List.getElem_map _
    rw [e0, mkS_size]
    by_cases e : q < ps.length
    · rw [List.getElem_append_left e]; exact hl q e
    · rw [List.getElem_append_right (by omega)]
      simp only [sums, List.getElem_map]
      exact Gf.sumTo_length _ ps L hl _ (Nat.le_refl _)
  exact key _ _ (cuts_size _ _ _) (cuts_length _ _ _) p _

/-- A text, written over. -/
def overL (l : List Nat) (at_ : Nat) (t : List Nat) : List Nat := l.take at_ ++ t ++ l.drop (at_ + t.length)
theorem overL_length (l : List Nat) (at_ : Nat) (t : List Nat) (h : at_ + t.length ≤ l.length) : (overL l at_ t).length = l.length := by simp [overL]; omega
theorem overL_getD (l : List Nat) (at_ : Nat) (t : List Nat) (h : at_ + t.length ≤ l.length) (i : Nat) : (overL l at_ t).getD i 0 = if at_ ≤ i ∧ i < at_ + t.length then t.getD (i - at_) 0 else l.getD i 0 := by
  unfold overL
  simp only [List.getD_eq_getElem?_getD, List.append_assoc]
  by_cases h1 : i < at_
  · rw [List.getElem?_append_left (by simp; omega), if_neg (by omega), List.getElem?_take_of_lt h1]
  · rw [List.getElem?_append_right (by simp; omega)]
    have e : (l.take at_).length = at_ := by simp; omega
    rw [e]
    by_cases h2 : i < at_ + t.length
    · rw [List.getElem?_append_left (by omega), if_pos (by omega)]
    · rw [List.getElem?_append_right (by omega), if_neg (by omega), List.getElem?_drop, show at_ + t.length + (i - at_ - t.length) = i by omega]
theorem newD_cuts (d L at_ : Nat) (str str2 t : ByteArray) (old : Nat → Nat → Nat) (h : at_ + t.size ≤ str.size) (h2 : nums str2 = overL (nums str) at_ (nums t)) (j : Nat) (hj : j < d) (u : Nat) (hu : u < L) (ho : old j u = colOf (cuts (nums str) d L) u j) :
    newD L at_ (nums t) t.size old j u = colOf (cuts (nums str2) d L) u j := by
  rw [colOf_cuts _ _ _ _ _ hu hj] at ho ⊢
  rw [h2, overL_getD _ _ _ (by rw [nums_length, nums_length]; exact h), nums_length]
  unfold newD
  rw [ho]
/-- ████ What Change makes of a text's pieces are the changed text's. ████ -/
theorem change_pieces (d s at_ : Nat) (str str2 t : ByteArray) (hds : d + s ≤ 256) (h : at_ + t.size ≤ str.size) (h2 : nums str2 = overL (nums str) at_ (nums t)) :
    ((List.range (d + s)).map fun p => mkS (rowF ((str.size + d - 1) / d) (newP d ((str.size + d - 1) / d) at_ (nums t) t.size (oldOf (pieces d s str)) p))) = pieces d s str2 := by
  have hsz : str2.size = str.size := by rw [← nums_length, h2, overL_length _ _ _ (by rw [nums_length, nums_length]; exact h), nums_length]
  obtain ⟨L, hL⟩ : ∃ L, L = (str.size + d - 1) / d := ⟨_, rfl⟩
  have hL2 : (str2.size + d - 1) / d = L := by rw [hsz, hL]
  have hb : ∀ (l : List Nat), Bytes l → ∀ j, (h : j < (cuts l d L).length) → Bytes (cuts l d L)[j] := fun l hl j h => cuts_bytes _ _ _ _ hl _
  have dot1 : ∀ p, p < d + s → ∀ u, u < L → oldOf (pieces d s str) p u = dot d (rowOf d p) (colOf (cuts (nums str) d L) u) := fun p hp u hu => by
    unfold oldOf pieces
    rw [← hL]
    exact piece_dot d s L _ (cuts_length _ _ _) (cuts_size _ _ _) (hb _ (nums_bytes _)) hds p hp u hu
  have dot2 : ∀ p, p < d + s → ∀ u, u < L → (nums ((pieces d s str2).getD p ByteArray.empty)).getD u 0 = dot d (rowOf d p) (colOf (cuts (nums str2) d L) u) := fun p hp u hu => by
    unfold pieces
    rw [hL2]
    exact piece_dot d s L _ (cuts_length _ _ _) (cuts_size _ _ _) (hb _ (nums_bytes _)) hds p hp u hu
  have old1 : ∀ j, j < d → ∀ u, u < L → oldOf (pieces d s str) j u = colOf (cuts (nums str) d L) u j := fun j hj u hu => by
    rw [dot1 j (by omega) u hu, Gf.dot_unit d j hj _ fun k _ => Gf.colOf_lt (hb _ (nums_bytes _)) u k]
  rw [← hL]
  apply List.ext_getElem
  · rw [pieces_length]; simp
  · intro p h1 h3
    have hp : p < d + s := by rw [pieces_length] at h3; exact h3
    have e3 : (pieces d s str2).getD p ByteArray.empty = (pieces d s str2)[p] := by simp [h3]
    rw [List.getElem_map, List.getElem_range, ← mkS_nums (pieces d s str2)[p]]
    congr 1
    apply List.ext_getElem
    · rw [nums_length, pieces_sizes, hL2]; simp
    · intro u h4 h5
      have hu : u < L := by simpa using h4
      have e4 := dot2 p hp u hu
      rw [e3, List.getD_eq_getElem?_getD, List.getElem?_eq_getElem h5, Option.getD_some] at e4
      rw [e4]
      simp only [rowF, List.getElem_map, List.getElem_range]
      unfold newP
      by_cases hpd : p < d
      · rw [if_pos hpd, newD_cuts d L at_ str str2 t _ h h2 p hpd u hu (old1 p hpd u hu), Gf.dot_unit d p hpd _ fun k _ => Gf.colOf_lt (hb _ (nums_bytes _)) u k]
      · rw [if_neg hpd, dot1 p hp u hu]
        unfold dot
        rw [← Gf.xs_xor]
        refine Gf.xs_congr fun j hj => ?_
        rw [old1 j hj u hu, newD_cuts d L at_ str str2 t _ h h2 j hj u hu (old1 j hj u hu)]
        have hF : inv (p ^^^ j) < 256 := Gf.inv_lt _ (Gf.xor_lt (by omega) (by omega))
        rw [show rowOf d p j = inv (p ^^^ j) by simp [rowOf, hpd], ← Gf.times_xor_r _ _ _ hF, Gf.xcl]
end Go.Proofs.YtokmllopbfmadaaGreatDoor.Top

namespace Go.Proofs.YtokmllopbfmadaaGreatDoor.Ref
open Go.RowKit Mem FieldWalks Tab ByTab Parts
open Gf (Bytes)

set_option maxRecDepth 100000 in
set_option maxHeartbeats 1000000 in
theorem rOpen_cut (p : ByteArray) (hp : p.size < 4611686018427387904) (h : headOk p) (hc : ¬ cutOk p) (w : World) :
    Calls Tryz.prog 29 #[.string p] w fun e w' => e = .returned (.tuple #[noOpened, .int .i64 10]) ∧ Below w.heap.size w w' := by
  have h10 : ¬ p.size < 10 := by have := h.1; omega
  have e0 : decide ((p.size : Int) < 10) = false := decide_eq_false (by omega)
  have hz : (p.extract 0 6).size = 6 := by rw [ByteArray.size_extract]; omega
  obtain ⟨c0, hc0⟩ : ∃ c, c = byteAt p 0 := ⟨_, rfl⟩
  obtain ⟨c1, hc1⟩ : ∃ c, c = byteAt p 1 := ⟨_, rfl⟩
  obtain ⟨D, hD⟩ : ∃ c, c = byteAt p 2 := ⟨_, rfl⟩
  obtain ⟨S, hS⟩ : ∃ c, c = byteAt p 3 := ⟨_, rfl⟩
  obtain ⟨c4, hc4⟩ : ∃ c, c = byteAt p 4 := ⟨_, rfl⟩
  obtain ⟨c5, hc5⟩ : ∃ c, c = byteAt p 5 := ⟨_, rfl⟩
  have i0 : 0 < p.size := by omega
  have i1 : 1 < p.size := by omega
  have i2 : 2 < p.size := by omega
  have i3 : 3 < p.size := by omega
  have i4 : 4 < p.size := by omega
  have i5 : 5 < p.size := by omega
  have g0 : (p[0]'i0).toNat = c0 := by rw [hc0]; exact byteAt_get p 0 i0
  have g1 : (p[1]'i1).toNat = c1 := by rw [hc1]; exact byteAt_get p 1 i1
  have g2 : (p[2]'i2).toNat = D := by rw [hD]; exact byteAt_get p 2 i2
  have g3 : (p[3]'i3).toNat = S := by rw [hS]; exact byteAt_get p 3 i3
  have g4 : (p[4]'i4).toNat = c4 := by rw [hc4]; exact byteAt_get p 4 i4
  have g5 : (p[5]'i5).toNat = c5 := by rw [hc5]; exact byteAt_get p 5 i5
  have l0 : c0 < 256 := by rw [hc0]; exact byteAt_lt _ _
  have l1 : c1 < 256 := by rw [hc1]; exact byteAt_lt _ _
  have l2 : D < 256 := by rw [hD]; exact byteAt_lt _ _
  have l3 : S < 256 := by rw [hS]; exact byteAt_lt _ _
  have l4 : c4 < 256 := by rw [hc4]; exact byteAt_lt _ _
  have l5 : c5 < 256 := by rw [hc5]; exact byteAt_lt _ _
  have n0 : c0 = 119 := by rw [hc0]; exact h.2.1
  have n1 : c1 = 1 := by rw [hc1]; exact h.2.2.1
  have hcn := h.2.2.2.1
  unfold pD pS at hcn
  rw [← hD, ← hS] at hcn
  have n2 : okCounts (D : Int) (S : Int) = true := okCounts_yes _ _ (by omega)
  have n3 : 256 * c4 + c5 ≤ 400 := by have := h.2.2.2.2.1; unfold pN at this; rw [← hc4, ← hc5] at this; exact this
  have e1 : decide ((400 : Int) < 256 * (c4 : Int) + (c5 : Int)) = false := decide_eq_false (by omega)
  have e2 : ((p.extract 6 10).toList == (checkS (p.extract 0 6)).toList) = true := by rw [str_beq]; exact decide_eq_true h.2.2.2.2.2
  obtain ⟨L, hL⟩ : ∃ L, L = (256 * c4 + c5 + D - 1) / D := ⟨_, rfl⟩
  have HC : Hid (p.size ≠ 10 + (D + S) * (L + 5)) := by
    intro hh; apply hc
    unfold cutOk pL pN pD pS
    rw [← hD, ← hS, ← hc4, ← hc5, ← hL]; exact hh
  clear h hc hc0 hc1 hD hS hc4 hc5
  go_enter Tryz.func29, Tryz.ntmps29
  go_wp2
  go_quiet (fail)
  go_wp2_with fail
  refine (rCounts_any _ _ _).mono ?_
  rintro e w' ⟨rfl, rfl⟩
  go_wp2_with fail
  generalize hw1 : World.drewN _ _ = w1
  have B1 : Below w.heap.size w w1 := by
    have h : Below w.heap.size w _ := (((Below.refl w.heap.size w).alloc (Nat.le_refl _) (.cells #[.int .i64 0, .int .i64 0, .int .i64 0, .slice none 0 0, .slice none 0 0] 54)).alloc (by simp) (.cells #[.int .i64 0, .int .i64 0, .int .i64 0, .slice none 0 0, .slice none 0 0] 54))
    rw [← hw1]; exact ⟨h.os, h.tape, h.output, h.size, h.block⟩
  have z1 : w1.heap.size = w.heap.size + 1 + 1 := by rw [← hw1]; simp
  have R1 : Blk w1 w.heap.size 54 [.int .i64 0, .int .i64 0, .int .i64 0, .slice none 0 0, .slice none 0 0] := by
    have h := (Blk.new w #[.int .i64 0, .int .i64 0, .int .i64 0, .slice none 0 0, .slice none 0 0] 54).to ((Below.refl _ _).alloc (Nat.le_refl _) (.cells #[.int .i64 0, .int .i64 0, .int .i64 0, .slice none 0 0, .slice none 0 0] 54))
    rw [← hw1]; exact h
  have O1 : Blk w1 (w.heap.size + 1) 54 [.int .i64 0, .int .i64 0, .int .i64 0, .slice none 0 0, .slice none 0 0] := by
    have h := (Blk.new1 w (.cells #[.int .i64 0, .int .i64 0, .int .i64 0, .slice none 0 0, .slice none 0 0] 54) #[.int .i64 0, .int .i64 0, .int .i64 0, .slice none 0 0, .slice none 0 0] 54)
    rw [← hw1]; exact h
  clear hw1
  refine (check_any _ (by omega) _).mono ?_
  rintro e w2 ⟨rfl, hb2⟩
  have R2 := R1.to hb2
  have O2 := O1.to hb2
  have B2 := B1.trans (hb2.mono (by omega))
  have y0 := O2.cell_some (k := 0) rfl
  have y1 := O2.cell_some (k := 1) rfl
  have y2 := O2.cell_some (k := 2) rfl
  have y3 := O2.cell_some (k := 3) rfl
  have y4 := O2.cell_some (k := 4) rfl
  have q0 := R2.cell_some (k := 0) rfl
  have q1 := R2.cell_some (k := 1) rfl
  have q2 := R2.cell_some (k := 2) rfl
  have q3 := R2.cell_some (k := 3) rfl
  have q4 := R2.cell_some (k := 4) rfl
  have f0 := R2.free 0
  have f1 := R2.free 1
  have f2 := R2.free 2
  have f3 := R2.free 3
  have f4 := R2.free 4
  have HR : Hid (Blk w2 w.heap.size 54 [.int .i64 0, .int .i64 0, .int .i64 0, .slice none 0 0, .slice none 0 0]) := R2
  have HB : Hid (Below w.heap.size w w2) := B2
  clear R1 O1 B1 z1 hb2 R2 O2 B2
  have HSI : Hid (∀ W : World, Calls Tryz.prog 49 #[.int .i64 D, .int .i64 (256 * (c4 : Int) + (c5 : Int))] W fun e w' => e = .returned (.int .i64 (L : Nat)) ∧ w' = W) := by
    intro W
    have := size_any D (256 * c4 + c5) (by omega) (by omega) (by omega) W
    rw [← hL] at this
    rw [show ((256 * c4 + c5 : Nat) : Int) = 256 * (c4 : Int) + (c5 : Int) by omega] at this
    exact this
  have hLs : L ≤ 409 := by rw [hL]; exact Nat.le_trans (Nat.div_le_self _ _) (by omega)
  obtain ⟨M, hM⟩ : ∃ M, M = (D + S) * (L + 5) := ⟨_, rfl⟩
  have hM2 : M ≤ 16 * 414 := by rw [hM]; exact Nat.mul_le_mul (by omega) (by omega)
  have eM : ((D : Int) + (S : Int)) * ((L : Int) + 5) = (M : Int) := by rw [hM]; simp only [Int.natCast_add, Int.natCast_mul]; rfl
  have HM : Hid (p.size ≠ 10 + M) := by rw [hM]; exact HC.out
  have e5 : ((p.size : Int) == 10 + (M : Int)) = false := by
    have := HM.out
    simp; omega
  have e6 : ((p.size : Int) != 10 + (M : Int)) = true := by
    have := HM.out
    simp; omega
  clear hM HC hL
  go_wp2_with fail
  refine Calls.mono (HSI.out _) ?_
  rintro e w' ⟨rfl, hw⟩
  obtain rfl : w2 = w' := hw.symm
  go_wp2_with fail
  have hr := ((((HR.out.set 0 (.int .i64 0)).set 1 (.int .i64 0)).set 2 (.int .i64 0)).set 3 (.slice none 0 0)).set 4 (.slice none 0 0)
  refine bodyPost_ret (v := .tuple #[noOpened, .int .i64 10]) (results_row_tmp (p := 2) (u := 3) (ty := 54) (by kernel_rfl) _ _ w.heap.size 54 _ (0, 0) _ rfl hr Tryz.underlying54 rfl infoOpened _ rfl) rfl ⟨rfl, ?_⟩
  exact ((((HB.out.setCell (by exact Nat.le_refl _) _).setCell (by exact Nat.le_refl _) _).setCell (by exact Nat.le_refl _) _).setCell (by exact Nat.le_refl _) _).setCell (by exact Nat.le_refl _) _
end Go.Proofs.YtokmllopbfmadaaGreatDoor.Ref
