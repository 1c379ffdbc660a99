import Derived.OwnWalk
import Derived.Test.YtokmllopbfmadabDoorGPRebuild
import Derived.Test.YtokmllopbfmadabDoorGRefRestored
import Derived.Test.YtokmllopbfmadabDoorGPWay
import Derived.Test.YtokmllopbfmadabDoorGChangeMath
import Derived.Test.YtokmllopbfmadabDoorGSpoilMath
import Derived.Test.YtokmllopbfmadabDoorGPkHead
namespace Go.Proofs.YtokmllopbfmadabDoor.Ref
open Go.RowKit Mem FieldWalks Tab ByTab Parts
open Gf (Bytes chosen left_ Fits sumTo)
open Plans (rowF)
open Top (SumsOk whole_any)

/-- The shape, as the program asks it. -/
theorem shape_iff (d s L : Nat) (pieces : List ByteArray) (lost : List Int) : ShapeOk d s L pieces lost ↔ NumsOk (d + s) lost ∧ (pieces.length = d + s ∧ SizesOk L pieces lost) :=
  ⟨fun h => ⟨h.nums, h.count, h.sizes⟩, fun h => ⟨h.2.1, h.1, h.2.2⟩⟩
theorem facs_fit (d s L : Nat) (ps : List (List Nat)) (hd : 1 ≤ d) (hd2 : d ≤ 10) (hs : s ≤ 6) (hL : L ≤ 400) (hl : ps.length = d) (hsz : ∀ j, (h : j < ps.length) → ps[j].length = L) (hb : ∀ j, (h : j < ps.length) → Bytes ps[j]) : Fit (facs d s) ps L := by
  refine ⟨by omega, by omega, by simp [facs]; omega, hsz, fun i hi => by simp [facs, facRow, hl], fun i hi => ?_, hb, by omega⟩
  simp only [facs, List.length_map, List.length_range] at hi
  simp only [facs, List.getElem_map, List.getElem_range]
  exact facRow_bytes _ _ (by omega)

set_option maxRecDepth 100000 in
set_option maxHeartbeats 2000000 in
theorem pGather_any (hS : SumsOk) (d s x n L : Nat) (pieces : List ByteArray) (lost : List Int) (ps : List (List Nat)) (pv lv : Value) (w : World) (ht : Table w) (hp : StrsAt w pv pieces) (hl : IsC w lv lost) (hd : 1 ≤ d) (hd2 : d ≤ 10) (hs : s ≤ 6) (hx : x ≤ 2) (hn : n ≤ 400) (hL : L = (n + d - 1) / d)
    (hyes : ShapeOk d s L pieces lost) (hfew : lost.length ≤ s) (hfit : Fits d L (chosen (left_ lost) d s) (fun p => nums (pieces.getD p ByteArray.empty)) ps) :
    Calls Tryd.prog 37 #[.int .i64 d, .int .i64 s, .int .i64 x, .int .i64 n, pv, lv] w fun e w' => ∃ b, w.heap.size ≤ b ∧ e = .returned (.tuple #[.string (mkS (ps.flatten.take n)), .slice (some ⟨b, 0, none⟩) (d + s) (d + s)]) ∧ Blk w' b 9 (strV (texts ps (sums (facs d s) ps L))) ∧ Below w.heap.size w w' := by
  have hLs : L ≤ 400 := by have := ceil_le n d hd; omega
  have hnL : n ≤ d * L := by rw [hL]; exact ceil_mul n d (by omega)
  have HRB := rebuild_any hS d s x L pieces lost ps pv lv w ht hp hl hd hd2 hs hx hLs hyes hfew hfit
  have HRBH : Hid _ := HRB
  have HT : Hid (Table w) := ht
  have HFI : Hid (Fit (facs d s) ps L) := facs_fit d s L ps hd hd2 hs hLs hfit.len hfit.size hfit.byte
  have HPL : Hid (ps.length = d) := hfit.len
  have HPB : Hid (∀ j, (h : j < ps.length) → Bytes ps[j]) := hfit.byte
  have hfl : ps.flatten.length = d * L := by rw [flatten_length ps L hfit.size, hfit.len]
  have hfl2 : d * L ≤ 4000 := Nat.mul_le_mul hd2 hLs
  obtain ⟨T, hT⟩ : ∃ T, T = ps.flatten.length := ⟨_, rfl⟩
  have hT1 : n ≤ T := by omega
  have hT2 : T ≤ 4000 := by omega
  have HTE : Hid (T = ps.flatten.length) := hT
  clear HRB ht hp hl hyes hfew hfit hfl hfl2 hT hL
  go_enter Tryd.func37, Tryd.ntmps37
  go_wp2_with fail
  refine Calls.mono HRBH.out ?_
  rintro e w1 ⟨cb, hcb, rfl, hrows, hb1⟩
  have hjn := join_any ps d cb w1 hd HPL.out hrows HPB.out (by omega) (by rw [← HTE.out]; omega)
  have HJN : Hid _ := hjn
  have HRO : Hid (RowsC w1 (.slice (some ⟨cb, 0, none⟩) d d) ps) := hrows
  have HB1 : Hid (Below w.heap.size w w1) := hb1
  clear hjn hrows hb1 HRBH
  go_wp2_with fail
  refine Calls.mono HJN.out ?_
  rintro e w2 ⟨v, rfl, hbs, hb2⟩
  have HB2 : Hid (Below w.heap.size w w2) := HB1.out.trans (hb2.mono HB1.out.size)
  have HRO2 : Hid (RowsC w2.drew (.slice (some ⟨cb, 0, none⟩) d d) ps) := (HRO.out.to hb2).to (Below.refl _ _).drew
  obtain ⟨ao, ex, rfl, hbc⟩ := hbs
  rw [← HTE.out]
  have HBT : Hid (BsAt w2.drew (.slice ao n (T + ex)) (ps.flatten.take n)) := by
    have hlt : (ps.flatten.take n).length = n := by rw [List.length_take, ← HTE.out]; omega
    refine ⟨ao, T + ex, by rw [hlt], ?_⟩
    rcases hbc with h | ⟨b, off, h1, h2, h3⟩
    · exact .inl (by rw [h]; simp)
    · exact .inr ⟨b, off, h1, h2, fun k hk => by rw [List.getElem_take]; exact h3 k (by rw [List.length_take] at hk; omega)⟩
  have hcv2 : (convert 56 9 (.slice ao n (T + ex))).run Tryd.prog w2.drew = .ok (.string (mkS (ps.flatten.take n))) w2.drew := conv_str _ _ _ HBT.out
  have HTW : Hid (Table w2.drew) := table_to HT.out HB2.out.drew
  have hnT : (n : Int) ≤ (T : Int) := by omega
  clear hbc hb2 HJN
  go_wp2_with fail
  go_region_with (go_at_call 41; refine (whole_any hS d s x ps L _ HPL.out hd2 hs hx HFI.out _ (by exact HTW.out) (by exact HRO2.out)).mono ?_; rintro e w3 ⟨b, hb, rfl, hblk, hb3⟩; have hcv3 := conv_str w3 _ _ (HBT.out.to hb3))
  all_goals
    go_wp2
    go_ret2
    exact ⟨b, Nat.le_trans HB2.out.size hb, rfl, hblk, HB2.out.drew.trans (hb3.mono HB2.out.size)⟩

section
variable (pv lv : Value) (w : World)
set_option maxRecDepth 100000
end
end Go.Proofs.YtokmllopbfmadabDoor.Ref

/- What follows (P12), in lists alone: pieces of a text fit it, and what Change makes of them are the changed text's. -/
namespace Go.Proofs.YtokmllopbfmadabDoor.Top
open Go.RowKit Mem FieldWalks Tab ByTab Parts Ref
open Gf (Bytes sumTo rowOf dot colOf Fits xs newP newD times inv)
open Plans (rowF)

theorem mkS_nums (s : ByteArray) : mkS (nums s) = s := by
  apply ByteArray.ext
  simp only [mkS, nums, List.map_map]
  have : (UInt8.ofNat ∘ UInt8.toNat) = id := by funext x; simp
  rw [this, List.map_id]
theorem nums_mkS (l : List Nat) (h : Bytes l) : nums (mkS l) = l := by
  simp only [mkS, nums, List.map_map]
  conv => rhs; rw [← List.map_id l]
  refine List.map_congr_left fun x hx => ?_
  have := h x hx
  simp [UInt8.toNat_ofNat']; omega
theorem cuts_length (l : List Nat) (d L : Nat) : (cuts l d L).length = d := by simp [cuts]
theorem cuts_size (l : List Nat) (d L j : Nat) (h : j < (cuts l d L).length) : (cuts l d L)[j].length = L := by simp [cuts, cutAt]
theorem colOf_cuts (l : List Nat) (d L t k : Nat) (ht : t < L) (hk : k < d) : colOf (cuts l d L) t k = l.getD (k * L + t) 0 := by
  unfold colOf cuts cutAt
  simp [hk, ht]
/-- The byte t of piece p of these data pieces. -/
theorem piece_dot (d s L : Nat) (ps : List (List Nat)) (hlen : ps.length = d) (hl : ∀ j, (h : j < ps.length) → ps[j].length = L) (hb : ∀ j, (h : j < ps.length) → Bytes ps[j]) (hds : d + s ≤ 256) (p : Nat) (hp : p < d + s) (t : Nat) (ht : t < L) :
    (nums ((texts ps (sums (facs d s) ps L)).getD p ByteArray.empty)).getD t 0 = dot d (rowOf d p) (colOf ps t) := by
  have hx := Gf.colOf_lt hb t
  by_cases hpd : p < d
  · have hpl : p < ps.length := by omega
    rw [Gf.dot_unit d p hpd _ fun k _ => hx k]
    have e : (texts ps (sums (facs d s) ps L)).getD p ByteArray.empty = mkS ps[p] := by
      unfold texts
      rw [List.getD_eq_getElem?_getD, List.getElem?_map, List.getElem?_append_left hpl, List.getElem?_eq_getElem hpl]; rfl
    rw [e, nums_mkS _ (hb p hpl)]
    simp [colOf, hpl]
  · obtain ⟨i, rfl⟩ : ∃ i, p = d + i := ⟨p - d, by omega⟩
    have hi : i < s := by omega
    have e : (texts ps (sums (facs d s) ps L)).getD (d + i) ByteArray.empty = mkS (sumTo (facRow d i) ps L ps.length) := by
      unfold texts
      rw [List.getD_eq_getElem?_getD, List.getElem?_map, List.getElem?_append_right (by omega), hlen]
      simp [sums, facs, hi, hlen]
    rw [e, nums_mkS _ (Gf.sumTo_bytes _ ps L (facRow_bytes d i (by omega)) _), Gf.sumTo_dot _ ps L t hl ht _ (Nat.le_refl _), hlen]
    refine Gf.xs_congr fun k hk => ?_
    rw [show rowOf d (d + i) k = inv ((d + i) ^^^ k) by unfold rowOf; rw [if_neg (by omega)]]
    simp [facRow, hk]
/-- Pieces of a text, some of them spoilt: the text's data pieces fit those that are left. -/
theorem pieces_fit (d s : Nat) (str : ByteArray) (lost : List Int) (spoilt : List ByteArray) (hds : d + s ≤ 256) (hsp : ∀ p, p < d + s → (p : Int) ∉ lost → spoilt.getD p ByteArray.empty = (pieces d s str).getD p ByteArray.empty) :
    Fits d ((str.size + d - 1) / d) (Gf.chosen (Gf.left_ lost) d s) (fun p => nums (spoilt.getD p ByteArray.empty)) (cuts (nums str) d ((str.size + d - 1) / d)) := by
  have hb : ∀ j, (h : j < (cuts (nums str) d ((str.size + d - 1) / d)).length) → Bytes (cuts (nums str) d ((str.size + d - 1) / d))[j] := fun j h => cuts_bytes _ _ _ _ (nums_bytes _) _
  refine ⟨cuts_length _ _ _, cuts_size _ _ _, hb, fun p hp t ht => ?_⟩
  have h1 := Gf.chosen_lt _ _ _ _ hp
  rw [hsp p h1.1 (by simpa [Gf.left_] using h1.2)]
  exact (piece_dot d s _ _ (cuts_length _ _ _) (cuts_size _ _ _) hb hds p h1.1 t ht).symm
theorem flatten_cuts (l : List Nat) (L : Nat) : ∀ d, (cuts l d L).flatten = (List.range (d * L)).map fun i => l.getD i 0 := by
  intro d
  induction d with
  | zero => simp [cuts]
  | succ d ih =>
    have e : cuts l (d + 1) L = cuts l d L ++ [cutAt l L d] := by simp [cuts, List.range_succ]
    rw [e, List.flatten_append, ih, Nat.add_mul, Nat.one_mul, List.range_add, List.map_append]
    simp [cutAt]
theorem flatten_take (l : List Nat) (d L n : Nat) (hn : l.length = n) (h : n ≤ d * L) : (cuts l d L).flatten.take n = l := by
  rw [flatten_cuts]
  apply List.ext_getElem
  · simp; omega
  · intro i h1 h2
    simp [h2]
theorem pieces_sizes (d s : Nat) (str : ByteArray) (p : Nat) (hp : p < (pieces d s str).length) : (pieces d s str)[p].size = (str.size + d - 1) / d := by
  rw [pieces_length] at hp
  have key : ∀ (ps : List (List Nat)) (L : Nat) (hl : ∀ j, (h : j < ps.length) → ps[j].length = L), ps.length = d → ∀ q, (h : q < (texts ps (sums (facs d s) ps L)).length) → ((texts ps (sums (facs d s) ps L))[q]).size = L := by
    intro ps L hl hlen q h
    have hq : q < d + s := by simpa [texts, sums, facs, hlen] using h
    have h' : q < (ps ++ sums (facs d s) ps L).length := by simpa [texts] using h
    have e0 : (texts ps (sums (facs d s) ps L))[q] = mkS (ps ++ sums (facs d s) ps L)[q] := List.getElem_map _
    rw [e0, mkS_size]
    by_cases e : q < ps.length
    · rw [List.getElem_append_left e]; exact hl q e
    · rw [List.getElem_append_right (by omega)]
      simp only [sums, List.getElem_map]
      exact Gf.sumTo_length _ ps L hl _ (Nat.le_refl _)
  exact key _ _ (cuts_size _ _ _) (cuts_length _ _ _) p _

/-- A text, written over. -/
def overL (l : List Nat) (at_ : Nat) (t : List Nat) : List Nat := l.take at_ ++ t ++ l.drop (at_ + t.length)
theorem overL_length (l : List Nat) (at_ : Nat) (t : List Nat) (h : at_ + t.length ≤ l.length) : (overL l at_ t).length = l.length := by simp [overL]; omega
theorem overL_getD (l : List Nat) (at_ : Nat) (t : List Nat) (h : at_ + t.length ≤ l.length) (i : Nat) : (overL l at_ t).getD i 0 = if at_ ≤ i ∧ i < at_ + t.length then t.getD (i - at_) 0 else l.getD i 0 := by
  unfold overL
  simp only [List.getD_eq_getElem?_getD, List.append_assoc]
  by_cases h1 : i < at_
  · rw [List.getElem?_append_left (by simp; omega), if_neg (by omega), List.getElem?_take_of_lt h1]
  · rw [List.getElem?_append_right (by simp; omega)]
    have e : (l.take at_).length = at_ := by simp; omega
    rw [e]
    by_cases h2 : i < at_ + t.length
    · rw [List.getElem?_append_left (by omega), if_pos (by omega)]
    · rw [List.getElem?_append_right (by omega), if_neg (by omega), List.getElem?_drop, show at_ + t.length + (i - at_ - t.length) = i by omega]
theorem newD_cuts (d L at_ : Nat) (str str2 t : ByteArray) (old : Nat → Nat → Nat) (h : at_ + t.size ≤ str.size) (h2 : nums str2 = overL (nums str) at_ (nums t)) (j : Nat) (hj : j < d) (u : Nat) (hu : u < L) (ho : old j u = colOf (cuts (nums str) d L) u j) :
    newD L at_ (nums t) t.size old j u = colOf (cuts (nums str2) d L) u j := by
  rw [colOf_cuts _ _ _ _ _ hu hj] at ho ⊢
  rw [h2, overL_getD _ _ _ (by rw [nums_length, nums_length]; exact h), nums_length]
  unfold newD
  rw [ho]
/-- ████ What Change makes of a text's pieces are the changed text's. ████ -/
theorem change_pieces (d s at_ : Nat) (str str2 t : ByteArray) (hds : d + s ≤ 256) (h : at_ + t.size ≤ str.size) (h2 : nums str2 = overL (nums str) at_ (nums t)) :
    ((List.range (d + s)).map fun p => mkS (rowF ((str.size + d - 1) / d) (newP d ((str.size + d - 1) / d) at_ (nums t) t.size (oldOf (pieces d s str)) p))) = pieces d s str2 := by
  have hsz : str2.size = str.size := by rw [← nums_length, h2, overL_length _ _ _ (by rw [nums_length, nums_length]; exact h), nums_length]
  obtain ⟨L, hL⟩ : ∃ L, L = (str.size + d - 1) / d := ⟨_, rfl⟩
  have hL2 : (str2.size + d - 1) / d = L := by rw [hsz, hL]
  have hb : ∀ (l : List Nat), Bytes l → ∀ j, (h : j < (cuts l d L).length) → Bytes (cuts l d L)[j] := fun l hl j h => cuts_bytes _ _ _ _ hl _
  have dot1 : ∀ p, p < d + s → ∀ u, u < L → oldOf (pieces d s str) p u = dot d (rowOf d p) (colOf (cuts (nums str) d L) u) := fun p hp u hu => by
    unfold oldOf pieces
    rw [← hL]
    exact piece_dot d s L _ (cuts_length _ _ _) (cuts_size _ _ _) (hb _ (nums_bytes _)) hds p hp u hu
  have dot2 : ∀ p, p < d + s → ∀ u, u < L → (nums ((pieces d s str2).getD p ByteArray.empty)).getD u 0 = dot d (rowOf d p) (colOf (cuts (nums str2) d L) u) := fun p hp u hu => by
    unfold pieces
    rw [hL2]
    exact piece_dot d s L _ (cuts_length _ _ _) (cuts_size _ _ _) (hb _ (nums_bytes _)) hds p hp u hu
  have old1 : ∀ j, j < d → ∀ u, u < L → oldOf (pieces d s str) j u = colOf (cuts (nums str) d L) u j := fun j hj u hu => by
    rw [dot1 j (by omega) u hu, Gf.dot_unit d j hj _ fun k _ => Gf.colOf_lt (hb _ (nums_bytes _)) u k]
  rw [← hL]
  apply List.ext_getElem
  · rw [pieces_length]; simp
  · intro p h1 h3
    have hp : p < d + s := by rw [pieces_length] at h3; exact h3
    have e3 : (pieces d s str2).getD p ByteArray.empty = (pieces d s str2)[p] := by simp [h3]
    rw [List.getElem_map, List.getElem_range, ← mkS_nums (pieces d s str2)[p]]
    congr 1
    apply List.ext_getElem
    · rw [nums_length, pieces_sizes, hL2]; simp
    · intro u h4 h5
      have hu : u < L := by simpa using h4
      have e4 := dot2 p hp u hu
      rw [e3, List.getD_eq_getElem?_getD, List.getElem?_eq_getElem h5, Option.getD_some] at e4
      rw [e4]
      simp only [rowF, List.getElem_map, List.getElem_range]
      unfold newP
      by_cases hpd : p < d
      · rw [if_pos hpd, newD_cuts d L at_ str str2 t _ h h2 p hpd u hu (old1 p hpd u hu), Gf.dot_unit d p hpd _ fun k _ => Gf.colOf_lt (hb _ (nums_bytes _)) u k]
      · rw [if_neg hpd, dot1 p hp u hu]
        unfold dot
        rw [← Gf.xs_xor]
        refine Gf.xs_congr fun j hj => ?_
        rw [old1 j hj u hu, newD_cuts d L at_ str str2 t _ h h2 j hj u hu (old1 j hj u hu)]
        have hF : inv (p ^^^ j) < 256 := Gf.inv_lt _ (Gf.xor_lt (by omega) (by omega))
        rw [show rowOf d p j = inv (p ^^^ j) by simp [rowOf, hpd], ← Gf.times_xor_r _ _ _ hF, Gf.xcl]
end Go.Proofs.YtokmllopbfmadabDoor.Top

/- A pack is written. -/
namespace Go.Proofs.YtokmllopbfmadabDoor.Pk
open Go.RowKit Mem FieldWalks Tab ByTab Parts Ref
open Gf (Bytes)

theorem one_at' (w : World) (n : Nat) (hn : n < 256) : BsAt (w.alloc (.cells #[.int .u8 (n : Int)] 5)) (.slice (some ⟨w.heap.size, 0, none⟩) 1 1) [n % 256] := by
  refine BsAt.of_blk ((Blk.new w _ 5).eq ?_) 1 1 rfl
  rw [Nat.mod_eq_of_lt hn]
  simp [bytesV]
set_option maxRecDepth 100000 in
set_option maxHeartbeats 2000000 in
theorem write_any (d s n : Nat) (ps : List ByteArray) (v : Value) (hl : ps.length ≤ 100) (hp : ∀ p, (h : p < ps.length) → ps[p].size ≤ 1000) (w : World) (hv : StrsAt w v ps) :
    Calls Tryd.prog 18 #[headV d s n, v] w fun e w' => e = .returned (.string (packS d s n ps)) ∧ Below w.heap.size w w' := by
  obtain ⟨ao, cap, rfl, hx⟩ := hv
  have HX : Hid (ps = [] ∨ ∃ b off, ao = some ⟨b, off, none⟩ ∧ b < w.heap.size ∧ ∀ k, (h : k < ps.length) → w.cell? ⟨b, off + k, none⟩ = some (.string ps[k])) := hx
  have HP : Hid (∀ p, (h : p < ps.length) → ps[p].size ≤ 1000) := hp
  obtain ⟨h, hh⟩ : ∃ h, h = headS d s n := ⟨_, rfl⟩
  have hz : h.size = 6 := by rw [hh]; rfl
  have HH : Hid (packS d s n ps = packTo h ps ps.length) := by rw [hh]; rfl
  have HEAD : Hid (∀ W, Calls Tryd.prog 28 #[.agg #[.int .i64 d, .int .i64 s, .int .i64 n]] W fun e w' => e = .returned (.string h) ∧ Below W.heap.size W w') := fun W => by
    rw [hh]; exact bareHead_any d s n W
  have zc := checkS_size h
  have zh : (h ++ checkS h).size = 10 := by rw [ByteArray.size_append]; omega
  have hcv := fun W => Lib.run_convert_string_bytes (P := Tryd.prog) W 9 56 5 (h ++ checkS h) Tryd.underlying9 Tryd.underlying56 Tryd.underlying5
  clear hx hp hh
  unfold headV
  go_enter Tryd.func18, Tryd.ntmps18
  go_wp2_with fail
  refine Calls.mono (HEAD.out _) ?_
  rintro e w1 ⟨rfl, hb1⟩
  have B1 : Below w.heap.size w w1 := ((Below.refl w.heap.size w).alloc (Nat.le_refl _) (.cells #[.int .i64 d, .int .i64 s, .int .i64 n] 37)).trans (hb1.mono (by simp))
  clear hb1 HEAD
  go_wp2_with fail
  refine (checkOf_any h (by omega) _).mono ?_
  rintro e w2 ⟨rfl, hb2⟩
  have B2 := B1.trans (hb2.mono B1.size)
  clear hb2 B1
  have HZH : Hid ((h ++ checkS h).size = 10) := zh
  have B3 : Below w.heap.size w (Lib.bytesWorld w2 5 (h ++ checkS h)) := B2.trans ((below_bytes w2 _).mono B2.size)
  have HO3 : Hid (OwnB (Lib.bytesWorld w2 5 (h ++ checkS h)) w.heap.size (.slice (some ⟨w2.heap.size, 0, none⟩) 10 (grownCap w2 10 0 5)) (packTo h ps 0)) := by
    have := OwnB.new w2 w.heap.size (h ++ checkS h) B2.size (by rw [zh]; decide)
    rw [zh] at this
    exact this
  go_wp2
  generalize Lib.bytesWorld w2 5 (h ++ checkS h) = w3 at HO3 B3 ⊢
  generalize grownCap w2 10 0 5 = c3 at HO3 ⊢
  clear B2 hcv
  go_loopw [6, 19] (fun o i wr => ∃ k : Nat, k ≤ ps.length ∧ i = .int .i64 k ∧ OwnB wr w.heap.size o (packTo h ps k) ∧ Below w.heap.size w wr) (fun _ i _ => ps.length - (intOf i).toNat)
  case atStart => exact ⟨0, Nat.zero_le _, rfl, HO3.out, B3⟩
  case round =>
    clear B3 HO3
    obtain ⟨k, hk, rfl, hown, hbel⟩ := hrel
    have hA := packTo_le h ps HP.out k hk
    have hA2 : (packTo h ps k).size ≤ 1000000 := by
      have := Nat.mul_le_mul_right 1005 (Nat.le_trans hk hl); omega
    clear hA
    by_cases hlt : k < ps.length
    · obtain ⟨b, off, rfl, hb, hc⟩ : ∃ b off, ao = some ⟨b, off, none⟩ ∧ b < w.heap.size ∧ ∀ k, (h : k < ps.length) → w.cell? ⟨b, off + k, none⟩ = some (.string ps[k]) := by
        rcases HX.out with h | h
        · rw [h] at hlt; simp at hlt
        · exact h
      have c1 := (hbel.cell (p := ⟨b, off + k, none⟩) hb).trans (hc k hlt)
      have E : Hid (packTo h ps (k + 1) = packTo h ps k ++ frameS h k ps[k]) := by
        show _ = _
        rw [packTo, List.getD_eq_getElem?_getD, List.getElem?_eq_getElem hlt, Option.getD_some]
      have hzx := HP.out k hlt
      generalize ps[k] = x at c1 E hzx
      generalize packTo h ps k = A at hA2 E hown ⊢
      have hki : (k : Int) < (ps.length : Int) := by omega
      have hsz := hbel.size
      have z1 := oneS_size k
      have zx : (oneS k ++ x).size = 1 + x.size := by rw [ByteArray.size_append, z1]
      have z3 : (h ++ (oneS k ++ x)).size = 7 + x.size := by rw [ByteArray.size_append, zx]; omega
      have z2 := checkS_size (h ++ (oneS k ++ x))
      have q3 : ¬ 9223372036854775807 < 1 + x.size := by omega
      have q4 : ¬ 9223372036854775807 < 6 + (1 + x.size) := by omega
      have HOWN : Hid (OwnB wr w.heap.size u6 A) := hown
      have HBEL : Hid (Below w.heap.size w wr) := hbel
      have kb : (k : Int) % 256 = ((k % 256 : Nat) : Int) := by omega
      have HO4 : Hid (OwnB (wr.alloc (.cells #[.int .u8 (k : Int)] 5)) w.heap.size u6 A) := HOWN.out.to ((Below.refl _ _).alloc (Nat.le_refl _) _)
      have hs4 : w.heap.size ≤ (wr.alloc (.cells #[.int .u8 (k : Int)] 5)).heap.size := by simp; omega
      have hsA : A.size + (oneS k ++ x).size ≤ 100000000 := by rw [zx]; omega
      clear hc hown hbel
      go_wp2_with (first | (at_builtin; refine wpList_append_str _ rfl _ _ rfl w.heap.size u6 A (oneS k ++ x) rfl rfl HO4.out hsA hs4 ?_; intro v' w4 ho4 hb4) | refine wpList_convert _ rfl 56 9 _ rfl _ (.string (oneS k)) rfl (conv_str _ _ _ (one_at' _ k (by omega))) ?_)
      have B4 : Below w.heap.size w w4 := hb4 w.heap.size w (HBEL.out.alloc HBEL.out.size _) (Nat.le_refl _)
      refine (checkOf_any (h ++ (oneS k ++ x)) (by omega) _).mono ?_
      rintro e w5 ⟨rfl, hb5⟩
      have HO5 : Hid (OwnB w5 w.heap.size v' (A ++ (oneS k ++ x))) := ho4.to hb5
      have B5 : Below w.heap.size w w5 := B4.trans (hb5.mono B4.size)
      have HB5 : Hid (Below w.heap.size w w5) := B5
      have hs5 := B5.size
      have hsB : (A ++ (oneS k ++ x)).size + (checkS (h ++ (oneS k ++ x))).size ≤ 100000000 := by rw [z2, ByteArray.size_append, zx]; omega
      clear ho4 hb4 hb5 B4 B5 HO4 hs4 hsA
      go_wp2_with (first | (at_builtin; refine wpList_append_str _ rfl _ _ rfl w.heap.size v' (A ++ (oneS k ++ x)) (checkS (h ++ (oneS k ++ x))) rfl rfl HO5.out hsB hs5 ?_; intro v6 w6 ho6 hb6))
      go_roundw
      case rel => exact ⟨k + 1, by omega, by go_num, by rw [E.out]; unfold frameS; simpa only [ByteArray.append_assoc] using ho6, hb6 w.heap.size w HB5.out (Nat.le_refl _)⟩
      case measure => simp [intOf]; omega
    · obtain rfl : k = ps.length := by omega
      have HBS : Hid (BsAt wr u6 (nums (packTo h ps ps.length))) := hown.bs
      go_wp2_with (refine wpList_convert _ rfl 56 9 _ rfl u6 (.string (packTo h ps ps.length)) rfl (by rw [conv_str _ _ _ HBS.out, mkN]) ?_)
      go_ret
      exact ⟨by rw [HH.out]; rfl, hbel⟩
end Go.Proofs.YtokmllopbfmadabDoor.Pk
