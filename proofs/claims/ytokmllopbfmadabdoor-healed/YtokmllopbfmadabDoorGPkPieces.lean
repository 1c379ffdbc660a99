import Derived.Shelf.Strconv.Clone
import Derived.Test.YtokmllopbfmadabDoorGEquation
import Derived.Test.YtokmllopbfmadabDoorGShaped
/- The pieces of a pack as they stand in their frames. -/
namespace Go.Proofs.YtokmllopbfmadabDoor.Pk
open Go.RowKit Mem FieldWalks Tab ByTab Parts Ref
open Gf (Bytes)

/-- The numbers of stringslite.Clone and of its types here. -/
def cren : Go.Shelf.Ren := ⟨fun _ => 46, fun t => if t = 37 then 56 else if t = 3 then 3 else if t = 4 then 4 else if t = 5 then 5 else if t = 9 then 9 else if t = 127 then 100 else 0, fun x => x⟩
theorem clays : LaysM.n316 Tryd.prog cren where
  mixed := by kernel_rfl
  f316 := by kernel_rfl
  t0 := by kernel_rfl
  a0 := fun w => by kernel_rfl
  z0 := fun w => by kernel_rfl
  v0 := fun w => by kernel_rfl
  t3 := by kernel_rfl
  a3 := fun w => by kernel_rfl
  z3 := fun w => by kernel_rfl
  v3 := fun w => by kernel_rfl
  t4 := by kernel_rfl
  a4 := fun w => by kernel_rfl
  z4 := fun w => by kernel_rfl
  v4 := fun w => by kernel_rfl
  t9 := by kernel_rfl
  a9 := fun w => by kernel_rfl
  z9 := fun w => by kernel_rfl
  v9 := fun w => by kernel_rfl
  t37 := by kernel_rfl
  a37 := fun w => by kernel_rfl
  z37 := fun w => by kernel_rfl
  v37 := fun w => by kernel_rfl
  t127 := by kernel_rfl
  a127 := fun w => by kernel_rfl
  z127 := fun w => by kernel_rfl
  v127 := fun w => by kernel_rfl
  t5 := by kernel_rfl
  a5 := fun w => by kernel_rfl
  z5 := fun w => by kernel_rfl
  v5 := fun w => by kernel_rfl
  i0 := by kernel_rfl
  i3 := by kernel_rfl
  i4 := by kernel_rfl
  i5 := by kernel_rfl
  i9 := by kernel_rfl
  i37 := by kernel_rfl
  i127 := by kernel_rfl
set_option maxRecDepth 100000 in
theorem clone_any (s : ByteArray) (hs : s.size ≤ 1000000) (w : World) :
    Calls Tryd.prog 36 #[.string s] w fun e w' => e = .returned (.string s) ∧ Below w.heap.size w w' := by
  have h : Calls Tryd.prog 46 #[.string s] w fun e w' => e = .returned (.string s) ∧ Below w.heap.size w w' := Go.Proofs.Any.stringslite_Clone (ρ := cren) clays s w (by omega)
  have H : Hid _ := h
  clear h
  go_enter Tryd.func36, Tryd.ntmps36
  go_wp2_with fail
  refine Calls.mono H.out ?_
  rintro e w' ⟨rfl, hb⟩
  go_wp2
  go_ret
  exact ⟨rfl, hb⟩
set_option maxRecDepth 100000 in
set_option maxHeartbeats 2000000 in
theorem pieces_any (p : ByteArray) (hp : p.size < 4611686018427387904) (h : headOk p) (hc : cutOk p) (w : World) :
    Calls Tryd.prog 21 #[headV (pD p) (pS p) (pN p), .string p] w fun e w' => ∃ b, w.heap.size ≤ b ∧ e = .returned (.slice (some ⟨b, 0, none⟩) (openPieces p).length (openPieces p).length) ∧ Blk w' b 9 (strV (openPieces p)) ∧ Below w.heap.size w w' := by
  have hD := h.2.2.2.1
  have hN := h.2.2.2.2.1
  have hLs : pL p ≤ 409 := by unfold pL; exact Nat.le_trans (Nat.div_le_self _ _) (by omega)
  obtain ⟨T, hT⟩ : ∃ T, T = pD p + pS p := ⟨_, rfl⟩
  have hT2 : T ≤ 16 := by omega
  have HFA : Hid (∀ k, k < T → ∀ W, Calls Tryd.prog 35 #[.agg #[.int .i64 (pD p), .int .i64 (pS p), .int .i64 (pN p)], .string p, .int .i64 k] W fun e w' => e = .returned (.string (frameAt p k)) ∧ Below W.heap.size W w') := fun k hk W =>
    frameAt_any (pD p) (pS p) (pN p) (pL p) k p (by omega) (by omega) (by omega) rfl (by omega) hp (frame_size hc (by omega)) W
  have HFS : Hid (∀ k, k < T → (frameAt p k).size = pL p + 5) := fun k hk => frameAt_size hc (by omega)
  have HCO : Hid (∀ W, Calls Tryd.prog 33 #[.agg #[.int .i64 (pD p), .int .i64 (pS p), .int .i64 (pN p)]] W fun e w' => e = .returned (.int .i64 (T : Int)) ∧ Below W.heap.size W w') := fun W => by
    rw [hT, Int.natCast_add]
    exact count_any (pD p) (pS p) (pN p) (by omega) (by omega) W
  have HOL : Hid ((openPieces p).length = T) := by show _ = _; rw [hT]; simp [openPieces, piecesTo]
  have HOG : Hid (∀ k, (h : k < (openPieces p).length) → (openPieces p)[k] = (frameAt p k).extract 1 (pL p + 1)) := fun k h => by simp [openPieces, piecesTo, pieceAt]
  have hmk := fun w => make_strN T (by omega) w
  generalize openPieces p = P at HOL HOG ⊢
  generalize pL p = L at HFS HOG hLs
  generalize pD p = D at HFA HCO ⊢
  generalize pS p = S at HFA HCO ⊢
  generalize pN p = N at HFA HCO ⊢
  clear h hc hD hN hT
  unfold headV
  go_enter Tryd.func21, Tryd.ntmps21
  go_wp2_with fail
  refine Calls.mono (HCO.out _) ?_
  rintro e w3 ⟨rfl, hb3⟩
  have kH : Blk w3 w.heap.size 37 [.int .i64 D, .int .i64 S, .int .i64 N] := (Blk.new w #[.int .i64 D, .int .i64 S, .int .i64 N] 37).to hb3
  have kB : Below w.heap.size w w3 := ((Below.refl w.heap.size w).alloc (Nat.le_refl _) (.cells #[.int .i64 D, .int .i64 S, .int .i64 N] 37)).trans (hb3.mono (by simp))
  obtain ⟨H, hHe⟩ : ∃ H, H = w.heap.size := ⟨_, rfl⟩
  have HHE : Hid (H = w.heap.size) := hHe
  rw [← hHe] at kH kB ⊢
  have hHC2 : H < w3.heap.size := kH.lt
  have hHne : H ≠ w3.heap.size := by omega
  clear hb3 HCO hHe
  go_wp2
  go_loopw [13] (fun i wr => ∃ k : Nat, k ≤ T ∧ i = .int .i64 k ∧ Blk wr w3.heap.size 9 (strV (mix P (List.replicate T ByteArray.empty) k)) ∧ Blk wr H 37 [.int .i64 D, .int .i64 S, .int .i64 N] ∧ Below H w wr) (fun i _ => T - (intOf i).toNat)
  case atStart =>
    refine ⟨0, Nat.zero_le _, rfl, (Blk.new w3 _ _).eq ?_, kH.alloc _, kB.alloc (Nat.le_of_lt hHC2) _⟩
    rw [toList_madeCells_one, mix_zero]; simp [strV]
  case round =>
    clear kH kB
    obtain ⟨k, hk, rfl, hblk, hH, hbel⟩ := hrel
    by_cases hlt : k < T
    · have hl1 : k < (strV (mix P (List.replicate T ByteArray.empty) k)).length := by simp [strV, mix_length, HOL.out]; omega
      have HB : Hid (Blk wr w3.heap.size 9 (strV (mix P (List.replicate T ByteArray.empty) k))) := hblk
      have HHH : Hid (Blk wr H 37 [.int .i64 D, .int .i64 S, .int .i64 N]) := hH
      have HBEL : Hid (Below H w wr) := hbel
      have c0 := hH.cell_some (k := 0) rfl
      have c1 := hH.cell_some (k := 1) rfl
      have c2 := hH.cell_some (k := 2) rfl
      have HL1 : Hid (k < (strV (mix P (List.replicate T ByteArray.empty) k)).length) := hl1
      have hHw := hH.lt
      have hBw := hblk.lt
      clear hblk hH hbel hl1
      go_wp2_with fail
      refine Calls.mono (HFA.out k hlt _) ?_
      rintro e w4 ⟨rfl, hb4⟩
      have hfs := HFS.out k hlt
      have HOK : Hid (P[k]'(by rw [HOL.out]; exact hlt) = (frameAt p k).extract 1 (L + 1)) := HOG.out k _
      generalize frameAt p k = f at hfs HOK ⊢
      have eL : (f.size : Int) - 4 = ((L + 1 : Nat) : Int) := by omega
      have sl := fun W => slice_str f 1 (L + 1) (by omega) (by omega) 1 ((L + 1 : Nat) : Int) rfl rfl W
      have hcz : (f.extract 1 (L + 1)).size ≤ 1000000 := by rw [ByteArray.size_extract]; omega
      have HCL : Hid _ := clone_any (f.extract 1 (L + 1)) hcz
      have HB4 : Hid (Below wr.heap.size wr w4) := hb4
      clear hb4 c0 c1 c2
      go_wp2_with fail
      refine Calls.mono (HCL.out _) ?_
      rintro e w5 ⟨rfl, hb5⟩
      have B5 : Below wr.heap.size wr w5 := HB4.out.trans (hb5.mono HB4.out.size)
      have HB5 : Hid (Blk w5 w3.heap.size 9 (strV (mix P (List.replicate T ByteArray.empty) k))) := HB.out.to B5
      have HH5 : Hid (Blk w5 H 37 [.int .i64 D, .int .i64 S, .int .i64 N]) := HHH.out.to B5
      have HBE5 : Hid (Below H w w5) := HBEL.out.trans (B5.mono (Nat.le_of_lt hHw))
      have hc1 := HB5.out.cell_some (List.getElem?_eq_getElem HL1.out)
      have hf1 := HB5.out.free k
      generalize (strV (mix P (List.replicate T ByteArray.empty) k))[k] = old at hc1
      clear B5 hb5
      go_wp2
      go_roundw
      case rel =>
        refine ⟨k + 1, by omega, by go_num, ?_, HH5.out.other hHne _, HBE5.out.setCell (Nat.le_of_lt hHC2) _⟩
        refine ((HB5.out.set k _)).eq ?_
        have e := strs_step P T k HOL.out (by omega)
        rw [← e, HOK.out]
      case measure => simp [intOf]; omega
    · obtain rfl : k = T := by omega
      go_wp2
      go_ret
      refine ⟨w3.heap.size, by rw [← HHE.out]; exact Nat.le_of_lt hHC2, by rw [HOL.out]; rfl, hblk.eq ?_, by rw [← HHE.out]; exact hbel⟩
      have e := mix_all (new := P) (old := List.replicate k ByteArray.empty) (by simp [HOL.out])
      simp only [List.length_replicate] at e
      rw [e]
end Go.Proofs.YtokmllopbfmadabDoor.Pk

/- The equations in memory, and what a round of solving makes of them. -/
namespace Go.Proofs.YtokmllopbfmadabDoor.Ref
open Go.RowKit Mem FieldWalks Tab ByTab Parts
open Gf (Bytes sumTo addTo rowOf dot Gauss outOf)
open Plans (But intsV infoInt rowF rowF_length)

/-- An equation: how much of each unknown; what it comes to at each place. -/
abbrev Eqn := List Nat × List Nat
section
variable {X B : Nat} {w w' : World} {R : List Eqn}
end

def Fof (R : List Eqn) (q k : Nat) : Nat := (R.getD q ([], [])).1.getD k 0
def Vof (R : List Eqn) (q t : Nat) : Nat := (R.getD q ([], [])).2.getD t 0
/-- They have their lengths, and are bytes. -/
structure Neat (d L : Nat) (R : List Eqn) : Prop where
  len : R.length = d
  lf : ∀ r, (h : r < R.length) → R[r].1.length = d
  lv : ∀ r, (h : r < R.length) → R[r].2.length = L
  bf : ∀ r, (h : r < R.length) → Bytes R[r].1
  bv : ∀ r, (h : r < R.length) → Bytes R[r].2
theorem Fof_eq {R : List Eqn} {q k : Nat} (h : q < R.length) : Fof R q k = R[q].1.getD k 0 := by simp [Fof, h]
theorem Vof_eq {R : List Eqn} {q k : Nat} (h : q < R.length) : Vof R q k = R[q].2.getD k 0 := by simp [Vof, h]
/-- Row i, less so much of row r. -/
def lessOf (m : Nat) (a b : Eqn) : Eqn := (addTo m a.1 b.1, addTo m a.2 b.2)
theorem addTo_getD (m : Nat) (a b : List Nat) (h : a.length = b.length) (k : Nat) (hk : k < a.length) : (addTo m a b).getD k 0 = a.getD k 0 ^^^ Gf.times m (b.getD k 0) := by
  have h1 : k < (addTo m a b).length := by rw [Gf.addTo_length h.symm]; exact hk
  have h2 : k < b.length := by omega
  simp only [List.getD_eq_getElem?_getD, List.getElem?_eq_getElem h1, List.getElem?_eq_getElem hk, List.getElem?_eq_getElem h2, Option.getD_some]
  simp [addTo]
theorem addTo_zero (b : List Nat) : ∀ a : List Nat, a.length = b.length → Bytes b → addTo 0 a b = a := by
  induction b with
  | nil => intro a h _; cases a with | nil => rfl | cons _ _ => simp at h
  | cons y b ih =>
    intro a h hb
    cases a with
    | nil => simp at h
    | cons x a =>
      have := ih a (by simpa using h) fun z hz => hb z (by simp [hz])
      unfold addTo at this ⊢
      rw [List.zipWith_cons_cons, this, Gf.zero_times y (hb y (by simp)), Nat.xor_zero]
/-- Behind q rows of taking unknown j out by row r. -/
def tookTo (R : List Eqn) (j r by_ q : Nat) : List Eqn := (List.range R.length).map fun i => if i < q ∧ i ≠ r then lessOf (Gf.times (Fof R i j) by_) (R.getD i ([], [])) (R.getD r ([], [])) else R.getD i ([], [])
theorem tookTo_length (R : List Eqn) (j r by_ q : Nat) : (tookTo R j r by_ q).length = R.length := by simp [tookTo]
theorem tookTo_zero (R : List Eqn) (j r by_ : Nat) : tookTo R j r by_ 0 = R := by
  apply List.ext_getElem
  · simp [tookTo]
  · intro i h1 h2; simp [tookTo, h2]
theorem tookTo_at {R : List Eqn} {j r by_ q i : Nat} (h : i < (tookTo R j r by_ q).length) : (tookTo R j r by_ q)[i] = if i < q ∧ i ≠ r then lessOf (Gf.times (Fof R i j) by_) (R.getD i ([], [])) (R.getD r ([], [])) else R.getD i ([], []) := by simp [tookTo]
theorem tookTo_same {R : List Eqn} {j r by_ q : Nat} (h : q = r) : tookTo R j r by_ (q + 1) = tookTo R j r by_ q := by
  apply List.ext_getElem
  · simp [tookTo]
  · intro i h1 h2
    rw [tookTo_at, tookTo_at]
    by_cases e : i = q
    · rw [if_neg (by omega), if_neg (by omega)]
    · by_cases e2 : i < q ∧ i ≠ r
      · rw [if_pos (by omega), if_pos e2]
      · rw [if_neg (by omega), if_neg e2]
theorem tookTo_set {R : List Eqn} {j r by_ q : Nat} (h : q ≠ r) : (tookTo R j r by_ q).set q (lessOf (Gf.times (Fof R q j) by_) (R.getD q ([], [])) (R.getD r ([], []))) = tookTo R j r by_ (q + 1) := by
  apply List.ext_getElem
  · simp [tookTo]
  · intro i h1 h2
    rw [List.getElem_set]
    by_cases e : q = i
    · subst e; rw [if_pos rfl, tookTo_at, if_pos (by omega)]
    · rw [if_neg e, tookTo_at, tookTo_at]
      by_cases e2 : i < q ∧ i ≠ r
      · rw [if_pos e2, if_pos (by omega)]
      · rw [if_neg e2, if_neg (by omega)]
theorem lessOf_zero {d L : Nat} {R : List Eqn} (h : Neat d L R) {q r : Nat} (hq : q < R.length) (hr : r < R.length) : lessOf 0 R[q] R[r] = R[q] := by
  unfold lessOf
  rw [addTo_zero _ _ (by rw [h.lf q hq, h.lf r hr]) (h.bf r hr), addTo_zero _ _ (by rw [h.lv q hq, h.lv r hr]) (h.bv r hr)]
theorem tookTo_none {d L : Nat} {R : List Eqn} {j r by_ q : Nat} (hN : Neat d L R) (hq : q < R.length) (hr : r < R.length) (hb : by_ < 256) (h : Fof R q j = 0) : tookTo R j r by_ (q + 1) = tookTo R j r by_ q := by
  by_cases e : q = r
  · exact tookTo_same e
  · rw [← tookTo_set e, h, Gf.zero_times by_ hb]
    have e1 : R.getD q ([], []) = R[q] := by simp [hq]
    have e2 : R.getD r ([], []) = R[r] := by simp [hr]
    rw [e1, e2, lessOf_zero hN hq hr]
    apply List.ext_getElem
    · simp
    · intro i h1 h2
      rw [List.getElem_set]
      by_cases e3 : q = i
      · subst e3; rw [if_pos rfl, tookTo_at, if_neg (by omega), e1]
      · rw [if_neg e3]
theorem tookTo_neat {d L : Nat} {R : List Eqn} {j r by_ q : Nat} (hN : Neat d L R) (hr : r < R.length) : Neat d L (tookTo R j r by_ q) := by
  have key : ∀ i, (h : i < (tookTo R j r by_ q).length) → (tookTo R j r by_ q)[i].1.length = d ∧ (tookTo R j r by_ q)[i].2.length = L ∧ Bytes (tookTo R j r by_ q)[i].1 ∧ Bytes (tookTo R j r by_ q)[i].2 := by
    intro i h
    have hi : i < R.length := by simpa [tookTo_length] using h
    rw [tookTo_at]
    have e1 : R.getD i ([], []) = R[i] := by simp [hi]
    have e2 : R.getD r ([], []) = R[r] := by simp [hr]
    rw [e1, e2]
    have hm : Gf.times (Fof R i j) by_ < 256 := by
      refine Gf.times_lt _ _ ?_
      rw [Fof_eq hi]; exact (hN.bf i hi).getD j
    split
    · refine ⟨?_, ?_, ?_, ?_⟩
      · show (addTo _ _ _).length = d
        rw [Gf.addTo_length (by rw [hN.lf i hi, hN.lf r hr]), hN.lf i hi]
      · show (addTo _ _ _).length = L
        rw [Gf.addTo_length (by rw [hN.lv i hi, hN.lv r hr]), hN.lv i hi]
      · exact Gf.addTo_bytes hm (hN.bf i hi)
      · exact Gf.addTo_bytes hm (hN.bv i hi)
    · exact ⟨hN.lf i hi, hN.lv i hi, hN.bf i hi, hN.bv i hi⟩
  exact ⟨by rw [tookTo_length]; exact hN.len, fun r h => (key r h).1, fun r h => (key r h).2.1, fun r h => (key r h).2.2.1, fun r h => (key r h).2.2.2⟩
theorem tookTo_F {d L : Nat} {R : List Eqn} {j r by_ : Nat} (hN : Neat d L R) (hr : r < d) (q : Nat) (hq : q < d) (k : Nat) (hk : k < d) : Fof (tookTo R j r by_ d) q k = outOf (Fof R) j r by_ (Fof R) q k := by
  have hl := hN.len
  have hq' : q < R.length := by omega
  have hr' : r < R.length := by omega
  rw [Fof_eq (by rw [tookTo_length]; omega), tookTo_at]
  have e1 : R.getD q ([], []) = R[q] := by simp [hq']
  have e2 : R.getD r ([], []) = R[r] := by simp [hr']
  have hm : Gf.times (Fof R q j) by_ < 256 := by
    refine Gf.times_lt _ _ ?_
    rw [Fof_eq hq']; exact (hN.bf q hq').getD j
  unfold outOf
  by_cases e : q = r
  · rw [if_neg (by omega), if_pos e, e1, Fof_eq hq']
  · rw [if_pos (by omega), if_neg e, e1, e2]
    show (addTo _ _ _).getD k 0 = _
    rw [addTo_getD _ _ _ (by rw [hN.lf q hq', hN.lf r hr']) k (by rw [hN.lf q hq']; exact hk), Fof_eq (R := R) (k := k) hq', Fof_eq (R := R) (k := k) hr']
theorem tookTo_V {d L : Nat} {R : List Eqn} {j r by_ : Nat} (hN : Neat d L R) (hr : r < d) (q : Nat) (hq : q < d) (t : Nat) (ht : t < L) : Vof (tookTo R j r by_ d) q t = if q = r then Vof R q t else Vof R q t ^^^ Gf.times (Gf.times (Fof R q j) by_) (Vof R r t) := by
  have hl := hN.len
  have hq' : q < R.length := by omega
  have hr' : r < R.length := by omega
  rw [Vof_eq (by rw [tookTo_length]; omega), tookTo_at]
  have e1 : R.getD q ([], []) = R[q] := by simp [hq']
  have e2 : R.getD r ([], []) = R[r] := by simp [hr']
  have hm : Gf.times (Fof R q j) by_ < 256 := by
    refine Gf.times_lt _ _ ?_
    rw [Fof_eq hq']; exact (hN.bf q hq').getD j
  by_cases e : q = r
  · rw [if_neg (by omega), if_pos e, e1, Vof_eq hq']
  · rw [if_pos (by omega), if_neg e, e1, e2]
    show (addTo _ _ _).getD t 0 = _
    rw [addTo_getD _ _ _ (by rw [hN.lv q hq', hN.lv r hr']) t (by rw [hN.lv q hq']; exact ht), Vof_eq (R := R) (k := t) hq', Vof_eq (R := R) (k := t) hr']

/-- How far the solving is: the unknowns below j are done; what solves these equations solves those at the start. -/
structure Far (d L j : Nat) (R0 R : List Eqn) (Wl : List Nat) (Ul : List Bool) : Prop where
  neat : Neat d L R
  wlen : Wl.length = d
  ulen : Ul.length = d
  gauss : Gauss d j (Fof R) (fun i => Wl.getD i 0) (fun r => Ul.getD r false)
  back : ∀ t, t < L → ∀ x : Nat → Nat, (∀ k, k < d → x k < 256) → (∀ q, q < d → dot d (Fof R q) x = Vof R q t) → ∀ q, q < d → dot d (Fof R0 q) x = Vof R0 q t
theorem Gauss_congr {d j : Nat} {F G : Nat → Nat → Nat} {W : Nat → Nat} {U : Nat → Bool} (h : Gauss d j F W U) (hj : j ≤ d) (e : ∀ q, q < d → ∀ k, k < d → G q k = F q k) : Gauss d j G W U := by
  refine ⟨fun r hr k hk => by rw [e r hr k hk]; exact h.byte r hr k hk, h.wlt, h.inj, fun i hi => by rw [e _ (h.wlt i hi) i (by omega)]; exact h.one i hi, fun i hi r hr hn => by rw [e r hr i (by omega)]; exact h.zero i hi r hr hn, h.used, fun x hx hd => h.ker x hx fun r hr => ?_⟩
  rw [← hd r hr]
  exact Gf.dot_congr (fun k hk => (e r hr k hk).symm) fun _ _ => rfl
theorem Far.next {d L j r : Nat} {R0 R : List Eqn} {Wl : List Nat} {Ul : List Bool} (h : Far d L j R0 R Wl Ul) (hj : j < d) (hr : r < d) (hu : Ul.getD r false = false) (hf : Fof R r j ≠ 0) :
    Far d L (j + 1) R0 (tookTo R j r (Gf.inv (Fof R r j)) d) (Wl.set j r) (Ul.set r true) := by
  have hw := h.wlen
  have hul := h.ulen
  have hrl : r < R.length := by rw [h.neat.len]; exact hr
  have hb : Gf.inv (Fof R r j) < 256 := Gf.inv_lt _ (h.gauss.byte r hr j hj)
  refine ⟨tookTo_neat h.neat hrl, by simpa using h.wlen, by simpa using h.ulen, ?_, fun t ht x hx hq => ?_⟩
  · refine Gauss_congr (h.gauss.next (W' := fun i => (Wl.set j r).getD i 0) (U' := fun q => (Ul.set r true).getD q false) hj hr hu hf (fun i hi => ?_) ?_ (fun q hq => ?_)) (by omega) (tookTo_F h.neat hr)
    · simp [List.getElem?_set_ne (show j ≠ i by omega)]
    · simp [show j < Wl.length by omega]
    · by_cases e : r = q
      · subst e; simp [show r < Ul.length by omega]
      · simp [List.getElem?_set_ne e, Ne.symm e]
  · refine h.back t ht x hx (Gf.outOf_back (by_ := Gf.inv (Fof R r j)) (V := fun q => Vof R q t) hj hr h.gauss.byte x hx fun q hq' => ?_)
    rw [← tookTo_V h.neat hr q hq' t ht, ← hq q hq']
    exact Gf.dot_congr (fun k hk => (tookTo_F h.neat hr q hq' k hk).symm) fun _ _ => rfl
/-- What is told in the end. -/
def solvedOf (d L : Nat) (R : List Eqn) (Wl : List Nat) : List (List Nat) := (List.range d).map fun j => (List.range L).map fun t => Gf.times (Vof R (Wl.getD j 0) t) (Gf.inv (Fof R (Wl.getD j 0) j))
theorem solved_fits {d L : Nat} {R0 R : List Eqn} {Wl : List Nat} {Ul : List Bool} (h : Far d L d R0 R Wl Ul) (q : Nat) (hq : q < d) (t : Nat) (ht : t < L) : dot d (Fof R0 q) (Gf.colOf (solvedOf d L R Wl) t) = Vof R0 q t := by
  have hV : ∀ q, q < d → Vof R q t < 256 := fun q hq => by
    have : q < R.length := by rw [h.neat.len]; exact hq
    rw [Vof_eq this]; exact (h.neat.bv q this).getD t
  have hc : ∀ k, k < d → Gf.colOf (solvedOf d L R Wl) t k = Gf.times (Vof R (Wl.getD k 0) t) (Gf.inv (Fof R (Wl.getD k 0) k)) := fun k hk => by simp [Gf.colOf, solvedOf, hk, ht]
  refine h.back t ht _ (fun k hk => ?_) (fun q hq => ?_) q hq
  · rw [hc k hk]; exact Gf.times_lt _ _ (hV _ (h.gauss.wlt k hk))
  · rw [← h.gauss.done (fun q => Vof R q t) hV q hq]
    exact Gf.dot_congr (fun _ _ => rfl) hc
theorem Far.start {d L : Nat} {R0 : List Eqn} (hN : Neat d L R0) (ker : ∀ x : Nat → Nat, (∀ k, x k < 256) → (∀ r, r < d → dot d (Fof R0 r) x = 0) → ∀ k, k < d → x k = 0) : Far d L 0 R0 R0 (List.replicate d 0) (List.replicate d false) := by
  refine ⟨hN, by simp, by simp, ⟨fun r hr k hk => ?_, fun i hi => by omega, fun i hi => by omega, fun i hi => by omega, fun i hi => by omega, fun r hr => ?_, ker⟩, fun t ht x hx h => h⟩
  · have : r < R0.length := by rw [hN.len]; exact hr
    rw [Fof_eq this]; exact (hN.bf r this).getD k
  · constructor
    · intro h; simp [hr] at h
    · rintro ⟨i, hi, _⟩; omega
end Go.Proofs.YtokmllopbfmadabDoor.Ref

namespace Go.Proofs.YtokmllopbfmadabDoor.Ref
open Go.RowKit Mem FieldWalks Tab ByTab Parts
open Gf (Bytes)

/-- The data rows while they are being filled: the first j are whole. -/
def DataF (w : World) (D d L j : Nat) (f : Nat → List Nat) : Prop :=
  ∃ us : List Value, us.length = d ∧ Blk w D 56 us ∧ (∀ k, k < j → ∃ u, us[k]? = some u ∧ w.ownsRow 0 5 1 u L (bytesV (f k))) ∧ ∀ k, j ≤ k → k < d → us[k]? = some (.slice none 0 0)
theorem DataF.start (w : World) (d L : Nat) (f : Nat → List Nat) : DataF (w.alloc (.cells (madeCells #[.slice none 0 0] d) 56)) w.heap.size d L 0 f := by
  refine ⟨List.replicate d (.slice none 0 0), by simp, (Blk.new w _ _).eq (toList_madeCells_one _ d), fun k hk => by omega, fun k _ hk => by simp [hk]⟩
theorem DataF.rows {w : World} {D d L : Nat} {f : Nat → List Nat} (h : DataF w D d L d f) (hf : ∀ k, k < d → (f k).length = L) : RowsAt w (.slice (some ⟨D, 0, none⟩) d d) ((List.range d).map f) := by
  obtain ⟨us, hl, hB, hfs, _⟩ := h
  refine ⟨_, d, by rw [show ((List.range d).map f).length = d by simp], .inr ⟨D, 0, rfl, hB.lt, fun k hk => ?_⟩⟩
  simp only [List.length_map, List.length_range] at hk
  obtain ⟨u, hu, ho⟩ := hfs k hk
  refine ⟨u, by rw [Nat.zero_add]; exact hB.cell_some hu, ?_⟩
  have e : ((List.range d).map f)[k]'(by simpa using hk) = f k := by simp
  rw [e]
  refine BsAt.of_owns (base := 0) (t := 5) ?_
  rw [hf k hk]
  exact ho
theorem DataF.laid {w W : World} {D d L j : Nat} {f : Nat → List Nat} {v : Value} (h : DataF w D d L j f) (hj : j < d) (hl : Laid w W D j v) (ho : W.ownsRow 0 5 1 v L (bytesV (f j))) : DataF W D d L (j + 1) f := by
  obtain ⟨us, hlen, hB, hf, hn⟩ := h
  refine ⟨us.set j v, by simpa using hlen, hl.row.trans (hB.set j v), fun k hk => ?_, fun k h1 h2 => ?_⟩
  · by_cases e : k = j
    · subst e; exact ⟨v, by simp [show k < us.length by omega], ho⟩
    · obtain ⟨u, hu, hou⟩ := hf k (by omega)
      exact ⟨u, by rw [List.getElem?_set_ne (by omega)]; exact hu, ownsRow_laid hou hl hB (by decide)⟩
  · rw [List.getElem?_set_ne (by omega)]; exact hn k (by omega) h2
theorem DataF.first {w : World} {D d L j : Nat} {f : Nat → List Nat} (h : DataF w D d L j f) (hj : j < d) : Laid w w D j (.slice none 0 0) := by
  obtain ⟨us, hlen, hB, hf, hn⟩ := h
  refine ⟨Nat.le_refl _, fun _ _ _ => rfl, ?_⟩
  have := hn j (Nat.le_refl _) hj
  have e : us.set j (.slice none 0 0) = us := by
    apply List.ext_getElem?
    intro k
    by_cases hk : k = j
    · subst hk; rw [this]; simp [show k < us.length by omega]
    · rw [List.getElem?_set_ne (by omega)]
  have := hB.set j (.slice none 0 0)
  rw [e] at this
  exact hB.trans this.symm
theorem DataF.blk {w : World} {D d L j : Nat} {f : Nat → List Nat} (h : DataF w D d L j f) : ∃ us : List Value, us.length = d ∧ Blk w D 56 us := by
  obtain ⟨us, hlen, hB, _⟩ := h; exact ⟨us, hlen, hB⟩
theorem DataF.to {w w' : World} {D d L j : Nat} {f : Nat → List Nat} (h : DataF w D d L j f) (hb : Below w.heap.size w w') : DataF w' D d L j f := by
  obtain ⟨us, hlen, hB, hf, hn⟩ := h
  refine ⟨us, hlen, hB.to hb, fun k hk => ?_, hn⟩
  obtain ⟨u, hu, ho⟩ := hf k hk
  exact ⟨u, hu, ownsRow_to ho hb⟩
/-- The first t bytes of a row. -/
def firstV (l : List Nat) (t : Nat) : List Value := (bytesV l).take t
theorem firstV_next (l : List Nat) (t : Nat) (ht : t < l.length) : firstV l t ++ [.int .u8 (l[t] : Nat)] = firstV l (t + 1) := by
  have hlen : t < (bytesV l).length := by simpa using ht
  unfold firstV
  rw [List.take_add_one, List.getElem?_eq_getElem hlen, bytesV_getElem]
  rfl
theorem firstV_all (l : List Nat) : firstV l l.length = bytesV l := List.take_of_length_le (by simp)
theorem owns_zero {w : World} {base n : Nat} {e : TypeId} {v : Value} {xs : List Value} (h : w.ownsRow base e 1 v n xs) : w.ownsRow 0 e 1 v n xs := by
  obtain ⟨h1, h2⟩ := h
  refine ⟨h1, ?_⟩
  rcases h2 with h2 | ⟨g, cap, cur, hv, hg, r⟩
  · exact Or.inl h2
  · exact Or.inr ⟨g, cap, cur, hv, Nat.zero_le _, r⟩
end Go.Proofs.YtokmllopbfmadabDoor.Ref
