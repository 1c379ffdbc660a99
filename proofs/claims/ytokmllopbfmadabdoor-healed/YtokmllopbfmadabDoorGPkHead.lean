import Derived.Deep.RegionHeld3
import Derived.Test.YtokmllopbfmadabDoorGPackMath
import Derived.Test.YtokmllopbfmadabDoorGEqMem
import Derived.Test.YtokmllopbfmadabDoorGChecks
import Derived.Test.YtokmllopbfmadabDoorGShaped
/- A pack's head and frames, as the program reckons them. -/
namespace Go.Proofs.YtokmllopbfmadabDoor.Pk
open Go.RowKit Mem FieldWalks Tab ByTab Parts Ref
open Gf (Bytes)

/-- A head as a value. -/
def headV (d s n : Nat) : Value := .agg #[.int .i64 d, .int .i64 s, .int .i64 n]
theorem six_at (w : World) (o : Obj) (d s n : Nat) : BsAt ((w.alloc o).alloc (.cells #[.int .u8 119, .int .u8 1, .int .u8 ((d : Int) % 256), .int .u8 ((s : Int) % 256), .int .u8 ((n : Int) / 256 % 256), .int .u8 ((n : Int) % 256)] 5)) (.slice (some ⟨w.heap.size + 1, 0, none⟩) 6 6) [119, 1, d % 256, s % 256, n / 256 % 256, n % 256] := by
  refine BsAt.of_blk ((Blk.new1 w o _ 5).eq ?_) 6 6 rfl
  simp only [bytesV, List.map_cons, List.map_nil]
  congr 1
theorem slice_str (s : ByteArray) (lo hi : Nat) (h1 : lo ≤ hi) (h2 : hi ≤ s.size) (x y : Int) (hx : x = lo) (hy : y = hi) (w : World) :
    (Instr.slice 9 (.string s) (some (.int .i64 x)) (some (.int .i64 y)) none).run Tryd.prog w = .ok (.string (s.extract lo hi)) w := by
  subst hx; subst hy
  simp [Instr.slice, run_underlying Tryd.underlying9, Instr.sliceBounds, go_sem, h1, h2]
theorem slice_str_from (s : ByteArray) (lo : Nat) (h1 : lo ≤ s.size) (x : Int) (hx : x = lo) (w : World) :
    (Instr.slice 9 (.string s) (some (.int .i64 x)) none none).run Tryd.prog w = .ok (.string (s.extract lo s.size)) w := by
  subst hx
  simp [Instr.slice, run_underlying Tryd.underlying9, Instr.sliceBounds, go_sem, h1]
theorem slice_str_to (s : ByteArray) (hi : Nat) (h1 : hi ≤ s.size) (x : Int) (hx : x = hi) (w : World) :
    (Instr.slice 9 (.string s) none (some (.int .i64 x)) none).run Tryd.prog w = .ok (.string (s.extract 0 hi)) w := by
  subst hx
  simp [Instr.slice, run_underlying Tryd.underlying9, Instr.sliceBounds, go_sem, h1]
set_option maxRecDepth 100000 in
set_option maxHeartbeats 1000000 in
theorem bareHead_any (d s n : Nat) (w : World) :
    Calls Tryd.prog 28 #[headV d s n] w fun e w' => e = .returned (.string (headS d s n)) ∧ Below w.heap.size w w' := by
  unfold headV
  go_enter Tryd.func28, Tryd.ntmps28
  go_wp2_with (refine wpList_convert _ rfl 56 9 _ rfl _ (.string (headS d s n)) rfl (conv_str _ _ _ (six_at _ _ d s n)) ?_)
  go_ret
  exact ⟨rfl, ((Below.refl _ _).alloc (Nat.le_refl _) _).alloc (by simp) _⟩
set_option maxRecDepth 100000 in
set_option maxHeartbeats 1000000 in
theorem count_any (d s n : Nat) (hd : d ≤ 1000) (hs : s ≤ 1000) (w : World) :
    Calls Tryd.prog 33 #[headV d s n] w fun e w' => e = .returned (.int .i64 ((d : Int) + (s : Int))) ∧ Below w.heap.size w w' := by
  unfold headV
  go_enter Tryd.func33, Tryd.ntmps33
  go_wp2
  go_ret
  exact ⟨rfl, (Below.refl _ _).alloc (Nat.le_refl _) _⟩
set_option maxRecDepth 100000 in
set_option maxHeartbeats 1000000 in
theorem frameSize_any (d s n L : Nat) (hd : 1 ≤ d) (hd2 : d ≤ 100) (hn : n ≤ 1000) (hL : L = (n + d - 1) / d) (w : World) :
    Calls Tryd.prog 45 #[headV d s n] w fun e w' => e = .returned (.int .i64 ((L : Int) + 5)) ∧ Below w.heap.size w w' := by
  have hLs : L ≤ 1100 := by rw [hL]; exact Nat.le_trans (Nat.div_le_self _ _) (by omega)
  have HL := length_any d n (by omega) hd2 hn (w.alloc (.cells #[.int .i64 d, .int .i64 s, .int .i64 n] 37))
  rw [← hL] at HL
  have HLH : Hid _ := HL
  clear HL hL
  have e5 : 1 + (L : Int) + 4 = (L : Int) + 5 := by omega
  unfold headV
  go_enter Tryd.func45, Tryd.ntmps45
  go_wp2_with fail
  refine Calls.mono HLH.out ?_
  rintro e w' ⟨rfl, rfl⟩
  go_wp2
  go_ret
  exact ⟨by first | rfl | (show Ending.returned (.int .i64 (1 + (L : Int) + 4)) = _; rw [e5]), (Below.refl _ _).alloc (Nat.le_refl _) _⟩
set_option maxRecDepth 100000 in
set_option maxHeartbeats 1000000 in
theorem frameAt_any (d s n L k : Nat) (p : ByteArray) (hd : 1 ≤ d) (hd2 : d ≤ 100) (hn : n ≤ 1000) (hL : L = (n + d - 1) / d) (hk : k ≤ 1000) (hps : p.size < 4611686018427387904) (hp : 10 + (k + 1) * (L + 5) ≤ p.size) (w : World) :
    Calls Tryd.prog 35 #[headV d s n, .string p, .int .i64 k] w fun e w' => e = .returned (.string (p.extract (10 + k * (L + 5)) (10 + (k + 1) * (L + 5)))) ∧ Below w.heap.size w w' := by
  have hLs : L ≤ 1100 := by rw [hL]; exact Nat.le_trans (Nat.div_le_self _ _) (by omega)
  have HF : Hid (∀ W : World, Calls Tryd.prog 45 #[.agg #[.int .i64 d, .int .i64 s, .int .i64 n]] W fun e w' => e = .returned (.int .i64 ((L : Int) + 5)) ∧ Below W.heap.size W w') := fun W => frameSize_any d s n L hd hd2 hn hL W
  obtain ⟨A, hA⟩ : ∃ A, A = k * (L + 5) := ⟨_, rfl⟩
  have hA1 : A ≤ 1000 * 1105 := by rw [hA]; exact Nat.mul_le_mul hk (by omega)
  have hA2 : 10 + (k + 1) * (L + 5) = 10 + A + (L + 5) := by rw [hA, Nat.add_mul]; omega
  have eA : (k : Int) * ((L : Int) + 5) = (A : Int) := by rw [hA]; simp only [Int.natCast_add, Int.natCast_mul]; rfl
  rw [hA2] at hp ⊢
  rw [← hA]
  clear hA hA2 hL
  unfold headV
  go_enter Tryd.func35, Tryd.ntmps35
  go_wp2_with fail
  refine Calls.mono (HF.out _) ?_
  rintro e w1 ⟨rfl, hb1⟩
  have hb01 : Below w.heap.size w w1 := ((Below.refl _ _).alloc (Nat.le_refl _) _).trans (hb1.mono (by simp))
  have hc := fun k => (hb1.cell (p := ⟨w.heap.size, k, none⟩) (by simp)).trans ((Blk.new w _ 37).cell k)
  have c0 := (hc 0).trans (show _ = some (Value.int .i64 d) from rfl)
  have c1 := (hc 1).trans (show _ = some (Value.int .i64 s) from rfl)
  have c2 := (hc 2).trans (show _ = some (Value.int .i64 n) from rfl)
  clear hc hb1
  go_wp2_with fail
  refine Calls.mono (HF.out _) ?_
  rintro e w2 ⟨rfl, hb2⟩
  have hb02 := hb01.trans (hb2.mono hb01.size)
  have hsl := slice_str p (10 + A) (10 + A + (L + 5)) (by omega) hp (10 + (A : Int)) (10 + (A : Int) + ((L : Int) + 5)) (by omega) (by omega) w2
  go_wp2
  go_ret
  exact ⟨rfl, hb02⟩
set_option maxRecDepth 100000 in
set_option maxHeartbeats 1000000 in
theorem pSize_any (d s n L : Nat) (hd : 1 ≤ d) (hd2 : d ≤ 100) (hs : s ≤ 100) (hn : n ≤ 1000) (hL : L = (n + d - 1) / d) (w : World) :
    Calls Tryd.prog 32 #[headV d s n] w fun e w' => e = .returned (.int .i64 ((10 + (d + s) * (L + 5) : Nat) : Int)) ∧ Below w.heap.size w w' := by
  have hLs : L ≤ 1100 := by rw [hL]; exact Nat.le_trans (Nat.div_le_self _ _) (by omega)
  have HF : Hid (∀ W : World, Calls Tryd.prog 45 #[.agg #[.int .i64 d, .int .i64 s, .int .i64 n]] W fun e w' => e = .returned (.int .i64 ((L : Int) + 5)) ∧ Below W.heap.size W w') := fun W => frameSize_any d s n L hd hd2 hn hL W
  have HC : Hid (∀ W : World, Calls Tryd.prog 33 #[.agg #[.int .i64 d, .int .i64 s, .int .i64 n]] W fun e w' => e = .returned (.int .i64 ((d : Int) + (s : Int))) ∧ Below W.heap.size W w') := fun W => count_any d s n (by omega) (by omega) W
  obtain ⟨M, hM⟩ : ∃ M, M = (d + s) * (L + 5) := ⟨_, rfl⟩
  have hM2 : M ≤ 200 * 1105 := by rw [hM]; exact Nat.mul_le_mul (by omega) (by omega)
  have eM : ((d : Int) + (s : Int)) * ((L : Int) + 5) = (M : Int) := by rw [hM]; simp only [Int.natCast_add, Int.natCast_mul]; rfl
  rw [← hM]
  clear hM hL
  obtain ⟨w1, hw1⟩ : ∃ w1, w1 = w.alloc (.cells #[.int .i64 d, .int .i64 s, .int .i64 n] 37) := ⟨_, rfl⟩
  have hb1 : Below w.heap.size w w1 := by rw [hw1]; exact (Below.refl _ _).alloc (Nat.le_refl _) _
  have hH : Blk w1 w.heap.size 37 [.int .i64 d, .int .i64 s, .int .i64 n] := by rw [hw1]; exact Blk.new _ _ _
  have HW : Hid (w.alloc (.cells #[.int .i64 d, .int .i64 s, .int .i64 n] 37) = w1) := hw1.symm
  obtain ⟨B, hB⟩ : ∃ B, B = w.heap.size := ⟨_, rfl⟩
  have HB : Hid (w.heap.size = B) := hB.symm
  rw [← hB] at hb1 hH
  clear hw1 hB
  unfold headV
  go_enter Tryd.func32, Tryd.ntmps32
  go_wp2_with fail
  rw [HW.out, HB.out]
  have wM : IntKind.i64.wrap (M : Int) = (M : Int) := by rw [IntKind.wrap_i64]; omega
  have wM2 : IntKind.i64.wrap (10 + (M : Int)) = 10 + (M : Int) := by rw [IntKind.wrap_i64]; omega
  have hlt := hH.lt
  have c0 := hH.drew.cell_some (k := 0) rfl
  have c1 := hH.drew.cell_some (k := 1) rfl
  have c2 := hH.drew.cell_some (k := 2) rfl
  have b1 := hb1.drew
  clear hH hb1
  go_region_held3 (fun wx => wx.cell? ⟨B, 0, none⟩ = some (.int .i64 (d : Int)) ∧ wx.cell? ⟨B, 1, none⟩ = some (.int .i64 (s : Int)) ∧ wx.cell? ⟨B, 2, none⟩ = some (.int .i64 (n : Int))) (go_keep) (first | (go_at_call 33; refine Calls.mono (HC.out _) ?_; rintro e w2 ⟨rfl, hb2⟩; have o0 := (hb2.cell (p := ⟨B, 0, none⟩) hlt).trans c0; have o1 := (hb2.cell (p := ⟨B, 1, none⟩) hlt).trans c1; have o2 := (hb2.cell (p := ⟨B, 2, none⟩) hlt).trans c2; have hlt2 : B < w2.heap.size := Nat.lt_of_lt_of_le hlt hb2.size; have b2 : Below B w w2 := b1.trans (hb2.mono (Nat.le_of_lt hlt))) | (go_at_call 45; refine Calls.mono (HF.out _) ?_; rintro e w3 ⟨rfl, hb3⟩; have q0 := (hb3.cell (p := ⟨B, 0, none⟩) hlt2).trans o0; have q1 := (hb3.cell (p := ⟨B, 1, none⟩) hlt2).trans o1; have q2 := (hb3.cell (p := ⟨B, 2, none⟩) hlt2).trans o2; have b3 : Below B w w3 := b2.trans (hb3.mono (Nat.le_of_lt hlt2))))
  go_wp2
  go_ret
  exact ⟨by rw [show ((10 + M : Nat) : Int) = 10 + (M : Int) by omega]; rfl, by rw [HB.out]; exact b3⟩
/-- Its number and its check are right. -/
def rightF (b f : ByteArray) (k : Nat) : Bool := decide (byteAt f 0 = k ∧ f.extract (f.size - 4) f.size = checkS (b ++ f.extract 0 (f.size - 4)))
set_option maxRecDepth 100000 in
set_option maxHeartbeats 1000000 in
theorem isRight_any (b f : ByteArray) (k : Nat) (hb : b.size ≤ 1000) (hf : f.size ≤ 10000) (hf5 : 5 ≤ f.size) (w : World) :
    Calls Tryd.prog 34 #[.string b, .string f, .int .i64 k] w fun e w' => e = .returned (.bool (rightF b f k)) ∧ Below w.heap.size w w' := by
  obtain ⟨c0, hc0⟩ : ∃ c, c = byteAt f 0 := ⟨_, rfl⟩
  have i0 : 0 < f.size := by omega
  have g0 : (f[0]'i0).toNat = c0 := by rw [hc0]; exact byteAt_get f 0 i0
  have l0 : c0 < 256 := by rw [hc0]; exact byteAt_lt _ _
  have wc : IntKind.i64.wrap (c0 : Int) = (c0 : Int) := by rw [IntKind.wrap_i64]; omega
  obtain ⟨E, hE⟩ : ∃ E, E = f.size - 4 := ⟨_, rfl⟩
  have eE : (f.size : Int) - 4 = (E : Int) := by omega
  have HE : Hid (f.size - 4 = E) := hE.symm
  have z1 : (b ++ f.extract 0 E).size = b.size + E := by rw [ByteArray.size_append, ByteArray.size_extract]; omega
  have hE4 : E + 4 = f.size := by omega
  by_cases h0 : c0 = k
  · have e0 : ((c0 : Int) == (k : Int)) = true := by simp; omega
    have HR : Hid (rightF b f k = decide (f.extract E f.size = checkS (b ++ f.extract 0 E))) := by
      show _ = _
      unfold rightF; rw [← hc0, HE.out]; simp [h0]
    have d0 : (c0 == k) = true := by simp; omega
    have d1 : decide (c0 = k) = true := by simp; omega
    have hch := fun W => checkOf_any (b ++ f.extract 0 E) (by omega) W
    have HCH : Hid _ := hch
    have HQ : Hid (((f.extract E f.size).toList == (checkS (b ++ f.extract 0 E)).toList) = rightF b f k) := by
      show _ = _
      rw [HR.out, str_beq]
    have t1 : ¬ 9223372036854775807 < b.size + E := by omega
    have t2 : (f.extract 0 E).size = E := by rw [ByteArray.size_extract]; omega
    have s1 := fun W => slice_str_from f E (by omega) E rfl W
    have s2 := fun W => slice_str_to f E (by omega) E rfl W
    clear hE hc0 h0 hch
    go_enter Tryd.func34, Tryd.ntmps34
    go_wp2_with fail
    go_region_held3 (fun _ => True) (trivial) (first | (go_at_call 29; refine Calls.mono (HCH.out _) ?_; rintro e w2 ⟨rfl, hb2⟩))
    go_wp2
    go_ret
    exact ⟨by rw [← HQ.out]; rfl, (Below.refl w.heap.size w).drew.trans hb2⟩
  · have e0 : ((c0 : Int) == (k : Int)) = false := by simp; omega
    have HR : Hid (rightF b f k = false) := by
      show _ = _
      unfold rightF; rw [← hc0]; simp [h0]
    have d0 : (c0 == k) = false := by simp; omega
    have d1 : decide (c0 = k) = false := by simp; omega
    clear hE hc0 h0
    go_enter Tryd.func34, Tryd.ntmps34
    go_wp2
    go_quiet (fail)
    go_wp2
    go_ret
    exact ⟨by rw [HR.out]; rfl, below_drewN (Below.refl _ _) nq⟩
end Go.Proofs.YtokmllopbfmadabDoor.Pk

/- The head that a pack begins with, as the program reads it. -/
namespace Go.Proofs.YtokmllopbfmadabDoor.Pk
open Go.RowKit Mem FieldWalks Tab ByTab Parts Ref
open Gf (Bytes)

/-- The first ten bytes are a head and its check, whatever its counts and its size. -/
def preOk (p : ByteArray) : Prop := 10 ≤ p.size ∧ byteAt p 0 = 119 ∧ byteAt p 1 = 1 ∧ p.extract 6 10 = checkS (p.extract 0 6)
theorem infoHead : (Tryd.prog.info? 37).map (·.size) = some 3 := by kernel_rfl
theorem byteAt_extract (p : ByteArray) (m i : Nat) (h : i < m) : byteAt (p.extract 0 m) i = byteAt p i := by
  unfold byteAt
  rw [numsX, List.getD_eq_getElem?_getD, List.getD_eq_getElem?_getD, List.getElem?_take, List.drop_zero, if_pos (by omega)]
theorem or_bytes (a b : Nat) (ha : a < 256) (hb : b < 256) : bits BinOp.or .i64 ((a : Int) * 256) (b : Int) = ((256 * a + b : Nat) : Int) := by
  have e : (a * 256) ||| b = 256 * a + b := by
    rw [Nat.mul_comm]
    exact (Nat.two_pow_add_eq_or_of_lt (i := 8) (by omega) a).symm
  rw [show (a : Int) * 256 = ((a * 256 : Nat) : Int) by omega]
  show IntKind.i64.wrap ((BitVec.ofInt 64 ((a * 256 : Nat) : Int) ||| BitVec.ofInt 64 (b : Int)).toNat : Int) = _
  rw [BitVec.toNat_or, ofInt_u64 _ (by omega), ofInt_u64 b (by omega), e, IntKind.wrap_i64]
  omega
set_option maxRecDepth 100000 in
set_option maxHeartbeats 1000000 in
theorem HeadOf_short (p : ByteArray) (h10 : p.size < 10) (w : World) :
    Calls Tryd.prog 30 #[.string p] w fun e w' => e = .returned (.tuple #[headV 0 0 0, .bool false]) ∧ Below w.heap.size w w' := by
  have e0 : decide ((p.size : Int) < 10) = true := decide_eq_true (by omega)
  go_enter Tryd.func30, Tryd.ntmps30
  go_wp2
  refine bodyPost_ret (v := .tuple #[headV 0 0 0, .bool false]) (results_row_tmp (p := 2) (u := 3) (ty := 37) (by kernel_rfl) _ _ w.heap.size 37 #[.int .i64 0, .int .i64 0, .int .i64 0] (0, 0) _ rfl (new_alloc w _ rfl) Tryd.underlying37 rfl infoHead _ rfl) rfl ⟨rfl, ?_⟩
  exact (Below.refl _ _).alloc (Nat.le_refl _) _
set_option maxRecDepth 100000 in
set_option maxHeartbeats 1000000 in
theorem HeadOf_yes (p : ByteArray) (h : preOk p) (hp : p.size < 4611686018427387904) (w : World) :
    Calls Tryd.prog 30 #[.string p] w fun e w' => e = .returned (.tuple #[headV (pD p) (pS p) (pN p), .bool true]) ∧ Below w.heap.size w w' := by
  obtain ⟨h10, n0, n1, n4⟩ := h
  have e0 : decide ((p.size : Int) < 10) = false := decide_eq_false (by omega)
  obtain ⟨bb, hbb⟩ : ∃ bb, bb = p.extract 0 6 := ⟨_, rfl⟩
  have hz : bb.size = 6 := by rw [hbb, ByteArray.size_extract]; omega
  have at_ : ∀ i, i < 6 → byteAt bb i = byteAt p i := fun i hi => by rw [hbb]; exact byteAt_extract p 6 i hi
  obtain ⟨D, hD⟩ : ∃ c, c = byteAt p 2 := ⟨_, rfl⟩
  obtain ⟨S, hS⟩ : ∃ c, c = byteAt p 3 := ⟨_, rfl⟩
  obtain ⟨c4, hc4⟩ : ∃ c, c = byteAt p 4 := ⟨_, rfl⟩
  obtain ⟨c5, hc5⟩ : ∃ c, c = byteAt p 5 := ⟨_, rfl⟩
  have i0 : 0 < bb.size := by omega
  have i1 : 1 < bb.size := by omega
  have i2 : 2 < bb.size := by omega
  have i3 : 3 < bb.size := by omega
  have i4 : 4 < bb.size := by omega
  have i5 : 5 < bb.size := by omega
  have g0 : (bb[0]'i0).toNat = 119 := (byteAt_get bb 0 i0).trans ((at_ 0 (by omega)).trans n0)
  have g1 : (bb[1]'i1).toNat = 1 := (byteAt_get bb 1 i1).trans ((at_ 1 (by omega)).trans n1)
  have g2 : (bb[2]'i2).toNat = D := (byteAt_get bb 2 i2).trans ((at_ 2 (by omega)).trans hD.symm)
  have g3 : (bb[3]'i3).toNat = S := (byteAt_get bb 3 i3).trans ((at_ 3 (by omega)).trans hS.symm)
  have g4 : (bb[4]'i4).toNat = c4 := (byteAt_get bb 4 i4).trans ((at_ 4 (by omega)).trans hc4.symm)
  have g5 : (bb[5]'i5).toNat = c5 := (byteAt_get bb 5 i5).trans ((at_ 5 (by omega)).trans hc5.symm)
  have l2 : D < 256 := by rw [hD]; exact byteAt_lt _ _
  have l3 : S < 256 := by rw [hS]; exact byteAt_lt _ _
  have l4 : c4 < 256 := by rw [hc4]; exact byteAt_lt _ _
  have l5 : c5 < 256 := by rw [hc5]; exact byteAt_lt _ _
  have HPD : Hid (pD p = D) := hD.symm
  have HPS : Hid (pS p = S) := hS.symm
  have HPN : Hid (pN p = 256 * c4 + c5) := by show _ = _; unfold pN; rw [hc4, hc5]
  have s1 := fun W => slice_str p 6 10 (by omega) h10 6 10 rfl rfl W
  have s2 : ∀ W : World, (Instr.slice 9 (.string p) none (some (.int .i64 6)) none).run Tryd.prog W = .ok (.string bb) W := fun W => by rw [hbb]; exact slice_str_to p 6 (by omega) 6 rfl W
  have e2 : ((p.extract 6 10).toList == (checkS bb).toList) = true := by rw [str_beq, hbb]; exact decide_eq_true n4
  have HOR : Hid (bits BinOp.or .i64 ((c4 : Int) * 256) (c5 : Int) = ((256 * c4 + c5 : Nat) : Int)) := or_bytes c4 c5 l4 l5
  have hch := fun W => checkOf_any bb (by omega) W
  have HCH : Hid _ := hch
  clear hch at_ hbb hD hS hc4 hc5 n4 n0 n1
  go_enter Tryd.func30, Tryd.ntmps30
  go_wp2_with fail
  go_region_held3 (fun _ => True) (trivial) (first | (go_at_call 29; refine Calls.mono (HCH.out _) ?_; rintro e w2 ⟨rfl, hb2⟩))
  have R2 : Blk w2 w.heap.size 37 [.int .i64 0, .int .i64 0, .int .i64 0] := (Blk.new w #[.int .i64 0, .int .i64 0, .int .i64 0] 37).drew.to hb2
  have B2 : Below w.heap.size w w2 := ((Below.refl w.heap.size w).alloc (Nat.le_refl _) (.cells #[.int .i64 0, .int .i64 0, .int .i64 0] 37)).drew.trans (hb2.mono (by simp))
  have q0 := R2.cell_some (k := 0) rfl
  have q1 := R2.cell_some (k := 1) rfl
  have q2 := R2.cell_some (k := 2) rfl
  have f0 := R2.free 0
  have f1 := R2.free 1
  have f2 := R2.free 2
  have HR2 : Hid (Blk w2 w.heap.size 37 [.int .i64 0, .int .i64 0, .int .i64 0]) := R2
  have HB2 : Hid (Below w.heap.size w w2) := B2
  clear R2 B2 hb2
  go_wp2_with fail
  go_quiet (fail)
  go_wp2_with fail
  go_region
  go_wp2_with fail
  rw [HOR.out]
  have hr := (((HR2.out.to (below_drewN (Below.refl _ _) (nq + 1))).set 0 (.int .i64 D)).set 1 (.int .i64 S)).set 2 (.int .i64 ((256 * c4 + c5 : Nat) : Int))
  refine bodyPost_ret (v := .tuple #[headV D S (256 * c4 + c5), .bool true]) (results_row_tmp (p := 2) (u := 3) (ty := 37) (by kernel_rfl) _ _ w.heap.size 37 _ (0, 0) _ rfl hr Tryd.underlying37 rfl infoHead _ rfl) rfl ⟨by rw [HPD.out, HPS.out, HPN.out], ?_⟩
  exact (((below_drewN HB2.out (nq + 1)).setCell (by exact Nat.le_refl _) _).setCell (by exact Nat.le_refl _) _).setCell (by exact Nat.le_refl _) _
set_option maxRecDepth 100000 in
set_option maxHeartbeats 1000000 in
theorem HeadOf_no (p : ByteArray) (h : ¬ preOk p) (hp : p.size < 4611686018427387904) (w : World) :
    Calls Tryd.prog 30 #[.string p] w fun e w' => e = .returned (.tuple #[headV 0 0 0, .bool false]) ∧ Below w.heap.size w w' := by
  by_cases h10 : p.size < 10
  · exact HeadOf_short p h10 w
  have e0 : decide ((p.size : Int) < 10) = false := decide_eq_false (by omega)
  obtain ⟨bb, hbb⟩ : ∃ bb, bb = p.extract 0 6 := ⟨_, rfl⟩
  have hz : bb.size = 6 := by rw [hbb, ByteArray.size_extract]; omega
  have at_ : ∀ i, i < 6 → byteAt bb i = byteAt p i := fun i hi => by rw [hbb]; exact byteAt_extract p 6 i hi
  obtain ⟨c0, hc0⟩ : ∃ c, c = byteAt p 0 := ⟨_, rfl⟩
  obtain ⟨c1, hc1⟩ : ∃ c, c = byteAt p 1 := ⟨_, rfl⟩
  have i0 : 0 < bb.size := by omega
  have i1 : 1 < bb.size := by omega
  have g0 : (bb[0]'i0).toNat = c0 := (byteAt_get bb 0 i0).trans ((at_ 0 (by omega)).trans hc0.symm)
  have g1 : (bb[1]'i1).toNat = c1 := (byteAt_get bb 1 i1).trans ((at_ 1 (by omega)).trans hc1.symm)
  have l0 : c0 < 256 := by rw [hc0]; exact byteAt_lt _ _
  have l1 : c1 < 256 := by rw [hc1]; exact byteAt_lt _ _
  have s1 := fun W => slice_str p 6 10 (by omega) (by omega) 6 10 rfl rfl W
  have s2 : ∀ W : World, (Instr.slice 9 (.string p) none (some (.int .i64 6)) none).run Tryd.prog W = .ok (.string bb) W := fun W => by rw [hbb]; exact slice_str_to p 6 (by omega) 6 rfl W
  have HN : Hid (¬ (c0 = 119 ∧ c1 = 1 ∧ p.extract 6 10 = checkS bb)) := by
    intro hh; apply h
    exact ⟨by omega, by rw [← hc0]; exact hh.1, by rw [← hc1]; exact hh.2.1, by rw [← hbb]; exact hh.2.2⟩
  have hch := fun W => checkOf_any bb (by omega) W
  have HCH : Hid _ := hch
  clear hch at_ hbb hc0 hc1 h
  have q : ∀ k, (w.alloc (.cells #[.int .i64 0, .int .i64 0, .int .i64 0] 37)).frozen? ⟨w.heap.size, k, none⟩ = false := fun k => (Blk.new w _ _).free k
  by_cases n0 : c0 = 119
  · by_cases n1 : c1 = 1
    · subst n0; subst n1
      have e2 : ((p.extract 6 10).toList == (checkS bb).toList) = false := by rw [str_beq]; exact decide_eq_false fun e => HN.out ⟨rfl, rfl, e⟩
      clear HN
      go_enter Tryd.func30, Tryd.ntmps30
      go_wp2_with fail
      go_region_held3 (fun _ => True) (trivial) (first | (go_at_call 29; refine Calls.mono (HCH.out _) ?_; rintro e w2 ⟨rfl, hb2⟩))
      have R2 : Blk w2 w.heap.size 37 [.int .i64 0, .int .i64 0, .int .i64 0] := (Blk.new w #[.int .i64 0, .int .i64 0, .int .i64 0] 37).drew.to hb2
      have B2 : Below w.heap.size w w2 := ((Below.refl w.heap.size w).alloc (Nat.le_refl _) (.cells #[.int .i64 0, .int .i64 0, .int .i64 0] 37)).drew.trans (hb2.mono (by simp))
      have q0 := R2.cell_some (k := 0) rfl
      have q1 := R2.cell_some (k := 1) rfl
      have q2 := R2.cell_some (k := 2) rfl
      have f0 := R2.free 0
      have f1 := R2.free 1
      have f2 := R2.free 2
      have HR2 : Hid (Blk w2 w.heap.size 37 [.int .i64 0, .int .i64 0, .int .i64 0]) := R2
      have HB2 : Hid (Below w.heap.size w w2) := B2
      clear R2 B2 hb2
      go_wp2_with fail
      have hr := ((HR2.out.set 0 (.int .i64 0)).set 1 (.int .i64 0)).set 2 (.int .i64 0)
      refine bodyPost_ret (v := .tuple #[headV 0 0 0, .bool false]) (results_row_tmp (p := 2) (u := 3) (ty := 37) (by kernel_rfl) _ _ w.heap.size 37 _ (0, 0) _ rfl hr Tryd.underlying37 rfl infoHead _ rfl) rfl ⟨rfl, ?_⟩
      exact ((HB2.out.setCell (by exact Nat.le_refl _) _).setCell (by exact Nat.le_refl _) _).setCell (by exact Nat.le_refl _) _
    · have e1 : ((c1 : Int) != 1) = true := by simp; omega
      have e1' : ((c1 : Int) == 1) = false := by simp; omega
      subst n0
      clear n1 HN
      go_enter Tryd.func30, Tryd.ntmps30
      go_wp2_with fail
      go_quiet (fail)
      go_wp2_with fail
      have hr := ((((Blk.new w #[.int .i64 0, .int .i64 0, .int .i64 0] 37).to (below_drewN (Below.refl _ _) nq)).set 0 (.int .i64 0)).set 1 (.int .i64 0)).set 2 (.int .i64 0)
      refine bodyPost_ret (v := .tuple #[headV 0 0 0, .bool false]) (results_row_tmp (p := 2) (u := 3) (ty := 37) (by kernel_rfl) _ _ w.heap.size 37 _ (0, 0) _ rfl hr Tryd.underlying37 rfl infoHead _ rfl) rfl ⟨rfl, ?_⟩
      exact (((below_drewN ((Below.refl w.heap.size w).alloc (Nat.le_refl _) (.cells #[.int .i64 0, .int .i64 0, .int .i64 0] 37)) nq).setCell (by exact Nat.le_refl _) _).setCell (by exact Nat.le_refl _) _).setCell (by exact Nat.le_refl _) _
  · have e1 : ((c0 : Int) != 119) = true := by simp; omega
    have e1' : ((c0 : Int) == 119) = false := by simp; omega
    clear n0 HN
    go_enter Tryd.func30, Tryd.ntmps30
    go_wp2_with fail
    go_quiet (fail)
    go_wp2_with fail
    have hr := ((((Blk.new w #[.int .i64 0, .int .i64 0, .int .i64 0] 37).to (below_drewN (Below.refl _ _) nq)).set 0 (.int .i64 0)).set 1 (.int .i64 0)).set 2 (.int .i64 0)
    refine bodyPost_ret (v := .tuple #[headV 0 0 0, .bool false]) (results_row_tmp (p := 2) (u := 3) (ty := 37) (by kernel_rfl) _ _ w.heap.size 37 _ (0, 0) _ rfl hr Tryd.underlying37 rfl infoHead _ rfl) rfl ⟨rfl, ?_⟩
    exact (((below_drewN ((Below.refl w.heap.size w).alloc (Nat.le_refl _) (.cells #[.int .i64 0, .int .i64 0, .int .i64 0] 37)) nq).setCell (by exact Nat.le_refl _) _).setCell (by exact Nat.le_refl _) _).setCell (by exact Nat.le_refl _) _
end Go.Proofs.YtokmllopbfmadabDoor.Pk

/- The head that a pack begins with, if it may be and the pack is as long as it asks for. -/
namespace Go.Proofs.YtokmllopbfmadabDoor.Pk
open Go.RowKit Mem FieldWalks Tab ByTab Parts Ref
open Gf (Bytes)

set_option maxRecDepth 100000 in
set_option maxHeartbeats 1000000 in
theorem headOf_no (p : ByteArray) (h : ¬ headOk p) (hp : p.size < 4611686018427387904) (w : World) :
    Calls Tryd.prog 19 #[.string p] w fun e w' => e = .returned (.tuple #[headV 0 0 0, .int .i64 9]) ∧ Below w.heap.size w w' := by
  by_cases hpre : preOk p
  · have HH : Hid (∀ W, Calls Tryd.prog 30 #[.string p] W fun e w' => e = .returned (.tuple #[.agg #[.int .i64 (pD p), .int .i64 (pS p), .int .i64 (pN p)], .bool true]) ∧ Below W.heap.size W w') := fun W => HeadOf_yes p hpre hp W
    have hN : ¬ ((1 ≤ pD p ∧ pD p ≤ 10 ∧ pS p ≤ 6) ∧ pN p ≤ 400) := fun hh => h ⟨hpre.1, hpre.2.1, hpre.2.2.1, hh.1, hh.2, hpre.2.2.2⟩
    generalize pD p = D at HH hN
    generalize pS p = S at HH hN
    generalize pN p = N at HH hN
    clear h hpre
    go_enter Tryd.func19, Tryd.ntmps19
    go_wp2_with fail
    refine Calls.mono (HH.out _) ?_
    rintro e w1 ⟨rfl, hb1⟩
    have R1 : Blk w1 w.heap.size 37 [.int .i64 0, .int .i64 0, .int .i64 0] := (Blk.new w #[.int .i64 0, .int .i64 0, .int .i64 0] 37).to hb1
    have B1 : Below w.heap.size w w1 := ((Below.refl w.heap.size w).alloc (Nat.le_refl _) (.cells #[.int .i64 0, .int .i64 0, .int .i64 0] 37)).trans (hb1.mono (by simp))
    clear hb1
    cases hc : okCounts (D : Int) (S : Int)
    · go_wp2_with fail
      generalize hw2 : w1.alloc _ = w2
      have R2 : Blk w2 w.heap.size 37 [.int .i64 0, .int .i64 0, .int .i64 0] := by rw [← hw2]; exact R1.alloc _
      have O2 : Blk w2 w1.heap.size 37 [.int .i64 D, .int .i64 S, .int .i64 N] := by rw [← hw2]; exact Blk.new w1 _ _
      have B2 : Below w.heap.size w w2 := by rw [← hw2]; exact B1.alloc B1.size _
      generalize w1.heap.size = O at O2 ⊢
      have q0 := R2.cell_some (k := 0) rfl
      have q1 := R2.cell_some (k := 1) rfl
      have q2 := R2.cell_some (k := 2) rfl
      have f0 := R2.free 0
      have f1 := R2.free 1
      have f2 := R2.free 2
      have y0 := O2.cell_some (k := 0) rfl
      have y1 := O2.cell_some (k := 1) rfl
      have y2 := O2.cell_some (k := 2) rfl
      have HR : Hid (Blk w2 w.heap.size 37 [.int .i64 0, .int .i64 0, .int .i64 0]) := R2
      have HB : Hid (Below w.heap.size w w2) := B2
      clear R2 B2 hw2 R1 B1
      refine (areCounts_any _ _ _).mono ?_
      rintro e w' ⟨rfl, hw⟩
      obtain rfl : w2 = w' := hw.symm
      go_wp2_with fail
      have hr := ((HR.out.set 0 (.int .i64 0)).set 1 (.int .i64 0)).set 2 (.int .i64 0)
      refine bodyPost_ret (v := .tuple #[headV 0 0 0, .int .i64 9]) (results_row_tmp (p := 2) (u := 3) (ty := 37) (by kernel_rfl) _ _ w.heap.size 37 _ (0, 0) _ rfl hr Tryd.underlying37 rfl infoHead _ rfl) rfl ⟨rfl, ?_⟩
      exact ((HB.out.setCell (by exact Nat.le_refl _) _).setCell (by exact Nat.le_refl _) _).setCell (by exact Nat.le_refl _) _
    · have hsz : okSize (N : Int) = false := by
        have hc' := of_decide_eq_true hc
        exact okSize_no _ (by omega)
      go_wp2_with fail
      generalize hw2 : w1.alloc _ = w2
      have R2 : Blk w2 w.heap.size 37 [.int .i64 0, .int .i64 0, .int .i64 0] := by rw [← hw2]; exact R1.alloc _
      have O2 : Blk w2 w1.heap.size 37 [.int .i64 D, .int .i64 S, .int .i64 N] := by rw [← hw2]; exact Blk.new w1 _ _
      have B2 : Below w.heap.size w w2 := by rw [← hw2]; exact B1.alloc B1.size _
      generalize w1.heap.size = O at O2 ⊢
      have q0 := R2.cell_some (k := 0) rfl
      have q1 := R2.cell_some (k := 1) rfl
      have q2 := R2.cell_some (k := 2) rfl
      have f0 := R2.free 0
      have f1 := R2.free 1
      have f2 := R2.free 2
      have y0 := O2.cell_some (k := 0) rfl
      have y1 := O2.cell_some (k := 1) rfl
      have y2 := O2.cell_some (k := 2) rfl
      have HR : Hid (Blk w2 w.heap.size 37 [.int .i64 0, .int .i64 0, .int .i64 0]) := R2
      have HB : Hid (Below w.heap.size w w2) := B2
      clear R2 B2 hw2 R1 B1
      refine (areCounts_any _ _ _).mono ?_
      rintro e w' ⟨rfl, hw⟩
      obtain rfl : w2 = w' := hw.symm
      go_wp2_with fail
      refine (isSize_any _ _).mono ?_
      rintro e w' ⟨rfl, hw⟩
      obtain rfl : w2 = w' := hw.symm
      go_wp2_with fail
      have hr := ((HR.out.set 0 (.int .i64 0)).set 1 (.int .i64 0)).set 2 (.int .i64 0)
      refine bodyPost_ret (v := .tuple #[headV 0 0 0, .int .i64 9]) (results_row_tmp (p := 2) (u := 3) (ty := 37) (by kernel_rfl) _ _ w.heap.size 37 _ (0, 0) _ rfl hr Tryd.underlying37 rfl infoHead _ rfl) rfl ⟨rfl, ?_⟩
      exact ((HB.out.setCell (by exact Nat.le_refl _) _).setCell (by exact Nat.le_refl _) _).setCell (by exact Nat.le_refl _) _
  · have HH : Hid (∀ W, Calls Tryd.prog 30 #[.string p] W fun e w' => e = .returned (.tuple #[.agg #[.int .i64 0, .int .i64 0, .int .i64 0], .bool false]) ∧ Below W.heap.size W w') := fun W => HeadOf_no p hpre hp W
    clear h hpre
    go_enter Tryd.func19, Tryd.ntmps19
    go_wp2_with fail
    refine Calls.mono (HH.out _) ?_
    rintro e w1 ⟨rfl, hb1⟩
    have R1 : Blk w1 w.heap.size 37 [.int .i64 0, .int .i64 0, .int .i64 0] := (Blk.new w #[.int .i64 0, .int .i64 0, .int .i64 0] 37).to hb1
    have B1 : Below w.heap.size w w1 := ((Below.refl w.heap.size w).alloc (Nat.le_refl _) (.cells #[.int .i64 0, .int .i64 0, .int .i64 0] 37)).trans (hb1.mono (by simp))
    clear hb1
    have hB := B1.size
    have R2 := R1.alloc (.cells #[.int .i64 0, .int .i64 0, .int .i64 0] 37)
    have B2 := B1.alloc B1.size (.cells #[.int .i64 0, .int .i64 0, .int .i64 0] 37)
    have q0 := R2.cell_some (k := 0) rfl
    have q1 := R2.cell_some (k := 1) rfl
    have q2 := R2.cell_some (k := 2) rfl
    have f0 := R2.free 0
    have f1 := R2.free 1
    have f2 := R2.free 2
    have HR : Hid (Blk (w1.alloc (.cells #[.int .i64 0, .int .i64 0, .int .i64 0] 37)) w.heap.size 37 [.int .i64 0, .int .i64 0, .int .i64 0]) := R2
    have HB : Hid (Below w.heap.size w (w1.alloc (.cells #[.int .i64 0, .int .i64 0, .int .i64 0] 37))) := B2
    clear R1 B1 R2 B2
    go_wp2
    have hr := ((HR.out.set 0 (.int .i64 0)).set 1 (.int .i64 0)).set 2 (.int .i64 0)
    refine bodyPost_ret (v := .tuple #[headV 0 0 0, .int .i64 9]) (results_row_tmp (p := 2) (u := 3) (ty := 37) (by kernel_rfl) _ _ w.heap.size 37 _ (0, 0) _ rfl hr Tryd.underlying37 rfl infoHead _ rfl) rfl ⟨rfl, ?_⟩
    exact ((HB.out.setCell (by exact Nat.le_refl _) _).setCell (by exact Nat.le_refl _) _).setCell (by exact Nat.le_refl _) _
set_option maxRecDepth 100000 in
set_option maxHeartbeats 1000000 in
theorem headOf_yes (p : ByteArray) (h : headOk p) (hp : p.size < 4611686018427387904) (w : World) :
    Calls Tryd.prog 19 #[.string p] w fun e w' => (cutOk p → e = .returned (.tuple #[headV (pD p) (pS p) (pN p), .int .i64 0])) ∧ (¬ cutOk p → e = .returned (.tuple #[headV 0 0 0, .int .i64 10])) ∧ Below w.heap.size w w' := by
  have hpre : preOk p := ⟨h.1, h.2.1, h.2.2.1, h.2.2.2.2.2⟩
  have HH : Hid (∀ W, Calls Tryd.prog 30 #[.string p] W fun e w' => e = .returned (.tuple #[.agg #[.int .i64 (pD p), .int .i64 (pS p), .int .i64 (pN p)], .bool true]) ∧ Below W.heap.size W w') := fun W => HeadOf_yes p hpre hp W
  have hD := h.2.2.2.1
  have hN := h.2.2.2.2.1
  obtain ⟨M, hM⟩ : ∃ M, M = 10 + (pD p + pS p) * (pL p + 5) := ⟨_, rfl⟩
  have HC : Hid (cutOk p ↔ p.size = M) := by show _ ↔ _; unfold cutOk; rw [hM]
  have HS : Hid (∀ W, Calls Tryd.prog 32 #[.agg #[.int .i64 (pD p), .int .i64 (pS p), .int .i64 (pN p)]] W fun e w' => e = .returned (.int .i64 (M : Int)) ∧ Below W.heap.size W w') := fun W => by rw [hM]; exact pSize_any (pD p) (pS p) (pN p) (pL p) (by omega) (by omega) (by omega) (by omega) rfl W
  have hMs : M ≤ 10 + 16 * 1105 := by
    rw [hM]
    have h1 : pL p ≤ 409 := by unfold pL; exact Nat.le_trans (Nat.div_le_self _ _) (by omega)
    have : (pD p + pS p) * (pL p + 5) ≤ 16 * 1105 := Nat.mul_le_mul (by omega) (by omega)
    omega
  generalize cutOk p = C at HC ⊢
  generalize pD p = D at HH HS hD ⊢
  generalize pS p = S at HH HS hD ⊢
  generalize pN p = N at HH HS hN ⊢
  have hc : okCounts (D : Int) (S : Int) = true := okCounts_yes _ _ (by omega)
  have hsz : okSize (N : Int) = true := okSize_yes _ (by omega)
  clear h hpre hM
  go_enter Tryd.func19, Tryd.ntmps19
  go_wp2_with fail
  refine Calls.mono (HH.out _) ?_
  rintro e w1 ⟨rfl, hb1⟩
  have R1 : Blk w1 w.heap.size 37 [.int .i64 0, .int .i64 0, .int .i64 0] := (Blk.new w #[.int .i64 0, .int .i64 0, .int .i64 0] 37).to hb1
  have B1 : Below w.heap.size w w1 := ((Below.refl w.heap.size w).alloc (Nat.le_refl _) (.cells #[.int .i64 0, .int .i64 0, .int .i64 0] 37)).trans (hb1.mono (by simp))
  clear hb1
  go_wp2_with fail
  generalize hw2 : w1.alloc _ = w2
  have R2 : Blk w2 w.heap.size 37 [.int .i64 0, .int .i64 0, .int .i64 0] := by rw [← hw2]; exact R1.alloc _
  have O2 : Blk w2 w1.heap.size 37 [.int .i64 D, .int .i64 S, .int .i64 N] := by rw [← hw2]; exact Blk.new w1 _ _
  have B2 : Below w.heap.size w w2 := by rw [← hw2]; exact B1.alloc B1.size _
  generalize w1.heap.size = O at O2 ⊢
  have q0 := R2.cell_some (k := 0) rfl
  have q1 := R2.cell_some (k := 1) rfl
  have q2 := R2.cell_some (k := 2) rfl
  have f0 := R2.free 0
  have f1 := R2.free 1
  have f2 := R2.free 2
  have y0 := O2.cell_some (k := 0) rfl
  have y1 := O2.cell_some (k := 1) rfl
  have y2 := O2.cell_some (k := 2) rfl
  have HR : Hid (Blk w2 w.heap.size 37 [.int .i64 0, .int .i64 0, .int .i64 0]) := R2
  have HB : Hid (Below w.heap.size w w2) := B2
  clear R2 B2 hw2 R1 B1
  have HO : Hid (Blk w2 O 37 [.int .i64 D, .int .i64 S, .int .i64 N]) := O2
  clear O2
  refine (areCounts_any _ _ _).mono ?_
  rintro e w' ⟨rfl, hw⟩
  obtain rfl : w2 = w' := hw.symm
  go_wp2_with fail
  refine (isSize_any _ _).mono ?_
  rintro e w' ⟨rfl, hw⟩
  obtain rfl : w2 = w' := hw.symm
  go_wp2_with fail
  refine Calls.mono (HS.out _) ?_
  rintro e w3 ⟨rfl, hb3⟩
  have R3 := HR.out.to hb3
  have O3 := HO.out.to hb3
  have B3 := HB.out.trans (hb3.mono HB.out.size)
  clear q0 q1 q2 f0 f1 f2 y0 y1 y2 hb3
  have q0 := R3.cell_some (k := 0) rfl
  have q1 := R3.cell_some (k := 1) rfl
  have q2 := R3.cell_some (k := 2) rfl
  have f0 := R3.free 0
  have f1 := R3.free 1
  have f2 := R3.free 2
  have y0 := O3.cell_some (k := 0) rfl
  have y1 := O3.cell_some (k := 1) rfl
  have y2 := O3.cell_some (k := 2) rfl
  have HR3 : Hid (Blk w3 w.heap.size 37 [.int .i64 0, .int .i64 0, .int .i64 0]) := R3
  have HB3 : Hid (Below w.heap.size w w3) := B3
  clear R3 O3 B3 HR HB HO
  by_cases hcut : p.size = M
  · have e1 : ((p.size : Int) != (M : Int)) = false := by simp; omega
    have hC := HC.out.2 hcut
    clear hcut
    go_wp2_with fail
    have hr := ((HR3.out.set 0 (.int .i64 D)).set 1 (.int .i64 S)).set 2 (.int .i64 N)
    refine bodyPost_ret (v := .tuple #[headV D S N, .int .i64 0]) (results_row_tmp (p := 2) (u := 3) (ty := 37) (by kernel_rfl) _ _ w.heap.size 37 _ (0, 0) _ rfl hr Tryd.underlying37 rfl infoHead _ rfl) rfl ⟨fun _ => rfl, fun h => absurd hC h, ?_⟩
    exact ((HB3.out.setCell (by exact Nat.le_refl _) _).setCell (by exact Nat.le_refl _) _).setCell (by exact Nat.le_refl _) _
  · have e1 : ((p.size : Int) != (M : Int)) = true := by simp; omega
    have hC := fun c => hcut (HC.out.1 c)
    clear hcut
    go_wp2_with fail
    have hr := ((HR3.out.set 0 (.int .i64 0)).set 1 (.int .i64 0)).set 2 (.int .i64 0)
    refine bodyPost_ret (v := .tuple #[headV 0 0 0, .int .i64 10]) (results_row_tmp (p := 2) (u := 3) (ty := 37) (by kernel_rfl) _ _ w.heap.size 37 _ (0, 0) _ rfl hr Tryd.underlying37 rfl infoHead _ rfl) rfl ⟨fun h => absurd h hC, fun _ => rfl, ?_⟩
    exact ((HB3.out.setCell (by exact Nat.le_refl _) _).setCell (by exact Nat.le_refl _) _).setCell (by exact Nat.le_refl _) _
end Go.Proofs.YtokmllopbfmadabDoor.Pk
