import Derived.OwnWalk
import Derived.Test.YtokmllopbfmadaaGreatDoorGWGather
import Derived.Test.YtokmllopbfmadaaGreatDoorGEquation
import Derived.Test.YtokmllopbfmadaaGreatDoorGPkHead
import Derived.Test.YtokmllopbfmadaaGreatDoorGSpoilMath
namespace Go.Proofs.YtokmllopbfmadaaGreatDoor.Ref
open Go.RowKit Mem FieldWalks Tab ByTab Parts
open Gf (Bytes)
open Plans (But intsV infoInt)
open Pk (slice_str_to slice_str_from)

theorem owns_set1 {w : World} {base size n : Nat} {e t : TypeId} {v : Value} {xs us : List Value} {B : Nat} (h : w.ownsRow base e size v n xs) (hB : Blk w B t us) (ht : e ≠ t) (k : Nat) (u : Value) : (w.setCell ⟨B, k, none⟩ u).ownsRow base e size v n xs := by
  obtain ⟨a1, a2⟩ := h
  refine ⟨a1, ?_⟩
  rcases a2 with a2 | ⟨g, cp, cur, hv, hgb, hh, rr⟩
  · exact Or.inl a2
  · have hb : Blk w g e cur.toList := by unfold Blk; rw [hh]
    have := hb.other (a := ⟨B, k, none⟩) (hb.type_ne hB ht) u
    unfold Blk at this
    exact Or.inr ⟨g, cp, cur, hv, hgb, this, rr⟩
theorem intsV_snoc' (l : List Nat) (k : Nat) : intsV l ++ [.int .i64 (k : Int)] = intsV (l ++ [k]) := by simp [intsV]
theorem but_below {S : Nat} {w w' w'' : World} (h : But S w w') (hb : Below w.heap.size w' w'') : But S w w'' :=
  ⟨hb.os.trans h.os, hb.tape.trans h.tape, hb.output.trans h.output, Nat.le_trans h.size hb.size, fun b h1 h2 => (hb.block b h2).trans (h.rest b h1 h2)⟩
theorem wpList_append_g {P : Program} (w : World) {ops : Array Oper} {rest : List Oper} {o : Oper} {a : Act} {Q : Exit → Act → World → Prop}
    (hgd : o.guard = none) (s x : Operand) (t : TypeId) (hop : o.op = Op.call { callee := Callee.builtin Builtin.append, args := #[s, x], argTypes := #[t, t] })
    (base : Nat) (e : TypeId) (z : Value) (bytes : Nat) (ht : P.underlying t = some (.slice e)) (hinfo : (P.info? e).map (fun i => (i.zero, i.size, i.bytes)) = some (some z, 1, bytes)) (hz : z.cells.size = 1) (hby : bytes ≤ 1000)
    (v : Value) (n : Nat) (xs : List Value) (hs : a.eval s = v) (hown : w.ownsRow base e 1 v n xs) (ad : Addr) (c : Nat) (u : Value) (hx : a.eval x = .slice (some ad) 1 c) (hu : w.cell? ad = some u) (h1 : u.oneCell' = true) (hn : n ≤ 100000) (hbase : base ≤ w.heap.size)
    (hK : ∀ v' w', w'.ownsRow base e 1 v' (n + 1) (xs ++ [u]) → w.grownBy w' v.ownBlock → wpList P ops Q rest (a.put o.dst v') w') :
    wpList P ops Q (o :: rest) a w := by
  obtain ⟨i0, hi, hz0, hz1, hz2⟩ := info_parts hinfo
  refine wpList_append_own _ hgd s x t hop base e i0 z 1 bytes ht hi hz0 hz1 hz2 hz (by decide) v n xs hs hown ad 1 c [u] hx rfl (fun j y hy => ?_) (fun y hy => ?_) (by unfold maxLen; omega) ?_ hbase ?_
  · match j, hy with
    | 0, hy => simp at hy; subst hy; rw [Addr.add_zero']; exact hu
    | j + 1, hy => simp at hy
  · simp at hy; subst hy; exact h1
  · have : (n + 1) * bytes ≤ 100001 * 1000 := Nat.mul_le_mul (by omega) hby
    omega
  · intro v' w' ho hg _
    exact hK v' w' ho hg
set_option maxRecDepth 100000 in
set_option maxHeartbeats 16000000 in
theorem rOpen_ok (p : ByteArray) (hp : p.size < 4611686018427387904) (h : headOk p) (hc : cutOk p) (w : World) :
    Calls Tryz.prog 29 #[.string p] w fun e w' => ∃ v1 v2, e = .returned (.tuple #[.agg #[.int .i64 (pD p), .int .i64 (pS p), .int .i64 (pN p), v1, v2], .int .i64 0]) ∧ w'.ownsRow w.heap.size 9 1 v1 (openPieces p).length ((openPieces p).map Value.string) ∧ w'.ownsRow w.heap.size 3 1 v2 (openBad p).length (intsV (openBad p)) ∧ Below w.heap.size w w' := by
  have h10 : ¬ p.size < 10 := by have := h.1; omega
  have e0 : decide ((p.size : Int) < 10) = false := decide_eq_false (by omega)
  have hz : (p.extract 0 6).size = 6 := by rw [ByteArray.size_extract]; omega
  obtain ⟨c0, hc0⟩ : ∃ c, c = byteAt p 0 := ⟨_, rfl⟩
  obtain ⟨c1, hc1⟩ : ∃ c, c = byteAt p 1 := ⟨_, rfl⟩
  obtain ⟨D, hD⟩ : ∃ c, c = byteAt p 2 := ⟨_, rfl⟩
  obtain ⟨S, hS⟩ : ∃ c, c = byteAt p 3 := ⟨_, rfl⟩
  obtain ⟨c4, hc4⟩ : ∃ c, c = byteAt p 4 := ⟨_, rfl⟩
  obtain ⟨c5, hc5⟩ : ∃ c, c = byteAt p 5 := ⟨_, rfl⟩
  have i0 : 0 < p.size := by omega
  have i1 : 1 < p.size := by omega
  have i2 : 2 < p.size := by omega
  have i3 : 3 < p.size := by omega
  have i4 : 4 < p.size := by omega
  have i5 : 5 < p.size := by omega
  have g0 : (p[0]'i0).toNat = c0 := by rw [hc0]; exact byteAt_get p 0 i0
  have g1 : (p[1]'i1).toNat = c1 := by rw [hc1]; exact byteAt_get p 1 i1
  have g2 : (p[2]'i2).toNat = D := by rw [hD]; exact byteAt_get p 2 i2
  have g3 : (p[3]'i3).toNat = S := by rw [hS]; exact byteAt_get p 3 i3
  have g4 : (p[4]'i4).toNat = c4 := by rw [hc4]; exact byteAt_get p 4 i4
  have g5 : (p[5]'i5).toNat = c5 := by rw [hc5]; exact byteAt_get p 5 i5
  have l0 : c0 < 256 := by rw [hc0]; exact byteAt_lt _ _
  have l1 : c1 < 256 := by rw [hc1]; exact byteAt_lt _ _
  have l2 : D < 256 := by rw [hD]; exact byteAt_lt _ _
  have l3 : S < 256 := by rw [hS]; exact byteAt_lt _ _
  have l4 : c4 < 256 := by rw [hc4]; exact byteAt_lt _ _
  have l5 : c5 < 256 := by rw [hc5]; exact byteAt_lt _ _
  have n0 : c0 = 119 := by rw [hc0]; exact h.2.1
  have n1 : c1 = 1 := by rw [hc1]; exact h.2.2.1
  have hcn := h.2.2.2.1
  unfold pD pS at hcn
  rw [← hD, ← hS] at hcn
  have n2 : okCounts (D : Int) (S : Int) = true := okCounts_yes _ _ (by omega)
  have n3 : 256 * c4 + c5 ≤ 400 := by have := h.2.2.2.2.1; unfold pN at this; rw [← hc4, ← hc5] at this; exact this
  have e1 : decide ((400 : Int) < 256 * (c4 : Int) + (c5 : Int)) = false := decide_eq_false (by omega)
  have e2 : ((p.extract 6 10).toList == (checkS (p.extract 0 6)).toList) = true := by rw [str_beq]; exact decide_eq_true h.2.2.2.2.2
  obtain ⟨L, hL⟩ : ∃ L, L = (256 * c4 + c5 + D - 1) / D := ⟨_, rfl⟩
  have HCUT : Hid (p.size = 10 + (D + S) * (L + 5)) := by
    show _ = _
    unfold cutOk pL pN pD pS at hc
    rw [← hD, ← hS, ← hc4, ← hc5, ← hL] at hc; exact hc
  have HPD : Hid (pD p = D) := hD.symm
  have HPS : Hid (pS p = S) := hS.symm
  have HPN : Hid (pN p = 256 * c4 + c5) := by show _ = _; unfold pN; rw [hc4, hc5]
  have HPL : Hid (pL p = L) := by show _ = _; unfold pL pN pD; rw [hL, hD, hc4, hc5]
  clear h hc hc0 hc1 hD hS hc4 hc5
  go_enter Tryz.func29, Tryz.ntmps29
  go_wp2
  go_quiet (fail)
  go_wp2_with fail
  refine (rCounts_any _ _ _).mono ?_
  rintro e w' ⟨rfl, rfl⟩
  go_wp2_with fail
  generalize hw1 : World.drewN _ _ = w1
  have B1 : Below w.heap.size w w1 := by
    have h : Below w.heap.size w _ := (((Below.refl w.heap.size w).alloc (Nat.le_refl _) (.cells #[.int .i64 0, .int .i64 0, .int .i64 0, .slice none 0 0, .slice none 0 0] 54)).alloc (by simp) (.cells #[.int .i64 0, .int .i64 0, .int .i64 0, .slice none 0 0, .slice none 0 0] 54))
    rw [← hw1]; exact ⟨h.os, h.tape, h.output, h.size, h.block⟩
  have z1 : w1.heap.size = w.heap.size + 1 + 1 := by rw [← hw1]; simp
  have R1 : Blk w1 w.heap.size 54 [.int .i64 0, .int .i64 0, .int .i64 0, .slice none 0 0, .slice none 0 0] := by
    have h := (Blk.new w #[.int .i64 0, .int .i64 0, .int .i64 0, .slice none 0 0, .slice none 0 0] 54).to ((Below.refl _ _).alloc (Nat.le_refl _) (.cells #[.int .i64 0, .int .i64 0, .int .i64 0, .slice none 0 0, .slice none 0 0] 54))
    rw [← hw1]; exact h
  have O1 : Blk w1 (w.heap.size + 1) 54 [.int .i64 0, .int .i64 0, .int .i64 0, .slice none 0 0, .slice none 0 0] := by
    have h := (Blk.new1 w (.cells #[.int .i64 0, .int .i64 0, .int .i64 0, .slice none 0 0, .slice none 0 0] 54) #[.int .i64 0, .int .i64 0, .int .i64 0, .slice none 0 0, .slice none 0 0] 54)
    rw [← hw1]; exact h
  clear hw1
  refine (check_any _ (by omega) _).mono ?_
  rintro e w2 ⟨rfl, hb2⟩
  have R2 := R1.to hb2
  have O2 := O1.to hb2
  have B2 := B1.trans (hb2.mono (by omega))
  have y0 := O2.cell_some (k := 0) rfl
  have y1 := O2.cell_some (k := 1) rfl
  have y2 := O2.cell_some (k := 2) rfl
  have y3 := O2.cell_some (k := 3) rfl
  have y4 := O2.cell_some (k := 4) rfl
  have q0 := R2.cell_some (k := 0) rfl
  have q1 := R2.cell_some (k := 1) rfl
  have q2 := R2.cell_some (k := 2) rfl
  have q3 := R2.cell_some (k := 3) rfl
  have q4 := R2.cell_some (k := 4) rfl
  have f0 := R2.free 0
  have f1 := R2.free 1
  have f2 := R2.free 2
  have f3 := R2.free 3
  have f4 := R2.free 4
  have HR : Hid (Blk w2 w.heap.size 54 [.int .i64 0, .int .i64 0, .int .i64 0, .slice none 0 0, .slice none 0 0]) := R2
  have HB : Hid (Below w.heap.size w w2) := B2
  have g5a := O2.free 0
  have g5b := O2.free 1
  have g5c := O2.free 2
  have g5d := O2.free 3
  have g5e := O2.free 4
  have HO : Hid (Blk w2 (w.heap.size + 1) 54 [.int .i64 0, .int .i64 0, .int .i64 0, .slice none 0 0, .slice none 0 0]) := O2
  clear R1 O1 B1 z1 hb2 R2 O2 B2
  have HSI : Hid (∀ W : World, Calls Tryz.prog 49 #[.int .i64 D, .int .i64 (256 * (c4 : Int) + (c5 : Int))] W fun e w' => e = .returned (.int .i64 (L : Nat)) ∧ w' = W) := by
    intro W
    have := size_any D (256 * c4 + c5) (by omega) (by omega) (by omega) W
    rw [← hL] at this
    rw [show ((256 * c4 + c5 : Nat) : Int) = 256 * (c4 : Int) + (c5 : Int) by omega] at this
    exact this
  have hLs : L ≤ 409 := by rw [hL]; exact Nat.le_trans (Nat.div_le_self _ _) (by omega)
  obtain ⟨M, hM⟩ : ∃ M, M = (D + S) * (L + 5) := ⟨_, rfl⟩
  have hM2 : M ≤ 16 * 414 := by rw [hM]; exact Nat.mul_le_mul (by omega) (by omega)
  have eM : ((D : Int) + (S : Int)) * ((L : Int) + 5) = (M : Int) := by rw [hM]; simp only [Int.natCast_add, Int.natCast_mul]; rfl
  have HM : Hid (M = (D + S) * (L + 5)) := hM
  have HCM : Hid (p.size = 10 + M) := by rw [hM]; exact HCUT.out
  have e5 : ((p.size : Int) == 10 + (M : Int)) = true := by
    have := HCM.out
    simp; omega
  have e6 : ((p.size : Int) != 10 + (M : Int)) = false := by
    have := HCM.out
    simp; omega
  clear hM hL
  go_wp2_with fail
  refine Calls.mono (HSI.out _) ?_
  rintro e w' ⟨rfl, hw⟩
  obtain rfl : w2 = w' := hw.symm
  go_wp2_with fail
  have hOB : w.heap.size ≠ w.heap.size + 1 := by omega
  have hK : ∀ w3 : World, w3 = ((((w2.setCell ⟨w.heap.size + 1, 0, none⟩ (.int .i64 D)).setCell ⟨w.heap.size + 1, 1, none⟩ (.int .i64 S)).setCell ⟨w.heap.size + 1, 2, none⟩ (.int .i64 (256 * (c4 : Int) + (c5 : Int)))).setCell ⟨w.heap.size + 1, 3, none⟩ (.slice none 0 0)).setCell ⟨w.heap.size + 1, 4, none⟩ (.slice none 0 0) →
      Blk w3 (w.heap.size + 1) 54 [.int .i64 D, .int .i64 S, .int .i64 (256 * (c4 : Int) + (c5 : Int)), .slice none 0 0, .slice none 0 0] ∧ Blk w3 w.heap.size 54 [.int .i64 0, .int .i64 0, .int .i64 0, .slice none 0 0, .slice none 0 0] ∧ Below w.heap.size w w3 ∧ w.heap.size + 1 < w3.heap.size := by
    rintro w3 rfl
    have a := ((((HO.out.set 0 (.int .i64 D)).set 1 (.int .i64 S)).set 2 (.int .i64 (256 * (c4 : Int) + (c5 : Int)))).set 3 (.slice none 0 0)).set 4 (.slice none 0 0)
    have b := ((((HR.out.other (a := ⟨w.heap.size + 1, 0, none⟩) hOB (.int .i64 D)).other (a := ⟨w.heap.size + 1, 1, none⟩) hOB (.int .i64 S)).other (a := ⟨w.heap.size + 1, 2, none⟩) hOB (.int .i64 (256 * (c4 : Int) + (c5 : Int)))).other (a := ⟨w.heap.size + 1, 3, none⟩) hOB (.slice none 0 0)).other (a := ⟨w.heap.size + 1, 4, none⟩) hOB (.slice none 0 0)
    refine ⟨a, b, ?_, a.lt⟩
    exact ((((HB.out.setCell (by exact Nat.le_succ _) _).setCell (by exact Nat.le_succ _) _).setCell (by exact Nat.le_succ _) _).setCell (by exact Nat.le_succ _) _).setCell (by exact Nat.le_succ _) _
  generalize hw3 : World.setCell _ _ _ = w3
  obtain ⟨kO, kR, kB, kz⟩ := hK w3 hw3.symm
  clear hK hw3 y0 y1 y2 y3 y4 q0 q1 q2 q3 q4 f0 f1 f2 f3 f4 g5a g5b g5c g5d g5e HO HR HB HSI
  go_loopw [12] (fun i wr => ∃ (k : Nat) (v1 v2 : Value), k ≤ D + S ∧ i = .int .i64 k ∧ Blk wr (w.heap.size + 1) 54 [.int .i64 D, .int .i64 S, .int .i64 (256 * (c4 : Int) + (c5 : Int)), v1, v2] ∧ But (w.heap.size + 1) w3 wr ∧ wr.ownsRow w3.heap.size 9 1 v1 k ((piecesTo p k).map Value.string) ∧ wr.ownsRow w3.heap.size 3 1 v2 (badTo p k).length (intsV (badTo p k))) (fun i _ => D + S - (intOf i).toNat)
  case atStart => exact ⟨0, _, _, Nat.zero_le _, rfl, kO, But.refl _ _, World.ownsRow_nil _ _ _ _, World.ownsRow_nil _ _ _ _⟩
  case round =>
    obtain ⟨k, v1, v2, hk, rfl, kO, hbut, ho1, ho2⟩ := hrel
    obtain ⟨va1, vc1, rfl⟩ := owns_slice ho1
    obtain ⟨va2, vc2, rfl⟩ := owns_slice ho2
    by_cases hlt : k < D + S
    · obtain ⟨A, hA⟩ : ∃ A, A = k * (L + 5) := ⟨_, rfl⟩
      have hA2 : A + (L + 5) ≤ M := by
        have : (k + 1) * (L + 5) ≤ (D + S) * (L + 5) := Nat.mul_le_mul_right _ hlt
        have e : (k + 1) * (L + 5) = A + (L + 5) := by rw [hA, Nat.add_mul, Nat.one_mul]
        rw [HM.out, ← e]; exact this
      have eA : (k : Int) * ((L : Int) + 5) = (A : Int) := by rw [hA]; simp only [Int.natCast_add, Int.natCast_mul]; rfl
      have eA2 : ((k : Int) + 1) * ((L : Int) + 5) = ((A + (L + 5) : Nat) : Int) := by rw [Int.add_mul, eA]; omega
      have hps : 10 + (A + (L + 5)) ≤ p.size := by have := HCM.out; omega
      obtain ⟨f, hf⟩ : ∃ f, f = p.extract (10 + A) (10 + (A + (L + 5))) := ⟨_, rfl⟩
      have hfs : f.size = L + 5 := by rw [hf, ByteArray.size_extract]; omega
      have HFA : Hid (frameAt p k = f) := by
        show _ = _
        rw [hf]; unfold frameAt; rw [HPL.out, hA, Nat.add_mul, Nat.one_mul]
      have HFX : Hid (p.extract (10 + A) (10 + (A + (L + 5))) = f) := hf.symm
      clear hA hf
      have y3 := kO.cell_some (k := 3) rfl
      have y4 := kO.cell_some (k := 4) rfl
      have z3 := kO.free 3
      have z4 := kO.free 4
      have hlen1 : (piecesTo p k).length = k := by simp [piecesTo]
      have hkw : w3.heap.size ≤ wr.heap.size := hbut.size
      have HO : Hid (Blk wr (w.heap.size + 1) 54 [.int .i64 D, .int .i64 S, .int .i64 (256 * (c4 : Int) + (c5 : Int)), .slice va1 k vc1, .slice va2 (badTo p k).length vc2]) := kO
      have HBUT : Hid (But (w.heap.size + 1) w3 wr) := hbut
      have HO2 : Hid (wr.ownsRow w3.heap.size 3 1 (.slice va2 (badTo p k).length vc2) (badTo p k).length (intsV (badTo p k))) := ho2
      have HNX : Hid ((piecesTo p k).map Value.string ++ [.string (f.extract 1 (L + 1))] = (piecesTo p (k + 1)).map Value.string) := by
        show _ = _
        rw [piecesTo_next, List.map_append, List.map_singleton]
        unfold pieceAt
        rw [HFA.out, HPL.out]
      clear kO hbut ho2
      go_wp2_with fail
      rw [HFX.out]
      have hRlt : w.heap.size + 1 < wr.heap.size := by omega
      have hRne : w.heap.size + 1 ≠ wr.heap.size := by omega
      have t1 : IntKind.i64.wrap ((L : Int) + 1) = ((L + 1 : Nat) : Int) := by rw [IntKind.wrap_i64]; omega
      have t2 : (0 : Int) ≤ (L : Int) + 1 := by omega
      have t3 : (1 : Int) ≤ (L : Int) + 1 := by omega
      go_region_law (refine step_append_g rfl _ _ 48 rfl w3.heap.size 9 (.string ByteArray.empty) 16 Tryz.underlying48 (by kernel_rfl) rfl (by decide) (.slice va1 k vc1) k _ (by simp [Act.eval]) (by exact (ho1.alloc _).drew) ⟨wr.heap.size, 0, none⟩ 1 (.string (f.extract 1 (L + 1))) (by simp [Act.eval]) (by exact (Blk.new wr _ _).cell_some rfl) rfl (by omega) (by simp; omega) ?_; rw [HNX.out]; intro v' w4 hown' hgr; obtain ⟨va, vc, rfl⟩ := owns_slice hown'; have hb2 := below_grown ((Below.refl w3.heap.size wr).alloc hkw _).drew ((ho1.alloc _).drew) hgr (by simp; omega) (Nat.le_refl _); have ho2' := owns_grown ((ho1.alloc _).drew) hgr ((HO2.out.alloc _).drew) (by decide); have c3 := (hb2.cell (p := ⟨w.heap.size + 1, 3, none⟩) (by exact kz)).trans y3; have d3 := (hb2.frozen (p := ⟨w.heap.size + 1, 3, none⟩) (by exact kz)).trans z3; have c4' := (hb2.cell (p := ⟨w.heap.size + 1, 4, none⟩) (by exact kz)).trans y4; have d4 := (hb2.frozen (p := ⟨w.heap.size + 1, 4, none⟩) (by exact kz)).trans z4)
      all_goals
        have kO4 := HO.out.below hb2 kz
        have kO5 := kO4.set 3 (.slice va (k + 1) vc)
        have o1 := owns_set1 hown' kO4 (by decide) 3 (.slice va (k + 1) vc)
        have o2 := owns_set1 ho2' kO4 (by decide) 3 (.slice va (k + 1) vc)
        have but5 := (but_below HBUT.out hb2).setCell 3 (.slice va (k + 1) vc)
        generalize w4.setCell ⟨w.heap.size + 1, 3, none⟩ (.slice va (k + 1) vc) = w5 at kO5 o1 o2 but5 ⊢
        have HO5 : Hid (Blk w5 (w.heap.size + 1) 54 [.int .i64 D, .int .i64 S, .int .i64 (256 * (c4 : Int) + (c5 : Int)), .slice va (k + 1) vc, .slice va2 (badTo p k).length vc2]) := kO5
        have HP5 : Hid (w5.ownsRow w3.heap.size 9 1 (.slice va (k + 1) vc) (k + 1) ((piecesTo p (k + 1)).map Value.string)) := o1
        have HQ5 : Hid (w5.ownsRow w3.heap.size 3 1 (.slice va2 (badTo p k).length vc2) (badTo p k).length (intsV (badTo p k))) := o2
        have HU5 : Hid (But (w.heap.size + 1) w3 w5) := but5
        clear kO4 kO5 o1 o2 but5 hb2 ho2' c3 d3 c4' d4 hown' hgr y3 y4 z3 z4 HO HBUT HO2 HNX ho1
        have i0f : 0 < f.size := by omega
        obtain ⟨b0, hb0⟩ : ∃ b, b = byteAt f 0 := ⟨_, rfl⟩
        have gf0 : (f[0]'i0f).toNat = b0 := by rw [hb0]; exact byteAt_get f 0 i0f
        have lb0 : b0 < 256 := by rw [hb0]; exact byteAt_lt _ _
        have wb0 : IntKind.i64.wrap (b0 : Int) = (b0 : Int) := by rw [IntKind.wrap_i64]; omega
        have HBAD : Hid (badAt p k = decide (b0 ≠ k ∨ f.extract (L + 1) (L + 5) ≠ checkS (p.extract 0 6 ++ f.extract 0 (L + 1)))) := by
          show _ = _
          unfold badAt
          rw [HFA.out, HPL.out, ← hb0]
        have t4 : (f.extract 0 (L + 1)).size = L + 1 := by rw [ByteArray.size_extract]; omega
        have t5 : (p.extract 0 6 ++ f.extract 0 (L + 1)).size = 7 + L := by rw [ByteArray.size_append, t4, hz]; omega
        have t6 : ¬ 9223372036854775807 < 6 + (L + 1) := by omega
        have s1 := fun W => slice_str_to f (L + 1) (by omega) ((L : Int) + 1) (by omega) W
        have s2 := fun W => slice_str_from f (L + 1) (by omega) ((L : Int) + 1) (by omega) W
        obtain ⟨bl, hbl⟩ : ∃ bl, bl = (badTo p k).length := ⟨_, rfl⟩
        have HBLE : Hid ((badTo p k).length = bl) := hbl.symm
        have hblk : bl ≤ 20 := by
          rw [hbl]
          have := List.length_filter_le (badAt p) (List.range k)
          rw [List.length_range] at this
          unfold badTo; omega
        rw [← hbl] at HO5 HQ5
        have hs5 : w3.heap.size ≤ w5.heap.size := HU5.out.size
        clear hb0 hbl hlen1
        go_wp2_with fail
        refine (check_any (p.extract 0 6 ++ f.extract 0 (L + 1)) (by omega) _).mono ?_
        rintro e w6 ⟨rfl, hb6⟩
        have HO6 : Hid (Blk w6 (w.heap.size + 1) 54 [.int .i64 D, .int .i64 S, .int .i64 (256 * (c4 : Int) + (c5 : Int)), .slice va (k + 1) vc, .slice va2 bl vc2]) := HO5.out.to hb6
        have HP6 : Hid (w6.ownsRow w3.heap.size 9 1 (.slice va (k + 1) vc) (k + 1) ((piecesTo p (k + 1)).map Value.string)) := ownsRow_to HP5.out hb6
        have HQ6 : Hid (w6.ownsRow w3.heap.size 3 1 (.slice va2 bl vc2) bl (intsV (badTo p k))) := ownsRow_to HQ5.out hb6
        have HU6 : Hid (But (w.heap.size + 1) w3 w6) := HU5.out.to hb6
        have hs6 : w3.heap.size ≤ w6.heap.size := HU6.out.size
        have y4 := HO6.out.cell_some (k := 4) rfl
        have hOw6 : w.heap.size + 1 < w6.heap.size := HO6.out.lt
        have hOne6 : w.heap.size + 1 ≠ w6.heap.size := by omega
        clear hb6 HO5 HP5 HQ5 HU5 hs5
        dsimp only
        by_cases hA : b0 = k
        · have e7 : ((b0 : Int) != (k : Int)) = false := by simp; omega
          have e7' : ((b0 : Int) == (k : Int)) = true := by simp; omega
          have e7n : (b0 == k) = true := by simp; omega
          have e7d : decide (b0 = k) = true := by simp; omega
          by_cases hC : f.extract (L + 1) (L + 5) = checkS (p.extract 0 6 ++ f.extract 0 (L + 1))
          · have e8 : ((f.extract (L + 1) (L + 5)).toList == (checkS (p.extract 0 6 ++ f.extract 0 (L + 1))).toList) = true := by rw [str_beq]; exact decide_eq_true hC
            have hbad : badAt p k = false := by rw [HBAD.out]; exact decide_eq_false (by simp [hA, hC])
            clear hA hC
            go_wp2
            have HN7 : Hid (badTo p (k + 1) = badTo p k) := by
              show _ = _
              rw [badTo_next, hbad]; rfl
            go_roundw
            case rel => exact ⟨k + 1, .slice va (k + 1) vc, .slice va2 bl vc2, by omega, by go_num, HO6.out, HU6.out, HP6.out, by rw [HN7.out, HBLE.out]; exact HQ6.out⟩
            case measure => simp [intOf]; omega
          · have e8 : ((f.extract (L + 1) (L + 5)).toList == (checkS (p.extract 0 6 ++ f.extract 0 (L + 1))).toList) = false := by rw [str_beq]; exact decide_eq_false hC
            have hbad : badAt p k = true := by rw [HBAD.out]; exact decide_eq_true (.inr hC)
            clear hA hC
            go_wp2_with (first | (at_builtin; refine wpList_append_g _ rfl _ _ 32 rfl w3.heap.size 3 (.int .i64 0) 8 Tryz.underlying32 infoInt rfl (by decide) (.slice va2 bl vc2) bl (intsV (badTo p k)) rfl (HQ6.out.alloc _) ⟨w6.heap.size, 0, none⟩ 1 (.int .i64 k) rfl ((Blk.new w6 _ _).cell_some rfl) rfl (by omega) (by simp; omega) ?_; intro v7 w7 ho7 hg7; obtain ⟨va7, vc7, rfl⟩ := owns_slice ho7; have hb7 := below_grown ((Below.refl w3.heap.size w6).alloc hs6 _) (HQ6.out.alloc _) hg7 (by simp; omega) (Nat.le_refl _); have hp7 := owns_grown (HQ6.out.alloc _) hg7 (HP6.out.alloc _) (by decide); have hO7 := HO6.out.below hb7 kz; have p4 := hO7.cell_some (k := 4) rfl; have r4 := hO7.free 4))
            have HN7 : Hid (badTo p (k + 1) = badTo p k ++ [k]) := by
              show _ = _
              rw [badTo_next, hbad]; rfl
            have HL7 : Hid ((badTo p (k + 1)).length = bl + 1) := by show _ = _; rw [HN7.out, List.length_append, HBLE.out]; rfl
            go_roundw
            case rel => exact ⟨k + 1, .slice va (k + 1) vc, .slice va7 (bl + 1) vc7, by omega, by go_num, hO7.set 4 _, (but_below HU6.out hb7).setCell 4 _, owns_set1 hp7 hO7 (by decide) 4 _, by rw [HL7.out, HN7.out, ← intsV_snoc']; exact owns_set1 ho7 hO7 (by decide) 4 _⟩
            case measure => simp [intOf]; omega
        · have e7 : ((b0 : Int) != (k : Int)) = true := by simp; omega
          have e7' : ((b0 : Int) == (k : Int)) = false := by simp; omega
          have e7n : (b0 == k) = false := by simp; omega
          have e7d : decide (b0 = k) = false := by simp; omega
          have hbad : badAt p k = true := by rw [HBAD.out]; exact decide_eq_true (.inl hA)
          clear hA
          go_wp2_with (first | (at_builtin; refine wpList_append_g _ rfl _ _ 32 rfl w3.heap.size 3 (.int .i64 0) 8 Tryz.underlying32 infoInt rfl (by decide) (.slice va2 bl vc2) bl (intsV (badTo p k)) rfl (HQ6.out.alloc _) ⟨w6.heap.size, 0, none⟩ 1 (.int .i64 k) rfl ((Blk.new w6 _ _).cell_some rfl) rfl (by omega) (by simp; omega) ?_; intro v7 w7 ho7 hg7; obtain ⟨va7, vc7, rfl⟩ := owns_slice ho7; have hb7 := below_grown ((Below.refl w3.heap.size w6).alloc hs6 _) (HQ6.out.alloc _) hg7 (by simp; omega) (Nat.le_refl _); have hp7 := owns_grown (HQ6.out.alloc _) hg7 (HP6.out.alloc _) (by decide); have hO7 := HO6.out.below hb7 kz; have p4 := hO7.cell_some (k := 4) rfl; have r4 := hO7.free 4))
          have HN7 : Hid (badTo p (k + 1) = badTo p k ++ [k]) := by
            show _ = _
            rw [badTo_next, hbad]; rfl
          have HL7 : Hid ((badTo p (k + 1)).length = bl + 1) := by show _ = _; rw [HN7.out, List.length_append, HBLE.out]; rfl
          go_roundw
          case rel => exact ⟨k + 1, .slice va (k + 1) vc, .slice va7 (bl + 1) vc7, by omega, by go_num, hO7.set 4 _, (but_below HU6.out hb7).setCell 4 _, owns_set1 hp7 hO7 (by decide) 4 _, by rw [HL7.out, HN7.out, ← intsV_snoc']; exact owns_set1 ho7 hO7 (by decide) 4 _⟩
          case measure => simp [intOf]; omega
    · obtain rfl : k = D + S := by omega
      have kR2 := hbut.blk kR (show w.heap.size ≠ w.heap.size + 1 by omega)
      have HBE : Hid (Below w.heap.size w wr) := hbut.below kB (Nat.le_succ _) (by have := kB.size; omega)
      have y0 := kO.cell_some (k := 0) rfl
      have y1 := kO.cell_some (k := 1) rfl
      have y2 := kO.cell_some (k := 2) rfl
      have y3 := kO.cell_some (k := 3) rfl
      have y4 := kO.cell_some (k := 4) rfl
      have q0 := kR2.cell_some (k := 0) rfl
      have q1 := kR2.cell_some (k := 1) rfl
      have q2 := kR2.cell_some (k := 2) rfl
      have q3 := kR2.cell_some (k := 3) rfl
      have q4 := kR2.cell_some (k := 4) rfl
      have f0 := kR2.free 0
      have f1 := kR2.free 1
      have f2 := kR2.free 2
      have f3 := kR2.free 3
      have f4 := kR2.free 4
      have HR : Hid (Blk wr w.heap.size 54 [.int .i64 0, .int .i64 0, .int .i64 0, .slice none 0 0, .slice none 0 0]) := kR2
      have HO1 : Hid (wr.ownsRow w.heap.size 9 1 (.slice va1 (D + S) vc1) (D + S) ((piecesTo p (D + S)).map Value.string)) := owns_less ho1 (by omega)
      have HO2 : Hid (wr.ownsRow w.heap.size 3 1 (.slice va2 (badTo p (D + S)).length vc2) (badTo p (D + S)).length (intsV (badTo p (D + S)))) := owns_less ho2 (by omega)
      have HOP : Hid (openPieces p = piecesTo p (D + S)) := by show _ = _; unfold openPieces; rw [HPD.out, HPS.out]
      have HOB : Hid (openBad p = badTo p (D + S)) := by show _ = _; unfold openBad; rw [HPD.out, HPS.out]
      have HLN : Hid ((piecesTo p (D + S)).length = D + S) := by show _ = _; simp [piecesTo]
      clear kO kR2 hbut ho1 ho2 kR kB
      go_wp2_with fail
      have a0 := HR.out
      have a1 := a0.set 0 (.int .i64 D)
      have a2 := a1.set 1 (.int .i64 S)
      have a3 := a2.set 2 (.int .i64 (256 * (c4 : Int) + (c5 : Int)))
      have a4 := a3.set 3 (.slice va1 (D + S) vc1)
      have a5 := a4.set 4 (.slice va2 (badTo p (D + S)).length vc2)
      have hE : (256 * (c4 : Int) + (c5 : Int)) = ((pN p : Nat) : Int) := by rw [HPN.out]; omega
      refine bodyPost_ret (v := .tuple #[.agg #[.int .i64 D, .int .i64 S, .int .i64 (256 * (c4 : Int) + (c5 : Int)), .slice va1 (D + S) vc1, .slice va2 (badTo p (D + S)).length vc2], .int .i64 0]) (results_row_tmp (p := 2) (u := 3) (ty := 54) (by kernel_rfl) _ _ w.heap.size 54 _ (0, 0) _ rfl a5 Tryz.underlying54 rfl infoOpened _ rfl) rfl ?_
      refine ⟨_, _, by rw [hE, HPD.out, HPS.out], ?_, ?_, ?_⟩
      · rw [HOP.out, HLN.out]
        exact owns_set1 (owns_set1 (owns_set1 (owns_set1 (owns_set1 HO1.out a0 (by decide) 0 _) a1 (by decide) 1 _) a2 (by decide) 2 _) a3 (by decide) 3 _) a4 (by decide) 4 _
      · rw [HOB.out]
        exact owns_set1 (owns_set1 (owns_set1 (owns_set1 (owns_set1 HO2.out a0 (by decide) 0 _) a1 (by decide) 1 _) a2 (by decide) 2 _) a3 (by decide) 3 _) a4 (by decide) 4 _
      · exact ((((HBE.out.setCell (by exact Nat.le_refl _) _).setCell (by exact Nat.le_refl _) _).setCell (by exact Nat.le_refl _) _).setCell (by exact Nat.le_refl _) _).setCell (by exact Nat.le_refl _) _
end Go.Proofs.YtokmllopbfmadaaGreatDoor.Ref

/- A pack is written. -/
namespace Go.Proofs.YtokmllopbfmadaaGreatDoor.Pk
open Go.RowKit Mem FieldWalks Tab ByTab Parts Ref
open Gf (Bytes)

theorem one_at' (w : World) (n : Nat) (hn : n < 256) : BsAt (w.alloc (.cells #[.int .u8 (n : Int)] 5)) (.slice (some ⟨w.heap.size, 0, none⟩) 1 1) [n % 256] := by
  refine BsAt.of_blk ((Blk.new w _ 5).eq ?_) 1 1 rfl
  rw [Nat.mod_eq_of_lt hn]
  simp [bytesV]
set_option maxRecDepth 100000 in
set_option maxHeartbeats 2000000 in
theorem write_any (d s n : Nat) (ps : List ByteArray) (v : Value) (hl : ps.length ≤ 100) (hp : ∀ p, (h : p < ps.length) → ps[p].size ≤ 1000) (w : World) (hv : StrsAt w v ps) :
    Calls Tryz.prog 20 #[headV d s n, v] w fun e w' => e = .returned (.string (packS d s n ps)) ∧ Below w.heap.size w w' := by
  obtain ⟨ao, cap, rfl, hx⟩ := hv
  have HX : Hid (ps = [] ∨ ∃ b off, ao = some ⟨b, off, none⟩ ∧ b < w.heap.size ∧ ∀ k, (h : k < ps.length) → w.cell? ⟨b, off + k, none⟩ = some (.string ps[k])) := hx
  have HP : Hid (∀ p, (h : p < ps.length) → ps[p].size ≤ 1000) := hp
  obtain ⟨h, hh⟩ : ∃ h, h = headS d s n := ⟨_, rfl⟩
  have hz : h.size = 6 := by rw [hh]; rfl
  have HH : Hid (packS d s n ps = packTo h ps ps.length) := by rw [hh]; rfl
  have HEAD : Hid (∀ W, Calls Tryz.prog 39 #[.agg #[.int .i64 d, .int .i64 s, .int .i64 n]] W fun e w' => e = .returned (.string h) ∧ Below W.heap.size W w') := fun W => by
    rw [hh]; exact bareHead_any d s n W
  have zc := checkS_size h
  have zh : (h ++ checkS h).size = 10 := by rw [ByteArray.size_append]; omega
  have hcv := fun W => Lib.run_convert_string_bytes (P := Tryz.prog) W 9 85 5 (h ++ checkS h) Tryz.underlying9 Tryz.underlying85 Tryz.underlying5
  clear hx hp hh
  unfold headV
  go_enter Tryz.func20, Tryz.ntmps20
  go_wp2_with fail
  refine Calls.mono (HEAD.out _) ?_
  rintro e w1 ⟨rfl, hb1⟩
  have B1 : Below w.heap.size w w1 := ((Below.refl w.heap.size w).alloc (Nat.le_refl _) (.cells #[.int .i64 d, .int .i64 s, .int .i64 n] 47)).trans (hb1.mono (by simp))
  clear hb1 HEAD
  go_wp2_with fail
  refine (checkOf_any h (by omega) _).mono ?_
  rintro e w2 ⟨rfl, hb2⟩
  have B2 := B1.trans (hb2.mono B1.size)
  clear hb2 B1
  have HZH : Hid ((h ++ checkS h).size = 10) := zh
  have B3 : Below w.heap.size w (Lib.bytesWorld w2 5 (h ++ checkS h)) := B2.trans ((below_bytes w2 _).mono B2.size)
  have HO3 : Hid (OwnB (Lib.bytesWorld w2 5 (h ++ checkS h)) w.heap.size (.slice (some ⟨w2.heap.size, 0, none⟩) 10 (grownCap w2 10 0 5)) (packTo h ps 0)) := by
    have := OwnB.new w2 w.heap.size (h ++ checkS h) B2.size (by rw [zh]; decide)
    rw [zh] at this
    exact this
  go_wp2
  generalize Lib.bytesWorld w2 5 (h ++ checkS h) = w3 at HO3 B3 ⊢
  generalize grownCap w2 10 0 5 = c3 at HO3 ⊢
  clear B2 hcv
  go_loopw [6, 19] (fun o i wr => ∃ k : Nat, k ≤ ps.length ∧ i = .int .i64 k ∧ OwnB wr w.heap.size o (packTo h ps k) ∧ Below w.heap.size w wr) (fun _ i _ => ps.length - (intOf i).toNat)
  case atStart => exact ⟨0, Nat.zero_le _, rfl, HO3.out, B3⟩
  case round =>
    clear B3 HO3
    obtain ⟨k, hk, rfl, hown, hbel⟩ := hrel
    have hA := packTo_le h ps HP.out k hk
    have hA2 : (packTo h ps k).size ≤ 1000000 := by
      have := Nat.mul_le_mul_right 1005 (Nat.le_trans hk hl); omega
    clear hA
    by_cases hlt : k < ps.length
    · obtain ⟨b, off, rfl, hb, hc⟩ : ∃ b off, ao = some ⟨b, off, none⟩ ∧ b < w.heap.size ∧ ∀ k, (h : k < ps.length) → w.cell? ⟨b, off + k, none⟩ = some (.string ps[k]) := by
        rcases HX.out with h | h
        · rw [h] at hlt; simp at hlt
        · exact h
      have c1 := (hbel.cell (p := ⟨b, off + k, none⟩) hb).trans (hc k hlt)
      have E : Hid (packTo h ps (k + 1) = packTo h ps k ++ frameS h k ps[k]) := by
        show _ = _
        rw [packTo, List.getD_eq_getElem?_getD, List.getElem?_eq_getElem hlt, Option.getD_some]
      have hzx := HP.out k hlt
      generalize ps[k] = x at c1 E hzx
      generalize packTo h ps k = A at hA2 E hown ⊢
      have hki : (k : Int) < (ps.length : Int) := by omega
      have hsz := hbel.size
      have z1 := oneS_size k
      have zx : (oneS k ++ x).size = 1 + x.size := by rw [ByteArray.size_append, z1]
      have z3 : (h ++ (oneS k ++ x)).size = 7 + x.size := by rw [ByteArray.size_append, zx]; omega
      have z2 := checkS_size (h ++ (oneS k ++ x))
      have q3 : ¬ 9223372036854775807 < 1 + x.size := by omega
      have q4 : ¬ 9223372036854775807 < 6 + (1 + x.size) := by omega
      have HOWN : Hid (OwnB wr w.heap.size u6 A) := hown
      have HBEL : Hid (Below w.heap.size w wr) := hbel
      have kb : (k : Int) % 256 = ((k % 256 : Nat) : Int) := by omega
      have HO4 : Hid (OwnB (wr.alloc (.cells #[.int .u8 (k : Int)] 5)) w.heap.size u6 A) := HOWN.out.to ((Below.refl _ _).alloc (Nat.le_refl _) _)
      have hs4 : w.heap.size ≤ (wr.alloc (.cells #[.int .u8 (k : Int)] 5)).heap.size := by simp; omega
      have hsA : A.size + (oneS k ++ x).size ≤ 100000000 := by rw [zx]; omega
      clear hc hown hbel
      go_wp2_with (first | (at_builtin; refine wpList_append_str _ rfl _ _ rfl w.heap.size u6 A (oneS k ++ x) rfl rfl HO4.out hsA hs4 ?_; intro v' w4 ho4 hb4) | refine wpList_convert _ rfl 85 9 _ rfl _ (.string (oneS k)) rfl (conv_str _ _ _ (one_at' _ k (by omega))) ?_)
      have B4 : Below w.heap.size w w4 := hb4 w.heap.size w (HBEL.out.alloc HBEL.out.size _) (Nat.le_refl _)
      refine (checkOf_any (h ++ (oneS k ++ x)) (by omega) _).mono ?_
      rintro e w5 ⟨rfl, hb5⟩
      have HO5 : Hid (OwnB w5 w.heap.size v' (A ++ (oneS k ++ x))) := ho4.to hb5
      have B5 : Below w.heap.size w w5 := B4.trans (hb5.mono B4.size)
      have HB5 : Hid (Below w.heap.size w w5) := B5
      have hs5 := B5.size
      have hsB : (A ++ (oneS k ++ x)).size + (checkS (h ++ (oneS k ++ x))).size ≤ 100000000 := by rw [z2, ByteArray.size_append, zx]; omega
      clear ho4 hb4 hb5 B4 B5 HO4 hs4 hsA
      go_wp2_with (first | (at_builtin; refine wpList_append_str _ rfl _ _ rfl w.heap.size v' (A ++ (oneS k ++ x)) (checkS (h ++ (oneS k ++ x))) rfl rfl HO5.out hsB hs5 ?_; intro v6 w6 ho6 hb6))
      go_roundw
      case rel => exact ⟨k + 1, by omega, by go_num, by rw [E.out]; unfold frameS; simpa only [ByteArray.append_assoc] using ho6, hb6 w.heap.size w HB5.out (Nat.le_refl _)⟩
      case measure => simp [intOf]; omega
    · obtain rfl : k = ps.length := by omega
      have HBS : Hid (BsAt wr u6 (nums (packTo h ps ps.length))) := hown.bs
      go_wp2_with (refine wpList_convert _ rfl 85 9 _ rfl u6 (.string (packTo h ps ps.length)) rfl (by rw [conv_str _ _ _ HBS.out, mkN]) ?_)
      go_ret
      exact ⟨by rw [HH.out]; rfl, hbel⟩
end Go.Proofs.YtokmllopbfmadaaGreatDoor.Pk
