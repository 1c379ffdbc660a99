import Derived.Deep.RegionHeld3
import Derived.Test.YtokmllopbfmadaaDoorGNBig
namespace Go.Proofs.YtokmllopbfmadaaDoor.Ref
open Go.RowKit Mem FieldWalks Tab ByTab Parts
open Gf (Bytes sumTo addTo)
open Plans (But intsV infoInt)

theorem infoRowSize : (Tryd.prog.info? 155).map (·.size) = some 2 := by kernel_rfl
/-- What the call has laid ahead of its loops. -/
def LessSt (w : World) (d L : Nat) (fa va fb vb : Value) (o : Value) (wx : World) : Prop :=
  ∃ FB VB OB : Nat, o = .pointer (some ⟨OB, 0, none⟩) ∧ FB ≠ VB ∧ w.heap.size ≤ FB ∧ w.heap.size ≤ VB ∧
    Blk wx w.heap.size 155 [fa, va] ∧ Blk wx (w.heap.size + 1) 155 [fb, vb] ∧ Blk wx (w.heap.size + 2) 155 [.slice none 0 0, .slice none 0 0] ∧
    Blk wx FB 3 (intsV (List.replicate d 0)) ∧ Blk wx VB 3 (intsV (List.replicate L 0)) ∧ Blk wx OB 155 [.slice (some ⟨FB, 0, none⟩) d d, .slice (some ⟨VB, 0, none⟩) L L] ∧ Below w.heap.size w wx

theorem LessSt.of {w W : World} {d L FB VB OB : Nat} {fa va fb vb : Value} (h0 : W.heap[w.heap.size]? = some (.cells #[fa, va] 155 (0, 0))) (h1 : W.heap[w.heap.size + 1]? = some (.cells #[fb, vb] 155 (0, 0)))
    (h2 : W.heap[w.heap.size + 1 + 1]? = some (.cells #[.slice none 0 0, .slice none 0 0] 155 (0, 0))) (hF : W.heap[FB]? = some (.cells (madeCells #[.int .i64 0] d) 3 (0, 0))) (hV : W.heap[VB]? = some (.cells (madeCells #[.int .i64 0] L) 3 (0, 0)))
    (hO : W.heap[OB]? = some (.cells #[.slice (some ⟨FB, 0, none⟩) d d, .slice (some ⟨VB, 0, none⟩) L L] 155 (0, 0))) (hne : FB ≠ VB) (hFs : w.heap.size ≤ FB) (hVs : w.heap.size ≤ VB) (hb : Below w.heap.size w W) : LessSt w d L fa va fb vb (.pointer (some ⟨OB, 0, none⟩)) W := by
  have e : ∀ n, (madeCells #[Value.int .i64 0] n) = (intsV (List.replicate n 0)).toArray := fun n => by
    apply Array.toList_inj.1
    rw [toList_madeCells_one]; simp [intsV]
  refine ⟨FB, VB, OB, rfl, hne, hFs, hVs, h0, h1, h2, ?_, ?_, hO, hb⟩
  · unfold Blk; rw [hF, e]
  · unfold Blk; rw [hV, e]
theorem at_alloc {w : World} {k : Nat} {o x : Obj} (h : w.heap[k]? = some o) : (w.alloc x).heap[k]? = some o := (Below.heap_alloc w x k (lt_of_block h)).trans h
theorem new_alloc {k : Nat} (w : World) (x : Obj) (hk : k = w.heap.size) : (w.alloc x).heap[k]? = some x := by subst hk; exact heap_alloc_new w x
theorem six (w : World) (x0 x1 x2 x3 x4 x5 : Obj) : let W := ((((((w.alloc x0).alloc x1).alloc x2).alloc x3).alloc x4).alloc x5).drew
    W.heap[w.heap.size]? = some x0 ∧ W.heap[w.heap.size + 1]? = some x1 ∧ W.heap[w.heap.size + 1 + 1]? = some x2 ∧ W.heap[w.heap.size + 1 + 1 + 1]? = some x3 ∧ W.heap[w.heap.size + 1 + 1 + 1 + 1]? = some x4 ∧ W.heap[w.heap.size + 1 + 1 + 1 + 1 + 1]? = some x5 ∧ Below w.heap.size w W := by
  exact ⟨at_alloc (at_alloc (at_alloc (at_alloc (at_alloc (new_alloc w x0 rfl))))), at_alloc (at_alloc (at_alloc (at_alloc (new_alloc _ x1 (by simp))))), at_alloc (at_alloc (at_alloc (new_alloc _ x2 (by simp)))), at_alloc (at_alloc (new_alloc _ x3 (by simp))), at_alloc (new_alloc _ x4 (by simp)), new_alloc _ x5 (by simp),
    ((((((((Below.refl _ _).alloc (Nat.le_refl _) _).alloc (by simp) _).alloc (by simp; omega) _).alloc (by simp; omega) _).alloc (by simp; omega) _).alloc (by simp; omega) _)).drew⟩

/-- What a round of either loop reads and writes. -/
theorem less_facts {w wc wr : World} {f1 f2 : List Nat} {n m j B : Nat} {P R : Nat → Prop} {ca cb : Nat} {a b : Option Addr} (hbut : But B wc wr) (hblk : Blk wr B 3 (intsV (mix (addTo m f1 f2) (List.replicate n 0) j)))
    (l1 : f1.length = n) (l2 : f2.length = n) (h1 : NsP P w (.slice a n ca) f1) (h2 : NsP R w (.slice b n cb) f2) (b1 : Bytes f1) (b2 : Bytes f2) (hm : m < 256) (hB : w.heap.size ≤ B) (hb : Below w.heap.size w wc) (hj : j < n) :
    ∃ p q x y : Nat, a = some ⟨p, 0, none⟩ ∧ b = some ⟨q, 0, none⟩ ∧ p ≠ B ∧ q ≠ B ∧ x < 256 ∧ y < 256 ∧ wr.cell? ⟨p, j, none⟩ = some (.int .i64 (x : Nat)) ∧ wr.cell? ⟨q, j, none⟩ = some (.int .i64 (y : Nat)) ∧ wr.cell? ⟨B, j, none⟩ = some (.int .i64 0) ∧ wr.frozen? ⟨B, j, none⟩ = false ∧
      bits .xor .i64 (x : Int) ((Gf.times m y : Nat) : Int) = ((x ^^^ Gf.times m y : Nat) : Int) ∧ Blk (wr.setCell ⟨B, j, none⟩ (.int .i64 ((x ^^^ Gf.times m y : Nat) : Int))) B 3 (intsV (mix (addTo m f1 f2) (List.replicate n 0) (j + 1))) := by
  obtain ⟨p, c, e1, hp, hpc⟩ := h1.pos (by omega)
  obtain ⟨q, c', e2, hq, hqc⟩ := h2.pos (by omega)
  injection e1 with e11 e12 e13
  injection e2 with e21 e22 e23
  have la : (addTo m f1 f2).length = n := by rw [Gf.addTo_length (by omega)]; omega
  have hle : (addTo m f1 f2).length = (List.replicate n 0).length := by simp [la]
  have hx := b1.at j (by omega)
  have hy := b2.at j (by omega)
  have ht := Gf.times_lt m (f2[j]'(by omega)) hm
  have hsz := hb.size
  have back : ∀ k, k < w.heap.size → wr.cell? ⟨k, j, none⟩ = w.cell? ⟨k, j, none⟩ := fun k hk => (hbut.cell (p := ⟨k, j, none⟩) (by show k ≠ B; omega) (by show k < wc.heap.size; omega)).trans (hb.cell (p := ⟨k, j, none⟩) hk)
  refine ⟨p, q, f1[j], f2[j], e11, e21, by omega, by omega, hx, hy, ?_, ?_, ?_, hblk.free j, Gf.i64_xor _ _ (by omega) (by omega), ?_⟩
  · rw [back p hp]; exact hpc j (by omega)
  · rw [back q hq]; exact hqc j (by omega)
  · refine hblk.cell_some ?_
    have := mix_at (new := addTo m f1 f2) (old := List.replicate n 0) (k := j) hle (by simpa using hj)
    simp [intsV, this]
  · refine (hblk.set j _).eq ?_
    have := mix_set (new := addTo m f1 f2) (old := List.replicate n 0) (k := j) hle (by simpa using hj)
    rw [← this]
    simp [intsV, List.map_set, addTo]

set_option maxRecDepth 100000 in
set_option maxHeartbeats 2000000 in
theorem less_any (f1 v1 f2 v2 : List Nat) (d L m : Nat) (P Q R S : Nat → Prop) (fa va fb vb : Value) (w : World) (h1 : NsP P w fa f1) (h2 : NsP Q w va v1) (h3 : NsP R w fb f2) (h4 : NsP S w vb v2)
    (hl1 : f1.length = d) (hl2 : v1.length = L) (hl3 : f2.length = d) (hl4 : v2.length = L) (b1 : Bytes f1) (b2 : Bytes v1) (b3 : Bytes f2) (b4 : Bytes v2) (hm : m < 256) (hd : d ≤ 1000) (hL : L ≤ 1000) :
    Calls Tryd.prog 138 #[.agg #[fa, va], .int .i64 m, .agg #[fb, vb]] w fun e w' =>
      ∃ fv vv, e = .returned (.agg #[fv, vv]) ∧ NsP (fun b => w.heap.size ≤ b) w' fv (addTo m f1 f2) ∧ NsP (fun b => w.heap.size ≤ b) w' vv (addTo m v1 v2) ∧ Below w.heap.size w w' := by
  obtain ⟨a1, c1, rfl⟩ := h1.form
  obtain ⟨a2, c2, rfl⟩ := h2.form
  obtain ⟨a3, c3, rfl⟩ := h3.form
  obtain ⟨a4, c4, rfl⟩ := h4.form
  rw [hl1] at h1 ⊢
  rw [hl2] at h2 ⊢
  rw [hl3] at h3 ⊢
  rw [hl4] at h4 ⊢
  have HL1 : Hid (f1.length = d ∧ v1.length = L ∧ f2.length = d ∧ v2.length = L) := ⟨hl1, hl2, hl3, hl4⟩
  clear hl1 hl2 hl3 hl4
  have H1 : Hid (NsP P w (.slice a1 d c1) f1) := h1
  have H2 : Hid (NsP Q w (.slice a2 L c2) v1) := h2
  have H3 : Hid (NsP R w (.slice a3 d c3) f2) := h3
  have H4 : Hid (NsP S w (.slice a4 L c4) v2) := h4
  have hmk1 := fun w => make_ints d (by omega) w
  have hmk2 := fun w => make_ints L (by omega) w
  clear h1 h2 h3 h4
  go_enter Tryd.func138, Tryd.ntmps138
  go_upto_region 1 with fail
  go_cut [7] from 10 to 18 (fun o wx => LessSt w d L (.slice a1 d c1) (.slice a2 L c2) (.slice a3 d c3) (.slice a4 L c4) o wx)
  case first =>
    go_region
    all_goals
      go_wp2
      go_meet
      case rel =>
        obtain ⟨s0, s1, s2, s3, s4, s5, hb⟩ := six w _ _ _ _ _ _
        first
          | exact LessSt.of s0 s1 s2 s3 s4 s5 (by omega) (by omega) (by omega) hb
          | exact LessSt.of s0 s1 s2 s3 s5 s4 (by omega) (by omega) (by omega) hb
          | exact LessSt.of s0 s1 s2 s4 s3 s5 (by omega) (by omega) (by omega) hb
          | exact LessSt.of s0 s1 s2 s4 s5 s3 (by omega) (by omega) (by omega) hb
          | exact LessSt.of s0 s1 s2 s5 s3 s4 (by omega) (by omega) (by omega) hb
          | exact LessSt.of s0 s1 s2 s5 s4 s3 (by omega) (by omega) (by omega) hb
  case rest =>
    obtain ⟨FB, VB, OB, rfl, hne, hFs, hVs, k0, k1, k2, kF, kV, kO, hb⟩ := hcut
    have e1 : ∀ m (f1 f2 : List Nat), f1.length = f2.length → (addTo m f1 f2).length = f1.length := fun m f1 f2 h => Gf.addTo_length h.symm
    have LL : Hid ((addTo m f1 f2).length = d ∧ (addTo m v1 v2).length = L) := by
      have := HL1.out
      exact ⟨by rw [e1 _ _ _ (by omega)]; omega, by rw [e1 _ _ _ (by omega)]; omega⟩
    have hneO : FB ≠ OB := kF.type_ne kO (by decide)
    have hneO2 : VB ≠ OB := kV.type_ne kO (by decide)
    have K0 : Hid (Blk wc w.heap.size 155 [.slice a1 d c1, .slice a2 L c2]) := k0
    have K1 : Hid (Blk wc (w.heap.size + 1) 155 [.slice a3 d c3, .slice a4 L c4]) := k1
    have K2 : Hid (Blk wc (w.heap.size + 2) 155 [.slice none 0 0, .slice none 0 0]) := k2
    have KF : Hid (Blk wc FB 3 (intsV (List.replicate d 0))) := kF
    have KV : Hid (Blk wc VB 3 (intsV (List.replicate L 0))) := kV
    have KO : Hid (Blk wc OB 155 [.slice (some ⟨FB, 0, none⟩) d d, .slice (some ⟨VB, 0, none⟩) L L]) := kO
    have HB : Hid (Below w.heap.size w wc) := hb
    have n0 : w.heap.size ≠ FB := k0.type_ne kF (by decide)
    have n1 : w.heap.size + 1 ≠ FB := k1.type_ne kF (by decide)
    have n2 : w.heap.size ≠ VB := k0.type_ne kV (by decide)
    have n3 : w.heap.size + 1 ≠ VB := k1.type_ne kV (by decide)
    have g0 := k0.lt
    have g1 := k1.lt
    have g2 := kO.lt
    have gF := kF.lt
    have gV := kV.lt
    clear k0 k1 k2 kF kV kO hb e1
    go_wp2
    go_loopw [8] (fun jv wr => ∃ j : Nat, j ≤ d ∧ jv = .int .i64 j ∧ But FB wc wr ∧ Blk wr FB 3 (intsV (mix (addTo m f1 f2) (List.replicate d 0) j))) (fun jv _ => d - (intOf jv).toNat)
    case atStart => exact ⟨0, Nat.zero_le _, rfl, But.refl _ _, by rw [mix_zero]; exact KF.out⟩
    case round =>
      obtain ⟨j, hj, rfl, hbut, hblk⟩ := hrel
      have q1 : wr.cell? ⟨w.heap.size, 0, none⟩ = some (.slice a1 d c1) := (hbut.cell n0 g0).trans (K0.out.cell_some rfl)
      by_cases hlt : j < d
      · obtain ⟨p, q, x, y, rfl, rfl, np, nq_, hx, hy, r1, r2, r3, r4, ex, hnew⟩ := less_facts hbut hblk HL1.out.1 HL1.out.2.2.1 H1.out H3.out b1 b3 hm hFs HB.out hlt
        have q2 : wr.cell? ⟨w.heap.size + 1, 0, none⟩ = some (.slice (some ⟨q, 0, none⟩) d c3) := (hbut.cell n1 g1).trans (K1.out.cell_some rfl)
        have q3 : wr.cell? ⟨OB, 0, none⟩ = some (.slice (some ⟨FB, 0, none⟩) d d) := (hbut.cell (Ne.symm hneO) g2).trans (KO.out.cell_some rfl)
        have HNEW : Hid (Blk (wr.setCell ⟨FB, j, none⟩ (.int .i64 ((x ^^^ Gf.times m y : Nat) : Int))) FB 3 (intsV (mix (addTo m f1 f2) (List.replicate d 0) (j + 1)))) := hnew
        have HBUT : Hid (But FB wc wr) := hbut
        have EX : Hid (bits .xor .i64 (x : Int) ((Gf.times m y : Nat) : Int) = ((x ^^^ Gf.times m y : Nat) : Int)) := ex
        clear hnew hbut hblk ex
        have i1 : (0 : Int) ≤ (j : Int) := by omega
        have m1 := Ne.symm np
        have m2 := Ne.symm nq_
        have m3 := Ne.symm n0
        have m4 := Ne.symm n1
        have i2 : (j : Int) < (d : Int) := by omega
        go_wp2_with fail
        go_region_held3 (fun w' => w'.cell? ⟨OB, 0, none⟩ = some (.slice (some ⟨FB, 0, none⟩) d d) ∧ w'.cell? ⟨w.heap.size, 0, none⟩ = some (.slice (some ⟨p, 0, none⟩) d c1) ∧ w'.cell? ⟨w.heap.size + 1, 0, none⟩ = some (.slice (some ⟨q, 0, none⟩) d c3) ∧ w'.cell? ⟨p, j, none⟩ = some (.int .i64 (x : Nat)) ∧ w'.cell? ⟨q, j, none⟩ = some (.int .i64 (y : Nat))) (go_keep) (first | (go_at_call 51; refine (times_any m y hm hy _).mono ?_; rintro e w2 ⟨rfl, rfl⟩))
        all_goals
          rw [EX.out]
          go_wp2
          go_roundw
          case rel => exact ⟨j + 1, by omega, by go_num, (HBUT.out.setCell j _).drew, HNEW.out.drew⟩
          case measure => simp [intOf]; omega
      · obtain rfl : j = d := by omega
        have hFF : Blk wr FB 3 (intsV (addTo m f1 f2)) := by
          have e := mix_all (new := addTo m f1 f2) (old := List.replicate j 0) (by simp [LL.out.1])
          rw [List.length_replicate] at e
          rw [e] at hblk
          exact hblk
        obtain ⟨w1, rfl⟩ : ∃ w1, w1 = wr := ⟨_, rfl⟩
        have KF1 : Hid (Blk w1 FB 3 (intsV (addTo m f1 f2))) := hFF
        have KV1 : Hid (Blk w1 VB 3 (intsV (List.replicate L 0))) := hbut.blk KV.out (Ne.symm hne)
        have HB1 : Hid (Below w.heap.size w w1) := hbut.below HB.out hFs (by omega)
        have L0 : Hid (Blk w1 w.heap.size 155 [.slice a1 j c1, .slice a2 L c2]) := hbut.blk K0.out n0
        have L1 : Hid (Blk w1 (w.heap.size + 1) 155 [.slice a3 j c3, .slice a4 L c4]) := hbut.blk K1.out n1
        have L2 : Hid (Blk w1 (w.heap.size + 2) 155 [.slice none 0 0, .slice none 0 0]) := hbut.blk K2.out (K2.out.type_ne KF.out (by decide))
        have LO : Hid (Blk w1 OB 155 [.slice (some ⟨FB, 0, none⟩) j j, .slice (some ⟨VB, 0, none⟩) L L]) := hbut.blk KO.out (Ne.symm hneO)
        have hs1 := hbut.size
        clear hbut hblk hFF K0 K1 K2 KO KF KV HB
        go_wp2
        go_loopw [9] (fun jv wr => ∃ t : Nat, t ≤ L ∧ jv = .int .i64 t ∧ But VB w1 wr ∧ Blk wr VB 3 (intsV (mix (addTo m v1 v2) (List.replicate L 0) t))) (fun jv _ => L - (intOf jv).toNat)
        case atStart => exact ⟨0, Nat.zero_le _, rfl, But.refl _ _, by rw [mix_zero]; exact KV1.out⟩
        case round =>
          obtain ⟨t, ht, rfl, hbut, hblk⟩ := hrel
          have q1 : wr.cell? ⟨w.heap.size, 1, none⟩ = some (.slice a2 L c2) := (hbut.cell n2 (by show w.heap.size < w1.heap.size; omega)).trans (L0.out.cell_some rfl)
          by_cases hlt : t < L
          · obtain ⟨p, q, x, y, rfl, rfl, np, nq_, hx, hy, r1, r2, r3, r4, ex, hnew⟩ := less_facts hbut hblk HL1.out.2.1 HL1.out.2.2.2 H2.out H4.out b2 b4 hm hVs HB1.out hlt
            have q2 : wr.cell? ⟨w.heap.size + 1, 1, none⟩ = some (.slice (some ⟨q, 0, none⟩) L c4) := (hbut.cell n3 (by show w.heap.size + 1 < w1.heap.size; omega)).trans (L1.out.cell_some rfl)
            have q3 : wr.cell? ⟨OB, 1, none⟩ = some (.slice (some ⟨VB, 0, none⟩) L L) := (hbut.cell (Ne.symm hneO2) (by show OB < w1.heap.size; omega)).trans (LO.out.cell_some rfl)
            have HNEW : Hid (Blk (wr.setCell ⟨VB, t, none⟩ (.int .i64 ((x ^^^ Gf.times m y : Nat) : Int))) VB 3 (intsV (mix (addTo m v1 v2) (List.replicate L 0) (t + 1)))) := hnew
            have HBUT : Hid (But VB w1 wr) := hbut
            have EX : Hid (bits .xor .i64 (x : Int) ((Gf.times m y : Nat) : Int) = ((x ^^^ Gf.times m y : Nat) : Int)) := ex
            clear hnew hbut hblk ex
            have i1 : (0 : Int) ≤ (t : Int) := by omega
            have m1 := Ne.symm np
            have m2 := Ne.symm nq_
            have m3 := Ne.symm n2
            have m4 := Ne.symm n3
            have i2 : (t : Int) < (L : Int) := by omega
            go_wp2_with fail
            go_region_held3 (fun w' => w'.cell? ⟨OB, 1, none⟩ = some (.slice (some ⟨VB, 0, none⟩) L L) ∧ w'.cell? ⟨w.heap.size, 1, none⟩ = some (.slice (some ⟨p, 0, none⟩) L c2) ∧ w'.cell? ⟨w.heap.size + 1, 1, none⟩ = some (.slice (some ⟨q, 0, none⟩) L c4) ∧ w'.cell? ⟨p, t, none⟩ = some (.int .i64 (x : Nat)) ∧ w'.cell? ⟨q, t, none⟩ = some (.int .i64 (y : Nat))) (go_keep) (first | (go_at_call 51; refine (times_any m y hm hy _).mono ?_; rintro e w2 ⟨rfl, rfl⟩))
            all_goals
              rw [EX.out]
              go_wp2
              go_roundw
              case rel => exact ⟨t + 1, by omega, by go_num, (HBUT.out.setCell t _).drew, HNEW.out.drew⟩
              case measure => simp [intOf]; omega
          · obtain rfl : t = L := by omega
            have hVV : Blk wr VB 3 (intsV (addTo m v1 v2)) := by
              have e := mix_all (new := addTo m v1 v2) (old := List.replicate t 0) (by simp [LL.out.2])
              rw [List.length_replicate] at e
              rw [e] at hblk
              exact hblk
            have hO := hbut.blk LO.out (Ne.symm hneO2)
            have h2 := hbut.blk L2.out (L2.out.type_ne KV1.out (by decide))
            have y0 := hO.cell_some (k := 0) rfl
            have y1 := hO.cell_some (k := 1) rfl
            have z0 := h2.cell_some (k := 0) rfl
            have z1 := h2.cell_some (k := 1) rfl
            have z2 := h2.free 0
            have z3 := h2.free 1
            have HF2 : Hid (Blk wr FB 3 (intsV (addTo m f1 f2))) := hbut.blk KF1.out hne
            have HV2 : Hid (Blk wr VB 3 (intsV (addTo m v1 v2))) := hVV
            have HB2 : Hid (Below w.heap.size w wr) := hbut.below HB1.out hVs (by omega)
            have nn : FB ≠ w.heap.size + 2 := (HF2.out).type_ne h2 (by decide)
            have nn2 : VB ≠ w.heap.size + 2 := hVV.type_ne h2 (by decide)
            have HR : Hid (Blk wr (w.heap.size + 1 + 1) 155 [.slice none 0 0, .slice none 0 0]) := h2
            clear hO h2 hbut hblk hVV
            go_wp2
            have hr := (HR.out.set 0 (.slice (some ⟨FB, 0, none⟩) j j)).set 1 (.slice (some ⟨VB, 0, none⟩) t t)
            refine bodyPost_ret (v := .agg #[.slice (some ⟨FB, 0, none⟩) j j, .slice (some ⟨VB, 0, none⟩) t t]) (results_cell_row (p := 6) (ty := 155) (by kernel_rfl) _ _ (w.heap.size + 1 + 1) 155 _ (0, 0) _ rfl hr Tryd.underlying155 rfl infoRowSize) rfl ⟨_, _, rfl, ?_, ?_, ?_⟩
            · exact NsP.of_blk ((HF2.out.other nn _).other nn _) hFs _ _ LL.out.1.symm
            · exact NsP.of_blk ((HV2.out.other nn2 _).other nn2 _) hVs _ _ LL.out.2.symm
            · exact (HB2.out.setCell (by show w.heap.size ≤ w.heap.size + 1 + 1; omega) _).setCell (by show w.heap.size ≤ w.heap.size + 1 + 1; omega) _
end Go.Proofs.YtokmllopbfmadaaDoor.Ref

namespace Go.Proofs.YtokmllopbfmadaaDoor.Ref
open Go.RowKit Mem FieldWalks Tab ByTab Parts
open Gf (Bytes sumTo addTo rowOf)
open Plans (But intsV infoInt rowF rowF_length)

/-- Behind a step that writes new blocks alone. -/
theorem but_low {S : Nat} {w w' w'' : World} (h : But S w w') (hb : Below w.heap.size w' w'') : But S w w'' :=
  ⟨hb.os.trans h.os, hb.tape.trans h.tape, hb.output.trans h.output, Nat.le_trans h.size hb.size, fun b h1 h2 => (hb.block b h2).trans (h.rest b h1 h2)⟩
def eqF (d p : Nat) : List Nat := rowF d (rowOf d p)
theorem eqF_length (d p : Nat) : (eqF d p).length = d := rowF_length _ _
theorem eqF_next {w : World} {B d p j : Nat} (h : Blk w B 3 (intsV (mix (eqF d p) (List.replicate d 0) j))) (hj : j < d) :
    w.cell? ⟨B, j, none⟩ = some (.int .i64 0) ∧ w.frozen? ⟨B, j, none⟩ = false ∧ Blk (w.setCell ⟨B, j, none⟩ (.int .i64 (rowOf d p j : Nat))) B 3 (intsV (mix (eqF d p) (List.replicate d 0) (j + 1))) := by
  have hle : (eqF d p).length = (List.replicate d 0).length := by simp [eqF]
  refine ⟨h.cell_some ?_, h.free j, (h.set j _).eq ?_⟩
  · have := mix_at (new := eqF d p) (old := List.replicate d 0) (k := j) hle (by simpa using hj)
    simp [intsV, this]
  · have := mix_set (new := eqF d p) (old := List.replicate d 0) (k := j) hle (by simpa using hj)
    rw [← this]
    simp [intsV, List.map_set, eqF, rowF]
theorem eqF_skip {w : World} {B d p j : Nat} (h : Blk w B 3 (intsV (mix (eqF d p) (List.replicate d 0) j))) (hj : j < d) (h0 : rowOf d p j = 0) : Blk w B 3 (intsV (mix (eqF d p) (List.replicate d 0) (j + 1))) := by
  refine h.eq ?_
  have hle : (eqF d p).length = (List.replicate d 0).length := by simp [eqF]
  have e := mix_set (new := eqF d p) (old := List.replicate d 0) (k := j) hle (by simpa using hj)
  rw [← e]
  congr 1
  apply List.ext_getElem?
  intro i
  by_cases hi : j = i
  · subst hi
    have hl : j < (mix (eqF d p) (List.replicate d 0) j).length := by rw [mix_length hle]; simpa using hj
    rw [mix_at hle (by simpa using hj), List.getElem?_set_self hl]
    simp [eqF, rowF, h0]
  · rw [List.getElem?_set_ne hi]

set_option maxRecDepth 100000 in
set_option maxHeartbeats 2000000 in
theorem equation_any (d p : Nat) (piece : ByteArray) (w : World) (hd : 1 ≤ d) (hd2 : d ≤ 10) (hp : p ≤ 100) (hn : piece.size ≤ 1000) :
    Calls Tryd.prog 114 #[.int .i64 d, .int .i64 p, .string piece] w fun e w' =>
      ∃ fv vv, e = .returned (.agg #[fv, vv]) ∧ NsP (fun b => w.heap.size ≤ b) w' fv (eqF d p) ∧ NsP (fun b => w.heap.size ≤ b) w' vv (nums piece) ∧ Below w.heap.size w w' := by
  have hmk := fun w => make_ints d (by omega) w
  go_enter Tryd.func114, Tryd.ntmps114
  go_wp2
  go_loopw [8] (fun jv wr => ∃ j : Nat, j ≤ d ∧ jv = .int .i64 j ∧ Blk wr w.heap.size 155 [.slice none 0 0, .slice none 0 0] ∧ Blk wr (w.heap.size + 1) 3 (intsV (mix (eqF d p) (List.replicate d 0) j)) ∧ Blk wr (w.heap.size + 1 + 1) 155 [.slice (some ⟨w.heap.size + 1, 0, none⟩) d d, .slice none 0 0] ∧ Below w.heap.size w wr) (fun jv _ => d - (intOf jv).toNat)
  case atStart => exact ⟨0, Nat.zero_le _, rfl, ((Blk.new w _ _).alloc _).alloc _, by rw [mix_zero]; exact (by simpa using made_ints (w.alloc (.cells #[.slice none 0 0, .slice none 0 0] 155)) d : Blk _ (w.heap.size + 1) _ _).alloc _, (by simpa using Blk.new ((w.alloc (.cells #[.slice none 0 0, .slice none 0 0] 155)).alloc (.cells (madeCells #[.int .i64 0] d) 3)) #[.slice (some ⟨w.heap.size + 1, 0, none⟩) d d, .slice none 0 0] 155), (((Below.refl _ _).alloc (Nat.le_refl _) _).alloc (by simp) _).alloc (by simp; omega) _⟩
  case round =>
    obtain ⟨j, hj, rfl, kR, kF, kO, hbel⟩ := hrel
    have gR := kR.lt
    have gO := kO.lt
    have KR : Hid (Blk wr w.heap.size 155 [.slice none 0 0, .slice none 0 0]) := kR
    have KF : Hid (Blk wr (w.heap.size + 1) 3 (intsV (mix (eqF d p) (List.replicate d 0) j))) := kF
    have KO : Hid (Blk wr (w.heap.size + 1 + 1) 155 [.slice (some ⟨w.heap.size + 1, 0, none⟩) d d, .slice none 0 0]) := kO
    have q3 := kO.cell_some (k := 0) rfl
    by_cases hlt : j < d
    · obtain ⟨r3, r4, hnew⟩ := eqF_next kF hlt
      have HNEW : Hid (Blk (wr.setCell ⟨w.heap.size + 1, j, none⟩ (.int .i64 (rowOf d p j : Nat))) (w.heap.size + 1) 3 (intsV (mix (eqF d p) (List.replicate d 0) (j + 1)))) := hnew
      have i1 : (0 : Int) ≤ (j : Int) := by omega
      have i2 : (j : Int) < (d : Int) := by omega
      clear kR kF kO hnew hmk
      by_cases hpd : d ≤ p
      · obtain ⟨i, hi⟩ : ∃ i, p = d + i := ⟨p - d, by omega⟩
        have hdec : decide ((d : Int) ≤ (p : Int)) = true := decide_eq_true (by omega)
        have HE : Hid (rowOf d p j = Gf.inv ((d + i) ^^^ j)) := by show _ = _; unfold rowOf; rw [if_neg (by omega), hi]
        have ei : (p : Int) - (d : Int) = (i : Int) := by omega
        have hi2 : i ≤ 100 := by omega
        have hwi : IntKind.i64.wrap (i : Int) = i := by rw [IntKind.wrap_i64]; omega
        clear hi
        have hne : w.heap.size + 1 ≠ w.heap.size + 1 + 1 := by omega
        have HNE : Hid (w.heap.size < w.heap.size + 1 ∧ w.heap.size + 1 < w.heap.size + 1 + 1) := ⟨by omega, by omega⟩
        have HGB : Hid (w.heap.size < wr.heap.size ∧ w.heap.size + 1 + 1 < wr.heap.size) := ⟨gR, gO⟩
        clear gR gO
        generalize w.heap.size + 1 + 1 = RB at *
        generalize w.heap.size + 1 = FB at *
        go_wp2_with fail
        go_region_held3 (fun w' => w'.cell? ⟨RB, 0, none⟩ = some (.slice (some ⟨FB, 0, none⟩) d d)) (go_keep) (first | (go_at_call 95; refine (factor_any d i j (by omega) hi2 hlt _).mono ?_; rintro e w2 ⟨rfl, rfl⟩))
        all_goals
          rw [← HE.out]
          go_wp2
          go_roundw
          case rel => exact ⟨j + 1, by omega, by go_num, (KR.out.other (by show w.heap.size ≠ FB; have := HNE.out; omega) _).drew, HNEW.out.drew, (KO.out.other (Ne.symm hne) _).drew, (hbel.setCell (by show w.heap.size ≤ FB; have := HNE.out; omega) _).drew⟩
          case measure => simp [intOf]; omega
      · have hdec : decide ((d : Int) ≤ (p : Int)) = false := by simp; omega
        by_cases hpj : p = j
        · have HE : Hid (rowOf d p j = 1) := by show _ = _; simp [rowOf, hpj, hlt]
          have heq : ((p : Int) == (j : Int)) = true := by simp [hpj]
          rw [HE.out] at HNEW
          go_wp2
          go_roundw
          case rel => exact ⟨j + 1, by omega, by go_num, KR.out.other (by show w.heap.size ≠ w.heap.size + 1; omega) _, HNEW.out, KO.out.other (by show w.heap.size + 1 + 1 ≠ w.heap.size + 1; omega) _, hbel.setCell (by show w.heap.size ≤ w.heap.size + 1; omega) _⟩
          case measure => simp [intOf]; omega
        · have HE : Hid (rowOf d p j = 0) := by show _ = _; simp [rowOf, hpj]; omega
          have heq : ((p : Int) == (j : Int)) = false := by simp; omega
          go_wp2
          go_roundw
          case rel => exact ⟨j + 1, by omega, by go_num, KR.out, eqF_skip KF.out hlt HE.out, KO.out, hbel⟩
          case measure => simp [intOf]; omega
    · obtain rfl : j = d := by omega
      have hFF : Blk wr (w.heap.size + 1) 3 (intsV (eqF j p)) := by
        have e := mix_all (new := eqF j p) (old := List.replicate j 0) (by simp [eqF])
        rw [List.length_replicate] at e
        rw [e] at kF
        exact kF
      obtain ⟨w1, rfl⟩ : ∃ w1, w1 = wr := ⟨_, rfl⟩
      have gF := hFF.lt
      have KF1 : Hid (Blk w1 (w.heap.size + 1) 3 (intsV (eqF j p))) := hFF
      have HNE : Hid (w.heap.size < w.heap.size + 1 ∧ w.heap.size + 1 < w.heap.size + 1 + 1 ∧ w.heap.size < w1.heap.size ∧ w.heap.size + 1 < w1.heap.size ∧ w.heap.size + 1 + 1 < w1.heap.size) := ⟨by omega, by omega, gR, gF, gO⟩
      have hOlt : w.heap.size + 1 + 1 < w1.heap.size := gO
      have HBEL : Hid (Below w.heap.size w w1) := hbel
      clear kR kF kO hFF KF gR gF gO q3 hmk hbel
      generalize w.heap.size + 1 + 1 = RB at *
      generalize w.heap.size + 1 = FB at *
      go_wp2
      go_loopw [9] (fun tv wr => ∃ (t : Nat) (v : Value), t ≤ piece.size ∧ tv = .int .i64 t ∧ Blk wr RB 155 [.slice (some ⟨FB, 0, none⟩) j j, v] ∧ But RB w1 wr ∧ wr.ownsRow w1.heap.size 3 1 v t (intsV ((nums piece).take t))) (fun tv _ => piece.size - (intOf tv).toNat)
      case atStart => exact ⟨0, _, Nat.zero_le _, rfl, KO.out, But.refl _ _, World.ownsRow_nil _ _ _ _⟩
      case round =>
        obtain ⟨t, v, ht, rfl, kO, hbut, hown⟩ := hrel
        obtain ⟨va0, vc0, rfl⟩ := owns_slice hown
        by_cases htlt : t < piece.size
        · have c1 := kO.cell_some (k := 1) rfl
          have f1 := kO.free 1
          have HNX : Hid (intsV ((nums piece).take t) ++ [.int .i64 ((piece[t]'htlt).toNat : Int)] = intsV ((nums piece).take (t + 1))) := by
            show _ = _
            have hl : t < (nums piece).length := by rw [nums_length]; exact htlt
            rw [List.take_add_one, List.getElem?_eq_getElem hl]
            have := nums_get piece t htlt
            rw [List.getD_eq_getElem?_getD, List.getElem?_eq_getElem hl, Option.getD_some] at this
            simp [intsV, this]
          have KO1 : Hid (Blk wr RB 155 [.slice (some ⟨FB, 0, none⟩) j j, .slice va0 t vc0]) := kO
          have hsz := hbut.size
          have HBUT : Hid (But RB w1 wr) := hbut
          have hlen : (nums piece).length = piece.size := nums_length piece
          clear kO hbut hlen
          have hwc : IntKind.i64.wrap ((piece[t]'htlt).toNat : Int) = ((piece[t]'htlt).toNat : Int) := by
            have := (piece[t]'htlt).toNat_lt
            rw [IntKind.wrap_i64]; omega
          have hRlt : RB < wr.heap.size := by omega
          have hRne : RB ≠ wr.heap.size := by omega
          go_wp2_with fail
          go_region_law (refine step_append_one rfl _ _ 45 rfl w1.heap.size 3 (.int .i64 0) 8 Tryd.underlying45 infoInt rfl (by decide) (.slice va0 t vc0) t _ (by simp [Act.eval]) (by exact (hown.alloc _).drew) ⟨wr.heap.size, 0, none⟩ 1 (.int .i64 ((piece[t]'htlt).toNat : Int)) (by simp [Act.eval]) (by exact (Blk.new wr _ _).cell_some rfl) rfl (by omega) (by simp; omega) ?_; rw [HNX.out]; intro v' w2 hown' hbel'; obtain ⟨va, vc, rfl⟩ := owns_slice hown'; have hb2 := hbel' w1.heap.size wr ((Below.refl _ _).alloc hsz _).drew (Nat.le_refl _); have c2 := (hb2.cell (p := ⟨RB, 1, none⟩) (by exact hOlt)).trans c1; have f2 := (hb2.frozen (p := ⟨RB, 1, none⟩) (by exact hOlt)).trans f1)
          all_goals
            go_wp2
            go_roundw
            case rel => exact ⟨t + 1, _, by omega, by go_num, ((KO1.out.below hb2 hOlt).set 1 _), (but_low HBUT.out hb2).setCell 1 _, ownsRow_setCell_below hown' (by exact hOlt) _⟩
            case measure => simp [intOf]; omega
        · obtain rfl : t = piece.size := by omega
          have hV : wr.ownsRow w1.heap.size 3 1 (.slice va0 piece.size vc0) (nums piece).length (intsV (nums piece)) := by
            rw [List.take_of_length_le (by rw [nums_length]; exact Nat.le_refl _)] at hown
            rw [nums_length]; exact hown
          have hR := hbut.blk KR.out (by have := HNE.out; omega)
          have hF := hbut.blk KF1.out (by have := HNE.out; omega)
          have y0 := kO.cell_some (k := 0) rfl
          have y1 := kO.cell_some (k := 1) rfl
          have z0 := hR.cell_some (k := 0) rfl
          have z1 := hR.cell_some (k := 1) rfl
          have z2 := hR.free 0
          have z3 := hR.free 1
          have nF : FB ≠ w.heap.size := by have := HNE.out; omega
          have HR : Hid (Blk wr w.heap.size 155 [.slice none 0 0, .slice none 0 0]) := hR
          have HF : Hid (Blk wr FB 3 (intsV (eqF j p))) := hF
          have HB : Hid (Below w.heap.size w wr) := hbut.below HBEL.out (by have := HNE.out; omega) (by have := HNE.out; omega)
          have hwl : w.heap.size < w1.heap.size := HNE.out.2.2.1
          have HV : Hid (wr.ownsRow w1.heap.size 3 1 (.slice va0 piece.size vc0) (nums piece).length (intsV (nums piece))) := hV
          clear kO hbut hR hF hV hown
          go_wp2
          have hr := (HR.out.set 0 (.slice (some ⟨FB, 0, none⟩) j j)).set 1 (.slice va0 piece.size vc0)
          refine bodyPost_ret (v := .agg #[.slice (some ⟨FB, 0, none⟩) j j, .slice va0 piece.size vc0]) (results_cell_row (p := 6) (ty := 155) (by kernel_rfl) _ _ w.heap.size 155 _ (0, 0) _ rfl hr Tryd.underlying155 rfl infoRowSize) rfl ⟨_, _, rfl, ?_, ?_, ?_⟩
          · exact NsP.of_blk ((HF.out.other nF _).other nF _) (by have := HNE.out; omega) _ _ (eqF_length _ _).symm
          · exact NsP.of_owns (ownsRow_setCell_below (ownsRow_setCell_below HV.out (by exact hwl) _) (by exact hwl) _) (fun b hb => by omega)
          · exact (HB.out.setCell (by exact Nat.le_refl _) _).setCell (by exact Nat.le_refl _) _
end Go.Proofs.YtokmllopbfmadaaDoor.Ref
