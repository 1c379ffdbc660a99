import Derived.Deep.RegionHeld3
import Derived.Test.YtokmllopbfmadaaGreatDoorGNBig
import Derived.Test.YtokmllopbfmadaaGreatDoorGRefCheck
namespace Go.Proofs.YtokmllopbfmadaaGreatDoor.Ref
open Go.RowKit Mem FieldWalks Tab ByTab Parts
open Gf (Bytes sumTo addTo)
open Plans (But intsV infoInt)

theorem infoRowSize : (Tryz.prog.info? 130).map (·.size) = some 2 := by kernel_rfl
/-- What the call has laid ahead of its loops. -/
def LessSt (w : World) (d L : Nat) (fa va fb vb : Value) (o : Value) (wx : World) : Prop :=
  ∃ FB VB OB : Nat, o = .pointer (some ⟨OB, 0, none⟩) ∧ FB ≠ VB ∧ w.heap.size ≤ FB ∧ w.heap.size ≤ VB ∧
    Blk wx w.heap.size 130 [fa, va] ∧ Blk wx (w.heap.size + 1) 130 [fb, vb] ∧ Blk wx (w.heap.size + 2) 130 [.slice none 0 0, .slice none 0 0] ∧
    Blk wx FB 3 (intsV (List.replicate d 0)) ∧ Blk wx VB 3 (intsV (List.replicate L 0)) ∧ Blk wx OB 130 [.slice (some ⟨FB, 0, none⟩) d d, .slice (some ⟨VB, 0, none⟩) L L] ∧ Below w.heap.size w wx

theorem LessSt.of {w W : World} {d L FB VB OB : Nat} {fa va fb vb : Value} (h0 : W.heap[w.heap.size]? = some (.cells #[fa, va] 130 (0, 0))) (h1 : W.heap[w.heap.size + 1]? = some (.cells #[fb, vb] 130 (0, 0)))
    (h2 : W.heap[w.heap.size + 1 + 1]? = some (.cells #[.slice none 0 0, .slice none 0 0] 130 (0, 0))) (hF : W.heap[FB]? = some (.cells (madeCells #[.int .i64 0] d) 3 (0, 0))) (hV : W.heap[VB]? = some (.cells (madeCells #[.int .i64 0] L) 3 (0, 0)))
    (hO : W.heap[OB]? = some (.cells #[.slice (some ⟨FB, 0, none⟩) d d, .slice (some ⟨VB, 0, none⟩) L L] 130 (0, 0))) (hne : FB ≠ VB) (hFs : w.heap.size ≤ FB) (hVs : w.heap.size ≤ VB) (hb : Below w.heap.size w W) : LessSt w d L fa va fb vb (.pointer (some ⟨OB, 0, none⟩)) W := by
  have e : ∀ n, (madeCells #[Value.int .i64 0] n) = (intsV (List.replicate n 0)).toArray := fun n => by
    apply Array.toList_inj.1
    rw [toList_madeCells_one]; simp [intsV]
  refine ⟨FB, VB, OB, rfl, hne, hFs, hVs, h0, h1, h2, ?_, ?_, hO, hb⟩
  · unfold Blk; rw [hF, e]
  · unfold Blk; rw [hV, e]
theorem at_alloc {w : World} {k : Nat} {o x : Obj} (h : w.heap[k]? = some o) : (w.alloc x).heap[k]? = some o := (Below.heap_alloc w x k (lt_of_block h)).trans h
theorem new_alloc {k : Nat} (w : World) (x : Obj) (hk : k = w.heap.size) : (w.alloc x).heap[k]? = some x := by subst hk; exact heap_alloc_new w x
theorem six (w : World) (x0 x1 x2 x3 x4 x5 : Obj) : let W := ((((((w.alloc x0).alloc x1).alloc x2).alloc x3).alloc x4).alloc x5).drew
    W.heap[w.heap.size]? = some x0 ∧ W.heap[w.heap.size + 1]? = some x1 ∧ W.heap[w.heap.size + 1 + 1]? = some x2 ∧ W.heap[w.heap.size + 1 + 1 + 1]? = some x3 ∧ W.heap[w.heap.size + 1 + 1 + 1 + 1]? = some x4 ∧ W.heap[w.heap.size + 1 + 1 + 1 + 1 + 1]? = some x5 ∧ Below w.heap.size w W := by
  exact ⟨at_alloc (at_alloc (at_alloc (at_alloc (at_alloc (new_alloc w x0 rfl))))), at_alloc (at_alloc (at_alloc (at_alloc (new_alloc _ x1 (by simp))))), at_alloc (at_alloc (at_alloc (new_alloc _ x2 (by simp)))), at_alloc (at_alloc (new_alloc _ x3 (by simp))), at_alloc (new_alloc _ x4 (by simp)), new_alloc _ x5 (by simp),
    ((((((((Below.refl _ _).alloc (Nat.le_refl _) _).alloc (by simp) _).alloc (by simp; omega) _).alloc (by simp; omega) _).alloc (by simp; omega) _).alloc (by simp; omega) _)).drew⟩

/-- What a round of either loop reads and writes. -/
theorem less_facts {w wc wr : World} {f1 f2 : List Nat} {n m j B : Nat} {P R : Nat → Prop} {ca cb : Nat} {a b : Option Addr} (hbut : But B wc wr) (hblk : Blk wr B 3 (intsV (mix (addTo m f1 f2) (List.replicate n 0) j)))
    (l1 : f1.length = n) (l2 : f2.length = n) (h1 : NsP P w (.slice a n ca) f1) (h2 : NsP R w (.slice b n cb) f2) (b1 : Bytes f1) (b2 : Bytes f2) (hm : m < 256) (hB : w.heap.size ≤ B) (hb : Below w.heap.size w wc) (hj : j < n) :
    ∃ p q x y : Nat, a = some ⟨p, 0, none⟩ ∧ b = some ⟨q, 0, none⟩ ∧ p ≠ B ∧ q ≠ B ∧ x < 256 ∧ y < 256 ∧ wr.cell? ⟨p, j, none⟩ = some (.int .i64 (x : Nat)) ∧ wr.cell? ⟨q, j, none⟩ = some (.int .i64 (y : Nat)) ∧ wr.cell? ⟨B, j, none⟩ = some (.int .i64 0) ∧ wr.frozen? ⟨B, j, none⟩ = false ∧
      bits .xor .i64 (x : Int) ((Gf.times m y : Nat) : Int) = ((x ^^^ Gf.times m y : Nat) : Int) ∧ Blk (wr.setCell ⟨B, j, none⟩ (.int .i64 ((x ^^^ Gf.times m y : Nat) : Int))) B 3 (intsV (mix (addTo m f1 f2) (List.replicate n 0) (j + 1))) := by
  obtain ⟨p, c, e1, hp, hpc⟩ := h1.pos (by omega)
  obtain ⟨q, c', e2, hq, hqc⟩ := h2.pos (by omega)
  injection e1 with e11 e12 e13
  injection e2 with e21 e22 e23
  have la : (addTo m f1 f2).length = n := by rw [Gf.addTo_length (by omega)]; omega
  have hle : (addTo m f1 f2).length = (List.replicate n 0).length := by simp [la]
  have hx := b1.at j (by omega)
  have hy := b2.at j (by omega)
  have ht := Gf.times_lt m (f2[j]'(by omega)) hm
  have hsz := hb.size
  have back : ∀ k, k < w.heap.size → wr.cell? ⟨k, j, none⟩ = w.cell? ⟨k, j, none⟩ := fun k hk => (hbut.cell (p := ⟨k, j, none⟩) (by show k ≠ B; omega) (by show k < wc.heap.size; omega)).trans (hb.cell (p := ⟨k, j, none⟩) hk)
  refine ⟨p, q, f1[j], f2[j], e11, e21, by omega, by omega, hx, hy, ?_, ?_, ?_, hblk.free j, Gf.i64_xor _ _ (by omega) (by omega), ?_⟩
  · rw [back p hp]; exact hpc j (by omega)
  · rw [back q hq]; exact hqc j (by omega)
  · refine hblk.cell_some ?_
    have := mix_at (new := addTo m f1 f2) (old := List.replicate n 0) (k := j) hle (by simpa using hj)
    simp [intsV, this]
  · refine (hblk.set j _).eq ?_
    have := mix_set (new := addTo m f1 f2) (old := List.replicate n 0) (k := j) hle (by simpa using hj)
    rw [← this]
    simp [intsV, List.map_set, addTo]

set_option maxRecDepth 100000 in
set_option maxHeartbeats 2000000 in
theorem less_any (f1 v1 f2 v2 : List Nat) (d L m : Nat) (P Q R S : Nat → Prop) (fa va fb vb : Value) (w : World) (h1 : NsP P w fa f1) (h2 : NsP Q w va v1) (h3 : NsP R w fb f2) (h4 : NsP S w vb v2)
    (hl1 : f1.length = d) (hl2 : v1.length = L) (hl3 : f2.length = d) (hl4 : v2.length = L) (b1 : Bytes f1) (b2 : Bytes v1) (b3 : Bytes f2) (b4 : Bytes v2) (hm : m < 256) (hd : d ≤ 1000) (hL : L ≤ 1000) :
    Calls Tryz.prog 93 #[.agg #[fa, va], .int .i64 m, .agg #[fb, vb]] w fun e w' =>
      ∃ fv vv, e = .returned (.agg #[fv, vv]) ∧ NsP (fun b => w.heap.size ≤ b) w' fv (addTo m f1 f2) ∧ NsP (fun b => w.heap.size ≤ b) w' vv (addTo m v1 v2) ∧ Below w.heap.size w w' := by
  obtain ⟨a1, c1, rfl⟩ := h1.form
  obtain ⟨a2, c2, rfl⟩ := h2.form
  obtain ⟨a3, c3, rfl⟩ := h3.form
  obtain ⟨a4, c4, rfl⟩ := h4.form
  rw [hl1] at h1 ⊢
  rw [hl2] at h2 ⊢
  rw [hl3] at h3 ⊢
  rw [hl4] at h4 ⊢
  have HL1 : Hid (f1.length = d ∧ v1.length = L ∧ f2.length = d ∧ v2.length = L) := ⟨hl1, hl2, hl3, hl4⟩
  clear hl1 hl2 hl3 hl4
  have H1 : Hid (NsP P w (.slice a1 d c1) f1) := h1
  have H2 : Hid (NsP Q w (.slice a2 L c2) v1) := h2
  have H3 : Hid (NsP R w (.slice a3 d c3) f2) := h3
  have H4 : Hid (NsP S w (.slice a4 L c4) v2) := h4
  have hmk1 := fun w => make_ints d (by omega) w
  have hmk2 := fun w => make_ints L (by omega) w
  clear h1 h2 h3 h4
  go_enter Tryz.func93, Tryz.ntmps93
  go_upto_region 1 with fail
  go_cut [7] from 10 to 18 (fun o wx => LessSt w d L (.slice a1 d c1) (.slice a2 L c2) (.slice a3 d c3) (.slice a4 L c4) o wx)
  case first =>
    go_region
    all_goals
      go_wp2
      go_meet
      case rel =>
        obtain ⟨s0, s1, s2, s3, s4, s5, hb⟩ := six w _ _ _ _ _ _
        first
          | exact LessSt.of s0 s1 s2 s3 s4 s5 (by omega) (by omega) (by omega) hb
          | exact LessSt.of s0 s1 s2 s3 s5 s4 (by omega) (by omega) (by omega) hb
          | exact LessSt.of s0 s1 s2 s4 s3 s5 (by omega) (by omega) (by omega) hb
          | exact LessSt.of s0 s1 s2 s4 s5 s3 (by omega) (by omega) (by omega) hb
          | exact LessSt.of s0 s1 s2 s5 s3 s4 (by omega) (by omega) (by omega) hb
          | exact LessSt.of s0 s1 s2 s5 s4 s3 (by omega) (by omega) (by omega) hb
  case rest =>
    obtain ⟨FB, VB, OB, rfl, hne, hFs, hVs, k0, k1, k2, kF, kV, kO, hb⟩ := hcut
    have e1 : ∀ m (f1 f2 : List Nat), f1.length = f2.length → (addTo m f1 f2).length = f1.length := fun m f1 f2 h => Gf.addTo_length h.symm
    have LL : Hid ((addTo m f1 f2).length = d ∧ (addTo m v1 v2).length = L) := by
      have := HL1.out
      exact ⟨by rw [e1 _ _ _ (by omega)]; omega, by rw [e1 _ _ _ (by omega)]; omega⟩
    have hneO : FB ≠ OB := kF.type_ne kO (by decide)
    have hneO2 : VB ≠ OB := kV.type_ne kO (by decide)
    have K0 : Hid (Blk wc w.heap.size 130 [.slice a1 d c1, .slice a2 L c2]) := k0
    have K1 : Hid (Blk wc (w.heap.size + 1) 130 [.slice a3 d c3, .slice a4 L c4]) := k1
    have K2 : Hid (Blk wc (w.heap.size + 2) 130 [.slice none 0 0, .slice none 0 0]) := k2
    have KF : Hid (Blk wc FB 3 (intsV (List.replicate d 0))) := kF
    have KV : Hid (Blk wc VB 3 (intsV (List.replicate L 0))) := kV
    have KO : Hid (Blk wc OB 130 [.slice (some ⟨FB, 0, none⟩) d d, .slice (some ⟨VB, 0, none⟩) L L]) := kO
    have HB : Hid (Below w.heap.size w wc) := hb
    have n0 : w.heap.size ≠ FB := k0.type_ne kF (by decide)
    have n1 : w.heap.size + 1 ≠ FB := k1.type_ne kF (by decide)
    have n2 : w.heap.size ≠ VB := k0.type_ne kV (by decide)
    have n3 : w.heap.size + 1 ≠ VB := k1.type_ne kV (by decide)
    have g0 := k0.lt
    have g1 := k1.lt
    have g2 := kO.lt
    have gF := kF.lt
    have gV := kV.lt
    clear k0 k1 k2 kF kV kO hb e1
    go_wp2
    go_loopw [8] (fun jv wr => ∃ j : Nat, j ≤ d ∧ jv = .int .i64 j ∧ But FB wc wr ∧ Blk wr FB 3 (intsV (mix (addTo m f1 f2) (List.replicate d 0) j))) (fun jv _ => d - (intOf jv).toNat)
    case atStart => exact ⟨0, Nat.zero_le _, rfl, But.refl _ _, by rw [mix_zero]; exact KF.out⟩
    case round =>
      obtain ⟨j, hj, rfl, hbut, hblk⟩ := hrel
      have q1 : wr.cell? ⟨w.heap.size, 0, none⟩ = some (.slice a1 d c1) := (hbut.cell n0 g0).trans (K0.out.cell_some rfl)
      by_cases hlt : j < d
      · obtain ⟨p, q, x, y, rfl, rfl, np, nq_, hx, hy, r1, r2, r3, r4, ex, hnew⟩ := less_facts hbut hblk HL1.out.1 HL1.out.2.2.1 H1.out H3.out b1 b3 hm hFs HB.out hlt
        have q2 : wr.cell? ⟨w.heap.size + 1, 0, none⟩ = some (.slice (some ⟨q, 0, none⟩) d c3) := (hbut.cell n1 g1).trans (K1.out.cell_some rfl)
        have q3 : wr.cell? ⟨OB, 0, none⟩ = some (.slice (some ⟨FB, 0, none⟩) d d) := (hbut.cell (Ne.symm hneO) g2).trans (KO.out.cell_some rfl)
        have HNEW : Hid (Blk (wr.setCell ⟨FB, j, none⟩ (.int .i64 ((x ^^^ Gf.times m y : Nat) : Int))) FB 3 (intsV (mix (addTo m f1 f2) (List.replicate d 0) (j + 1)))) := hnew
        have HBUT : Hid (But FB wc wr) := hbut
        have EX : Hid (bits .xor .i64 (x : Int) ((Gf.times m y : Nat) : Int) = ((x ^^^ Gf.times m y : Nat) : Int)) := ex
        clear hnew hbut hblk ex
        have i1 : (0 : Int) ≤ (j : Int) := by omega
        have m1 := Ne.symm np
        have m2 := Ne.symm nq_
        have m3 := Ne.symm n0
        have m4 := Ne.symm n1
        have i2 : (j : Int) < (d : Int) := by omega
        go_wp2_with fail
        go_region_held3 (fun w' => w'.cell? ⟨OB, 0, none⟩ = some (.slice (some ⟨FB, 0, none⟩) d d) ∧ w'.cell? ⟨w.heap.size, 0, none⟩ = some (.slice (some ⟨p, 0, none⟩) d c1) ∧ w'.cell? ⟨w.heap.size + 1, 0, none⟩ = some (.slice (some ⟨q, 0, none⟩) d c3) ∧ w'.cell? ⟨p, j, none⟩ = some (.int .i64 (x : Nat)) ∧ w'.cell? ⟨q, j, none⟩ = some (.int .i64 (y : Nat))) (go_keep) (first | (go_at_call 51; refine (times_any m y hm hy _).mono ?_; rintro e w2 ⟨rfl, rfl⟩))
        all_goals
          rw [EX.out]
          go_wp2
          go_roundw
          case rel => exact ⟨j + 1, by omega, by go_num, (HBUT.out.setCell j _).drew, HNEW.out.drew⟩
          case measure => simp [intOf]; omega
      · obtain rfl : j = d := by omega
        have hFF : Blk wr FB 3 (intsV (addTo m f1 f2)) := by
          have e := mix_all (new := addTo m f1 f2) (old := List.replicate j 0) (by simp [LL.out.1])
          rw [List.length_replicate] at e
          rw [e] at hblk
          exact hblk
        obtain ⟨w1, rfl⟩ : ∃ w1, w1 = wr := ⟨_, rfl⟩
        have KF1 : Hid (Blk w1 FB 3 (intsV (addTo m f1 f2))) := hFF
        have KV1 : Hid (Blk w1 VB 3 (intsV (List.replicate L 0))) := hbut.blk KV.out (Ne.symm hne)
        have HB1 : Hid (Below w.heap.size w w1) := hbut.below HB.out hFs (by omega)
        have L0 : Hid (Blk w1 w.heap.size 130 [.slice a1 j c1, .slice a2 L c2]) := hbut.blk K0.out n0
        have L1 : Hid (Blk w1 (w.heap.size + 1) 130 [.slice a3 j c3, .slice a4 L c4]) := hbut.blk K1.out n1
        have L2 : Hid (Blk w1 (w.heap.size + 2) 130 [.slice none 0 0, .slice none 0 0]) := hbut.blk K2.out (K2.out.type_ne KF.out (by decide))
        have LO : Hid (Blk w1 OB 130 [.slice (some ⟨FB, 0, none⟩) j j, .slice (some ⟨VB, 0, none⟩) L L]) := hbut.blk KO.out (Ne.symm hneO)
        have hs1 := hbut.size
        clear hbut hblk hFF K0 K1 K2 KO KF KV HB
        go_wp2
        go_loopw [9] (fun jv wr => ∃ t : Nat, t ≤ L ∧ jv = .int .i64 t ∧ But VB w1 wr ∧ Blk wr VB 3 (intsV (mix (addTo m v1 v2) (List.replicate L 0) t))) (fun jv _ => L - (intOf jv).toNat)
        case atStart => exact ⟨0, Nat.zero_le _, rfl, But.refl _ _, by rw [mix_zero]; exact KV1.out⟩
        case round =>
          obtain ⟨t, ht, rfl, hbut, hblk⟩ := hrel
          have q1 : wr.cell? ⟨w.heap.size, 1, none⟩ = some (.slice a2 L c2) := (hbut.cell n2 (by show w.heap.size < w1.heap.size; omega)).trans (L0.out.cell_some rfl)
          by_cases hlt : t < L
          · obtain ⟨p, q, x, y, rfl, rfl, np, nq_, hx, hy, r1, r2, r3, r4, ex, hnew⟩ := less_facts hbut hblk HL1.out.2.1 HL1.out.2.2.2 H2.out H4.out b2 b4 hm hVs HB1.out hlt
            have q2 : wr.cell? ⟨w.heap.size + 1, 1, none⟩ = some (.slice (some ⟨q, 0, none⟩) L c4) := (hbut.cell n3 (by show w.heap.size + 1 < w1.heap.size; omega)).trans (L1.out.cell_some rfl)
            have q3 : wr.cell? ⟨OB, 1, none⟩ = some (.slice (some ⟨VB, 0, none⟩) L L) := (hbut.cell (Ne.symm hneO2) (by show OB < w1.heap.size; omega)).trans (LO.out.cell_some rfl)
            have HNEW : Hid (Blk (wr.setCell ⟨VB, t, none⟩ (.int .i64 ((x ^^^ Gf.times m y : Nat) : Int))) VB 3 (intsV (mix (addTo m v1 v2) (List.replicate L 0) (t + 1)))) := hnew
            have HBUT : Hid (But VB w1 wr) := hbut
            have EX : Hid (bits .xor .i64 (x : Int) ((Gf.times m y : Nat) : Int) = ((x ^^^ Gf.times m y : Nat) : Int)) := ex
            clear hnew hbut hblk ex
            have i1 : (0 : Int) ≤ (t : Int) := by omega
            have m1 := Ne.symm np
            have m2 := Ne.symm nq_
            have m3 := Ne.symm n2
            have m4 := Ne.symm n3
            have i2 : (t : Int) < (L : Int) := by omega
            go_wp2_with fail
            go_region_held3 (fun w' => w'.cell? ⟨OB, 1, none⟩ = some (.slice (some ⟨VB, 0, none⟩) L L) ∧ w'.cell? ⟨w.heap.size, 1, none⟩ = some (.slice (some ⟨p, 0, none⟩) L c2) ∧ w'.cell? ⟨w.heap.size + 1, 1, none⟩ = some (.slice (some ⟨q, 0, none⟩) L c4) ∧ w'.cell? ⟨p, t, none⟩ = some (.int .i64 (x : Nat)) ∧ w'.cell? ⟨q, t, none⟩ = some (.int .i64 (y : Nat))) (go_keep) (first | (go_at_call 51; refine (times_any m y hm hy _).mono ?_; rintro e w2 ⟨rfl, rfl⟩))
            all_goals
              rw [EX.out]
              go_wp2
              go_roundw
              case rel => exact ⟨t + 1, by omega, by go_num, (HBUT.out.setCell t _).drew, HNEW.out.drew⟩
              case measure => simp [intOf]; omega
          · obtain rfl : t = L := by omega
            have hVV : Blk wr VB 3 (intsV (addTo m v1 v2)) := by
              have e := mix_all (new := addTo m v1 v2) (old := List.replicate t 0) (by simp [LL.out.2])
              rw [List.length_replicate] at e
              rw [e] at hblk
              exact hblk
            have hO := hbut.blk LO.out (Ne.symm hneO2)
            have h2 := hbut.blk L2.out (L2.out.type_ne KV1.out (by decide))
            have y0 := hO.cell_some (k := 0) rfl
            have y1 := hO.cell_some (k := 1) rfl
            have z0 := h2.cell_some (k := 0) rfl
            have z1 := h2.cell_some (k := 1) rfl
            have z2 := h2.free 0
            have z3 := h2.free 1
            have HF2 : Hid (Blk wr FB 3 (intsV (addTo m f1 f2))) := hbut.blk KF1.out hne
            have HV2 : Hid (Blk wr VB 3 (intsV (addTo m v1 v2))) := hVV
            have HB2 : Hid (Below w.heap.size w wr) := hbut.below HB1.out hVs (by omega)
            have nn : FB ≠ w.heap.size + 2 := (HF2.out).type_ne h2 (by decide)
            have nn2 : VB ≠ w.heap.size + 2 := hVV.type_ne h2 (by decide)
            have HR : Hid (Blk wr (w.heap.size + 1 + 1) 130 [.slice none 0 0, .slice none 0 0]) := h2
            clear hO h2 hbut hblk hVV
            go_wp2
            have hr := (HR.out.set 0 (.slice (some ⟨FB, 0, none⟩) j j)).set 1 (.slice (some ⟨VB, 0, none⟩) t t)
            refine bodyPost_ret (v := .agg #[.slice (some ⟨FB, 0, none⟩) j j, .slice (some ⟨VB, 0, none⟩) t t]) (results_cell_row (p := 6) (ty := 130) (by kernel_rfl) _ _ (w.heap.size + 1 + 1) 130 _ (0, 0) _ rfl hr Tryz.underlying130 rfl infoRowSize) rfl ⟨_, _, rfl, ?_, ?_, ?_⟩
            · exact NsP.of_blk ((HF2.out.other nn _).other nn _) hFs _ _ LL.out.1.symm
            · exact NsP.of_blk ((HV2.out.other nn2 _).other nn2 _) hVs _ _ LL.out.2.symm
            · exact (HB2.out.setCell (by show w.heap.size ≤ w.heap.size + 1 + 1; omega) _).setCell (by show w.heap.size ≤ w.heap.size + 1 + 1; omega) _
end Go.Proofs.YtokmllopbfmadaaGreatDoor.Ref

namespace Go.Proofs.YtokmllopbfmadaaGreatDoor.Ref
open Go.RowKit Mem FieldWalks Tab ByTab Parts
open Gf (Bytes)

theorem str_beq (a b : ByteArray) : (a.toList == b.toList) = decide (a = b) := by
  rw [Bool.eq_iff_iff, decide_eq_true_iff, ByteArray.toList_eq, ByteArray.toList_eq, beq_iff_eq]
  exact ⟨fun h => ByteArray.ext (Array.ext' h), fun h => by rw [h]⟩
theorem byteAt_get (p : ByteArray) (i : Nat) (h : i < p.size) : (p[i]'h).toNat = byteAt p i := (nums_get p i h).symm
theorem byteAt_lt (p : ByteArray) (i : Nat) : byteAt p i < 256 := (nums_bytes p).getD i
theorem results_row_tmp {P : Program} {fn : Func} {p u : Tmp} {ty : TypeId} (h : fn.results = #[.cell p ty, .tmp u]) (tmps : Array Value) (w : World) (g : Nat) (t : TypeId) (cs : Array Value) (fr : Nat × Nat) (d : TypeDesc)
    (hp : tmps.getD p undef = .pointer (some ⟨g, 0, none⟩)) (hg : w.heap[g]? = some (.cells cs t fr))
    (hu : P.underlying ty = some d) (hd : (match d with | .struct _ | .array _ _ => true | _ => false) = true) (hi : (P.info? ty).map (·.size) = some cs.size) (v : Value) (hv : tmps.getD u undef = v) :
    (results fn tmps).run P w = .ok (.tuple #[.agg cs, v]) w := by
  have hp' : tmps[p]?.getD undef = .pointer (some ⟨g, 0, none⟩) := by simpa using hp
  have hv' : tmps[u]?.getD undef = v := by simpa using hv
  simp [results, h, hp', hv', asAddr, run_loadVar_row w g t ty cs fr d hg hu hd hi]
theorem results_row_tmp3 {P : Program} {fn : Func} {p u u2 u3 : Tmp} {ty : TypeId} (h : fn.results = #[.cell p ty, .tmp u, .tmp u2, .tmp u3]) (tmps : Array Value) (w : World) (g : Nat) (t : TypeId) (cs : Array Value) (fr : Nat × Nat) (d : TypeDesc)
    (hp : tmps.getD p undef = .pointer (some ⟨g, 0, none⟩)) (hg : w.heap[g]? = some (.cells cs t fr))
    (hu : P.underlying ty = some d) (hd : (match d with | .struct _ | .array _ _ => true | _ => false) = true) (hi : (P.info? ty).map (·.size) = some cs.size) (v v2 v3 : Value) (hv : tmps.getD u undef = v) (hv2 : tmps.getD u2 undef = v2) (hv3 : tmps.getD u3 undef = v3) :
    (results fn tmps).run P w = .ok (.tuple #[.agg cs, v, v2, v3]) w := by
  have hp' : tmps[p]?.getD undef = .pointer (some ⟨g, 0, none⟩) := by simpa using hp
  have hv' : tmps[u]?.getD undef = v := by simpa using hv
  have hv2' : tmps[u2]?.getD undef = v2 := by simpa using hv2
  have hv3' : tmps[u3]?.getD undef = v3 := by simpa using hv3
  simp [results, h, hp', hv', hv2', hv3', asAddr, run_loadVar_row w g t ty cs fr d hg hu hd hi]
theorem infoOpened : (Tryz.prog.info? 54).map (·.size) = some 5 := by kernel_rfl
/-- The zero value of what Open answers. -/
def noOpened : Value := .agg #[.int .i64 0, .int .i64 0, .int .i64 0, .slice none 0 0, .slice none 0 0]

set_option maxRecDepth 100000 in
set_option maxHeartbeats 1000000 in
theorem rOpen_head (p : ByteArray) (hp : p.size < 4611686018427387904) (h : ¬ headOk p) (w : World) :
    Calls Tryz.prog 29 #[.string p] w fun e w' => e = .returned (.tuple #[noOpened, .int .i64 9]) ∧ Below w.heap.size w w' := by
  by_cases h10 : p.size < 10
  · have e0 : decide ((p.size : Int) < 10) = true := decide_eq_true (by omega)
    clear h
    go_enter Tryz.func29, Tryz.ntmps29
    go_wp2
    refine bodyPost_ret (v := .tuple #[noOpened, .int .i64 9]) (results_row_tmp (p := 2) (u := 3) (ty := 54) (by kernel_rfl) _ _ w.heap.size 54 #[.int .i64 0, .int .i64 0, .int .i64 0, .slice none 0 0, .slice none 0 0] (0, 0) _ rfl (at_alloc (new_alloc w _ rfl)) Tryz.underlying54 rfl infoOpened _ rfl) rfl ⟨rfl, ?_⟩
    exact ((Below.refl _ _).alloc (Nat.le_refl _) _).alloc (by simp) _
  · have e0 : decide ((p.size : Int) < 10) = false := decide_eq_false (by omega)
    have hz : (p.extract 0 6).size = 6 := by rw [ByteArray.size_extract]; omega
    obtain ⟨c0, hc0⟩ : ∃ c, c = byteAt p 0 := ⟨_, rfl⟩
    obtain ⟨c1, hc1⟩ : ∃ c, c = byteAt p 1 := ⟨_, rfl⟩
    obtain ⟨D, hD⟩ : ∃ c, c = byteAt p 2 := ⟨_, rfl⟩
    obtain ⟨S, hS⟩ : ∃ c, c = byteAt p 3 := ⟨_, rfl⟩
    obtain ⟨c4, hc4⟩ : ∃ c, c = byteAt p 4 := ⟨_, rfl⟩
    obtain ⟨c5, hc5⟩ : ∃ c, c = byteAt p 5 := ⟨_, rfl⟩
    have i0 : 0 < p.size := by omega
    have i1 : 1 < p.size := by omega
    have i2 : 2 < p.size := by omega
    have i3 : 3 < p.size := by omega
    have i4 : 4 < p.size := by omega
    have i5 : 5 < p.size := by omega
    have g0 : (p[0]'i0).toNat = c0 := by rw [hc0]; exact byteAt_get p 0 i0
    have g1 : (p[1]'i1).toNat = c1 := by rw [hc1]; exact byteAt_get p 1 i1
    have g2 : (p[2]'i2).toNat = D := by rw [hD]; exact byteAt_get p 2 i2
    have g3 : (p[3]'i3).toNat = S := by rw [hS]; exact byteAt_get p 3 i3
    have g4 : (p[4]'i4).toNat = c4 := by rw [hc4]; exact byteAt_get p 4 i4
    have g5 : (p[5]'i5).toNat = c5 := by rw [hc5]; exact byteAt_get p 5 i5
    have l0 : c0 < 256 := by rw [hc0]; exact byteAt_lt _ _
    have l1 : c1 < 256 := by rw [hc1]; exact byteAt_lt _ _
    have l2 : D < 256 := by rw [hD]; exact byteAt_lt _ _
    have l3 : S < 256 := by rw [hS]; exact byteAt_lt _ _
    have l4 : c4 < 256 := by rw [hc4]; exact byteAt_lt _ _
    have l5 : c5 < 256 := by rw [hc5]; exact byteAt_lt _ _
    have HN : Hid (¬ (c0 = 119 ∧ c1 = 1 ∧ (1 ≤ D ∧ D ≤ 10 ∧ S ≤ 6) ∧ 256 * c4 + c5 ≤ 400 ∧ p.extract 6 10 = checkS (p.extract 0 6))) := by
      intro hh; apply h
      unfold headOk pD pS pN
      rw [← hc0, ← hc1, ← hD, ← hS, ← hc4, ← hc5]
      exact ⟨by omega, hh⟩
    clear h hc0 hc1 hD hS hc4 hc5
    go_enter Tryz.func29, Tryz.ntmps29
    go_wp2
    go_quiet (fail)
    go_wp2_with fail
    refine (rCounts_any _ _ _).mono ?_
    rintro e w' ⟨rfl, rfl⟩
    go_wp2_with fail
    generalize hw1 : World.drewN _ _ = w1
    have B1 : Below w.heap.size w w1 := by
      have h : Below w.heap.size w _ := (((Below.refl w.heap.size w).alloc (Nat.le_refl _) (.cells #[.int .i64 0, .int .i64 0, .int .i64 0, .slice none 0 0, .slice none 0 0] 54)).alloc (by simp) (.cells #[.int .i64 0, .int .i64 0, .int .i64 0, .slice none 0 0, .slice none 0 0] 54))
      rw [← hw1]; exact ⟨h.os, h.tape, h.output, h.size, h.block⟩
    have z1 : w1.heap.size = w.heap.size + 1 + 1 := by rw [← hw1]; simp
    have R1 : Blk w1 w.heap.size 54 [.int .i64 0, .int .i64 0, .int .i64 0, .slice none 0 0, .slice none 0 0] := by
      have h := (Blk.new w #[.int .i64 0, .int .i64 0, .int .i64 0, .slice none 0 0, .slice none 0 0] 54).to ((Below.refl _ _).alloc (Nat.le_refl _) (.cells #[.int .i64 0, .int .i64 0, .int .i64 0, .slice none 0 0, .slice none 0 0] 54))
      rw [← hw1]; exact h
    have O1 : Blk w1 (w.heap.size + 1) 54 [.int .i64 0, .int .i64 0, .int .i64 0, .slice none 0 0, .slice none 0 0] := by
      have h := (Blk.new1 w (.cells #[.int .i64 0, .int .i64 0, .int .i64 0, .slice none 0 0, .slice none 0 0] 54) #[.int .i64 0, .int .i64 0, .int .i64 0, .slice none 0 0, .slice none 0 0] 54)
      rw [← hw1]; exact h
    clear hw1
    refine (check_any _ (by omega) _).mono ?_
    rintro e w2 ⟨rfl, hb2⟩
    have R2 := R1.to hb2
    have O2 := O1.to hb2
    have B2 := B1.trans (hb2.mono (by omega))
    have y0 := O2.cell_some (k := 0) rfl
    have y1 := O2.cell_some (k := 1) rfl
    have y2 := O2.cell_some (k := 2) rfl
    have y3 := O2.cell_some (k := 3) rfl
    have y4 := O2.cell_some (k := 4) rfl
    have q0 := R2.cell_some (k := 0) rfl
    have q1 := R2.cell_some (k := 1) rfl
    have q2 := R2.cell_some (k := 2) rfl
    have q3 := R2.cell_some (k := 3) rfl
    have q4 := R2.cell_some (k := 4) rfl
    have f0 := R2.free 0
    have f1 := R2.free 1
    have f2 := R2.free 2
    have f3 := R2.free 3
    have f4 := R2.free 4
    have HR : Hid (Blk w2 w.heap.size 54 [.int .i64 0, .int .i64 0, .int .i64 0, .slice none 0 0, .slice none 0 0]) := R2
    have HB : Hid (Below w.heap.size w w2) := B2
    clear R1 O1 B1 z1 hb2 R2 O2 B2
    have hcase : (c0 ≠ 119) ∨ (c0 = 119 ∧ c1 ≠ 1) ∨ (c0 = 119 ∧ c1 = 1 ∧ okCounts (D : Int) (S : Int) = false) ∨ (c0 = 119 ∧ c1 = 1 ∧ okCounts (D : Int) (S : Int) = true ∧ 400 < 256 * c4 + c5) ∨ (c0 = 119 ∧ c1 = 1 ∧ okCounts (D : Int) (S : Int) = true ∧ 256 * c4 + c5 ≤ 400 ∧ p.extract 6 10 ≠ checkS (p.extract 0 6)) := by
      by_cases n0 : c0 = 119
      · by_cases n1 : c1 = 1
        · by_cases n2 : 1 ≤ D ∧ D ≤ 10 ∧ S ≤ 6
          · have := okCounts_yes (D : Int) (S : Int) (by omega)
            by_cases n3 : 256 * c4 + c5 ≤ 400
            · refine .inr (.inr (.inr (.inr ⟨n0, n1, this, n3, fun n4 => HN.out ⟨n0, n1, n2, n3, n4⟩⟩)))
            · exact .inr (.inr (.inr (.inl ⟨n0, n1, this, by omega⟩)))
          · exact .inr (.inr (.inl ⟨n0, n1, okCounts_no _ _ (by omega)⟩))
        · exact .inr (.inl ⟨n0, n1⟩)
      · exact .inl n0
    clear HN
    rcases hcase with n0 | ⟨n0, n1⟩ | ⟨n0, n1, n2⟩ | ⟨n0, n1, n2, n3⟩ | ⟨n0, n1, n2, n3, n4⟩
    case inl => have e1 : ((c0 : Int) != 119) = true := by simp; omega
                go_wp2_with fail
                have hr := ((((HR.out.set 0 (.int .i64 0)).set 1 (.int .i64 0)).set 2 (.int .i64 0)).set 3 (.slice none 0 0)).set 4 (.slice none 0 0)
                refine bodyPost_ret (v := .tuple #[noOpened, .int .i64 9]) (results_row_tmp (p := 2) (u := 3) (ty := 54) (by kernel_rfl) _ _ w.heap.size 54 _ (0, 0) _ rfl hr Tryz.underlying54 rfl infoOpened _ rfl) rfl ⟨rfl, ?_⟩
                exact ((((HB.out.setCell (by exact Nat.le_refl _) _).setCell (by exact Nat.le_refl _) _).setCell (by exact Nat.le_refl _) _).setCell (by exact Nat.le_refl _) _).setCell (by exact Nat.le_refl _) _
    case inr.inl => have e1 : ((c1 : Int) != 1) = true := by simp; omega
                    go_wp2_with fail
                    have hr := ((((HR.out.set 0 (.int .i64 0)).set 1 (.int .i64 0)).set 2 (.int .i64 0)).set 3 (.slice none 0 0)).set 4 (.slice none 0 0)
                    refine bodyPost_ret (v := .tuple #[noOpened, .int .i64 9]) (results_row_tmp (p := 2) (u := 3) (ty := 54) (by kernel_rfl) _ _ w.heap.size 54 _ (0, 0) _ rfl hr Tryz.underlying54 rfl infoOpened _ rfl) rfl ⟨rfl, ?_⟩
                    exact ((((HB.out.setCell (by exact Nat.le_refl _) _).setCell (by exact Nat.le_refl _) _).setCell (by exact Nat.le_refl _) _).setCell (by exact Nat.le_refl _) _).setCell (by exact Nat.le_refl _) _
    case inr.inr.inl => go_wp2_with fail
                        have hr := ((((HR.out.set 0 (.int .i64 0)).set 1 (.int .i64 0)).set 2 (.int .i64 0)).set 3 (.slice none 0 0)).set 4 (.slice none 0 0)
                        refine bodyPost_ret (v := .tuple #[noOpened, .int .i64 9]) (results_row_tmp (p := 2) (u := 3) (ty := 54) (by kernel_rfl) _ _ w.heap.size 54 _ (0, 0) _ rfl hr Tryz.underlying54 rfl infoOpened _ rfl) rfl ⟨rfl, ?_⟩
                        exact ((((HB.out.setCell (by exact Nat.le_refl _) _).setCell (by exact Nat.le_refl _) _).setCell (by exact Nat.le_refl _) _).setCell (by exact Nat.le_refl _) _).setCell (by exact Nat.le_refl _) _
    case inr.inr.inr.inl => have e1 : decide ((400 : Int) < 256 * (c4 : Int) + (c5 : Int)) = true := decide_eq_true (by omega)
                            go_wp2_with fail
                            have hr := ((((HR.out.set 0 (.int .i64 0)).set 1 (.int .i64 0)).set 2 (.int .i64 0)).set 3 (.slice none 0 0)).set 4 (.slice none 0 0)
                            refine bodyPost_ret (v := .tuple #[noOpened, .int .i64 9]) (results_row_tmp (p := 2) (u := 3) (ty := 54) (by kernel_rfl) _ _ w.heap.size 54 _ (0, 0) _ rfl hr Tryz.underlying54 rfl infoOpened _ rfl) rfl ⟨rfl, ?_⟩
                            exact ((((HB.out.setCell (by exact Nat.le_refl _) _).setCell (by exact Nat.le_refl _) _).setCell (by exact Nat.le_refl _) _).setCell (by exact Nat.le_refl _) _).setCell (by exact Nat.le_refl _) _
    case inr.inr.inr.inr => have e1 : decide ((400 : Int) < 256 * (c4 : Int) + (c5 : Int)) = false := decide_eq_false (by omega)
                            have e2 : ((p.extract 6 10).toList == (checkS (p.extract 0 6)).toList) = false := by rw [str_beq]; exact decide_eq_false n4
                            go_wp2_with fail
                            have hr := ((((HR.out.set 0 (.int .i64 0)).set 1 (.int .i64 0)).set 2 (.int .i64 0)).set 3 (.slice none 0 0)).set 4 (.slice none 0 0)
                            refine bodyPost_ret (v := .tuple #[noOpened, .int .i64 9]) (results_row_tmp (p := 2) (u := 3) (ty := 54) (by kernel_rfl) _ _ w.heap.size 54 _ (0, 0) _ rfl hr Tryz.underlying54 rfl infoOpened _ rfl) rfl ⟨rfl, ?_⟩
                            exact ((((HB.out.setCell (by exact Nat.le_refl _) _).setCell (by exact Nat.le_refl _) _).setCell (by exact Nat.le_refl _) _).setCell (by exact Nat.le_refl _) _).setCell (by exact Nat.le_refl _) _
end Go.Proofs.YtokmllopbfmadaaGreatDoor.Ref
