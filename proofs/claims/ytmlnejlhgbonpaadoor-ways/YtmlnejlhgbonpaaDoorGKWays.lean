import Derived.Test.YtmlnejlhgbonpaaDoorGKRest2
namespace Go.Proofs.YtmlnejlhgbonpaaDoor.KeepW
open Go.RowKit Mem FieldWalks Tab ByTab Parts Ref Top
open Gf (chosen left_ Fits)
open Plans (infoInt intsV)

set_option maxRecDepth 100000 in
set_option maxHeartbeats 4000000 in
theorem kways_any (hS : SumsOk) (hY : GatherYes) (data spare : Int) (text : ByteArray) (lost : List Int) (lv : Value) (w : World) (ht : Table w) (hw0 : 0 < w.heap.size) (hl : IsC w lv lost) (hll : lost.length < 2 ^ 62) (hlb : ∀ x, x ∈ lost → -9223372036854775808 ≤ x ∧ x ≤ 9223372036854775807)
    (hd1 : -9223372036854775808 ≤ data) (hd2 : data ≤ 9223372036854775807) (hs1 : -9223372036854775808 ≤ spare) (hs2 : spare ≤ 9223372036854775807) :
    Calls Tryd.prog 12 #[.int .i64 data, .int .i64 spare, .string text, lv] w fun e w' => e = .returned (.bool true) ∧ Below w.heap.size w w' := by
  have HS0 : ∀ (x : Nat) (W : World), x ≤ 2 → Below w.heap.size w W → Calls Tryd.prog 30 #[.int .i64 data, .int .i64 spare, .int .i64 (x : Int), .string text] W fun e w' => ∃ b lb, e = .returned (.pointer (some ⟨b, 0, none⟩)) ∧ Spr w' W.heap.size b (1 + pickI data 10) (pickI spare 7) (shortS text) lb ∧ Below W.heap.size W w' :=
    fun x W hx hb => kspread_any hS data spare x text W (table_below ht hb hw0) (Nat.lt_of_lt_of_le hw0 hb.size) hd1 hd2 hs1 hs2 (by omega) (by omega)
  have HLV : Hid (IsC w lv lost) := hl
  obtain ⟨d, hd⟩ : ∃ d, d = 1 + pickI data 10 := ⟨_, rfl⟩
  obtain ⟨s, hs⟩ : ∃ s, s = pickI spare 7 := ⟨_, rfl⟩
  obtain ⟨T, hT⟩ : ∃ T, T = shortS text := ⟨_, rfl⟩
  have b1 := pickI_lt data 10 (by omega)
  have b2 := pickI_lt spare 7 (by omega)
  have hTs : T.size ≤ 400 := by rw [hT]; exact shortS_size _
  rw [← hd, ← hs, ← hT] at HS0
  have hd0 : 1 ≤ d := by omega
  have hd10 : d ≤ 10 := by omega
  have hs6 : s ≤ 6 := by omega
  have HSP : Hid (∀ (x : Nat) (W : World), x ≤ 2 → Below w.heap.size w W → Calls Tryd.prog 30 #[.int .i64 data, .int .i64 spare, .int .i64 (x : Int), .string text] W fun e w' => ∃ b lb, e = .returned (.pointer (some ⟨b, 0, none⟩)) ∧ Spr w' W.heap.size b d s T lb ∧ Below W.heap.size W w') := HS0
  have HLB : Hid (∀ x, x ∈ lost → -9223372036854775808 ≤ x ∧ x ≤ 9223372036854775807) := hlb
  obtain ⟨pcs, hpcs⟩ : ∃ pcs, pcs = pieces d s T := ⟨_, rfl⟩
  have hpl : pcs.length = d + s := by rw [hpcs]; exact pieces_length d s T
  have HPC : Hid (pcs = pieces d s T) := hpcs
  have HPL : Hid (pcs.length = d + s) := hpl
  have HT0 : Hid (Table w) := ht
  obtain ⟨lao, lex, rfl, _⟩ := hl
  clear hd hs hT b1 b2 HS0 hlb hpcs hpl ht
  go_enter Tryd.func12, Tryd.ntmps12
  go_wp2_with fail
  refine Calls.mono (HSP.out 0 _ (by omega) (Below.refl _ _)) ?_
  rintro e w1 ⟨b, lb, rfl, hspr1, hb1⟩
  have HS1 : Hid (Spr w1 w.heap.size b d s T lb) := hspr1
  have HB1 : Hid (Below w.heap.size w w1) := hb1
  clear hspr1 hb1
  go_wp2_with fail
  refine Calls.mono (HSP.out 1 _ (by omega) HB1.out) ?_
  rintro e w2 ⟨b2, lb2, rfl, hspr2, hb2⟩
  have HS2 : Hid (Spr w2 w1.heap.size b2 d s T lb2) := hspr2
  have HS12 : Hid (Spr w2 w.heap.size b d s T lb) := HS1.out.to hb2
  have HB2 : Hid (Below w.heap.size w w2) := HB1.out.trans (hb2.mono HB1.out.size)
  clear hspr2 hb2 HS1
  go_wp2_with fail
  refine Calls.mono (HSP.out 2 _ (by omega) HB2.out) ?_
  rintro e w3 ⟨b3, lb3, rfl, hspr3, hb3⟩
  have HS3 : Hid (Spr w3 w2.heap.size b3 d s T lb3) := hspr3
  have HS23 : Hid (Spr w3 w1.heap.size b2 d s T lb2) := HS2.out.to hb3
  have HS13 : Hid (Spr w3 w.heap.size b d s T lb) := HS12.out.to hb3
  have HB3 : Hid (Below w.heap.size w w3) := HB2.out.trans (hb3.mono HB2.out.size)
  have x3 := HS13.out.obj.cell_some (k := 3) rfl
  have y3 := HS23.out.obj.cell_some (k := 3) rfl
  have z3 := HS3.out.obj.cell_some (k := 3) rfl
  have SX : Hid (StrsAt w3 (.slice (some ⟨lb, 0, none⟩) (d + s) (d + s)) pcs) := by rw [HPC.out]; exact StrsAt.of_blk HS13.out.list _ _ (pieces_length d s T).symm
  have SY : Hid (StrsAt w3 (.slice (some ⟨lb2, 0, none⟩) (d + s) (d + s)) pcs) := by rw [HPC.out]; exact StrsAt.of_blk HS23.out.list _ _ (pieces_length d s T).symm
  have SZ : Hid (StrsAt w3 (.slice (some ⟨lb3, 0, none⟩) (d + s) (d + s)) pcs) := by rw [HPC.out]; exact StrsAt.of_blk HS3.out.list _ _ (pieces_length d s T).symm
  have HSA : Hid (∀ W, Drew w3 W → Calls Tryd.prog 32 #[.slice (some ⟨lb, 0, none⟩) (d + s) (d + s), .slice (some ⟨lb2, 0, none⟩) (d + s) (d + s)] W fun e w' => e = .returned (.bool true) ∧ Drew w3 w') := fun W hW => by
    refine (ksame_yes pcs _ _ W (SX.out.to hW.below) (SY.out.to hW.below) (by rw [HPL.out]; omega)).mono ?_
    rintro e w' ⟨he, n, rfl⟩
    exact ⟨he, hW.more n⟩
  have HSB : Hid (∀ W, Drew w3 W → Calls Tryd.prog 32 #[.slice (some ⟨lb2, 0, none⟩) (d + s) (d + s), .slice (some ⟨lb3, 0, none⟩) (d + s) (d + s)] W fun e w' => e = .returned (.bool true) ∧ Drew w3 w') := fun W hW => by
    refine (ksame_yes pcs _ _ W (SY.out.to hW.below) (SZ.out.to hW.below) (by rw [HPL.out]; omega)).mono ?_
    rintro e w' ⟨he, n, rfl⟩
    exact ⟨he, hW.more n⟩
  clear hspr3 hb3 HS2 HS12 HB1 HB2 SY SZ
  have HD0 : Hid (Drew w3 w3.drew) := ⟨1, rfl⟩
  go_wp2_with fail
  go_region_held3 (fun wx => wx.cell? ⟨b, 3, none⟩ = some (.slice (some ⟨lb, 0, none⟩) (d + s) (d + s)) ∧ wx.cell? ⟨b2, 3, none⟩ = some (.slice (some ⟨lb2, 0, none⟩) (d + s) (d + s))) (go_keep) (first | (go_at_call 32; refine Calls.mono (HSA.out _ (by exact HD0.out)) ?_; rintro e w4 ⟨rfl, hdr4⟩; have t0 := (hdr4.cell ⟨b, 3, none⟩).trans x3; have t1 := (hdr4.cell ⟨b2, 3, none⟩).trans y3))
  have HDR4 : Hid (Drew w3 w4) := hdr4
  have z4 := (hdr4.cell ⟨b3, 3, none⟩).trans z3
  have HDR4d : Hid (Drew w3 w4.drew) := hdr4.more 1
  clear hdr4 x3 y3 z3 HSA
  go_wp2_with fail
  go_region_held3 (fun wx => wx.cell? ⟨b2, 3, none⟩ = some (.slice (some ⟨lb2, 0, none⟩) (d + s) (d + s)) ∧ wx.cell? ⟨b3, 3, none⟩ = some (.slice (some ⟨lb3, 0, none⟩) (d + s) (d + s))) (go_keep) (first | (go_at_call 32; refine Calls.mono (HSB.out _ (by exact HDR4d.out)) ?_; rintro e w5 ⟨rfl, hdr5⟩; have v1 := (hdr5.cell ⟨b2, 3, none⟩).trans (HS23.out.obj.cell_some (k := 3) rfl); have v2 := (hdr5.cell ⟨b3, 3, none⟩).trans (HS3.out.obj.cell_some (k := 3) rfl)))
  have HS5 : Hid (Spr w5 w.heap.size b d s T lb) := HS13.out.to hdr5.below
  have HB5 : Hid (Below w.heap.size w w5) := HB3.out.trans (hdr5.below.mono HB3.out.size)
  have c0 := HS5.out.obj.cell_some (k := 0) rfl
  have c1 := HS5.out.obj.cell_some (k := 1) rfl
  have hbl := HS5.out.obj.lt
  obtain ⟨l, hl⟩ : ∃ l, l = goneTo lost (d + s) s lost.length := ⟨_, rfl⟩
  have HG : Hid (Calls Tryd.prog 31 #[.slice lao lost.length (lost.length + lex), .int .i64 ((d : Int) + (s : Int)), .int .i64 s] w5.drew fun e w' => ∃ v, e = .returned v ∧ w'.ownsRow w5.heap.size 3 1 v l.length (intsV l) ∧ Below w5.heap.size w5 w') := by
    have := kgone_any lost (d + s) s (.slice lao lost.length (lost.length + lex)) w5.drew (HLV.out.to HB5.out.drew) hll HLB.out (by omega) (by omega) (by omega)
    rw [← hl, show ((d + s : Nat) : Int) = (d : Int) + (s : Int) by omega] at this
    refine Calls.mono this ?_
    rintro e w' ⟨v, he, h1, h2⟩
    exact ⟨v, he, h1, (Below.refl _ _).drew.trans h2⟩
  have HLL : Hid (l.Nodup ∧ (∀ x, x ∈ l → x < d + s) ∧ l.length ≤ s) := by
    rw [hl]; exact ⟨goneTo_nodup _ _ _ _, goneTo_lt _ _ _ _ (by omega), goneTo_le _ _ _ _⟩
  have y5 : IntKind.i64.wrap ((d : Int) + (s : Int)) = (d : Int) + (s : Int) := by rw [IntKind.wrap_i64]; omega
  clear hdr5 t0 t1 z4 v1 v2 hl HSB HS13 HS23 HS3 HB3 HDR4 HDR4d HD0 SX
  go_wp2_with fail
  go_region_held3 (fun wx => wx.cell? ⟨b, 0, none⟩ = some (.int .i64 (d : Int)) ∧ wx.cell? ⟨b, 1, none⟩ = some (.int .i64 (s : Int))) (go_keep) (first | (go_at_call 31; refine Calls.mono HG.out ?_; rintro e w6 ⟨lv2, rfl, hlown, hb6⟩; have t0 := (hb6.cell (p := ⟨b, 0, none⟩) hbl).trans c0; have t1 := (hb6.cell (p := ⟨b, 1, none⟩) hbl).trans c1))
  have HS6 : Hid (Spr w6 w.heap.size b d s T lb) := HS5.out.to hb6
  have HB6 : Hid (Below w.heap.size w w6) := HB5.out.trans (hb6.mono HB5.out.size)
  obtain ⟨la, lc, rfl⟩ := Plans.owns_form hlown
  have HIL : Hid (IsC w6 (.slice la l.length lc) (l.map Int.ofNat)) := IsC.of_owns hlown
  have hbl6 : b < w6.heap.size := HS6.out.obj.lt
  clear hlown hb6 t0 t1 c0 c1 HG HS5 HB5 hbl
  obtain ⟨L, hL⟩ : ∃ L, L = (T.size + d - 1) / d := ⟨_, rfl⟩
  have hTL : T.size ≤ d * L := by rw [hL]; exact ceil_mul T.size d (by omega)
  have HGA : Hid (∀ (x : Nat) (W : World), x ≤ 2 → Below w6.heap.size w6 W → Calls Tryd.prog 26 #[.int .i64 d, .int .i64 s, .int .i64 (x : Int), .int .i64 (T.size : Nat), .slice (some ⟨lb, 0, none⟩) (d + s) (d + s), .slice la l.length lc] W fun e w' => ∃ v, e = .returned (.tuple #[.string T, v, .int .i64 0]) ∧ StrsAt w' v pcs ∧ Below W.heap.size W w') := by
    intro x W hx hW
    have hpz : ∀ p, (h : p < pcs.length) → pcs[p].size = L := fun p h => by
      have := pieces_sizes d s T p (by rw [← HPC.out]; exact h)
      simp only [HPC.out]; rw [this, hL]
    have hLs : L ≤ 400 := by have := ceil_le T.size d hd0; omega
    have hlen : (l.map Int.ofNat).length ≤ s := by simpa using HLL.out.2.2
    have hst : StrsAt W (.slice (some ⟨lb, 0, none⟩) (d + s) (d + s)) pcs := by rw [HPC.out]; exact (StrsAt.of_blk HS6.out.list _ _ (pieces_length d s T).symm).to hW
    refine Calls.mono (hY d s x T.size L pcs (l.map Int.ofNat) _ _ W (table_below HT0.out (HB6.out.trans (hW.mono HB6.out.size)) hw0) hst (HIL.out.to hW) hd0 hd10 hs6 hx hTs hL (fun p h => by rw [hpz p h]; omega) (shape_all HPL.out hpz HLL.out.1 HLL.out.2.1) hlen) ?_
    rintro e w' ⟨v, ps, rfl, hfit, hst', hb'⟩
    have hfit2 := pieces_fit d s T (l.map Int.ofNat) pcs (by omega) (fun p hp hno => by rw [HPC.out])
    rw [← hL] at hfit2
    have e1 : ps = cuts (nums T) d L := Gf.Fits.sole (by omega) (Gf.enough d s _ hlen) hfit hfit2
    refine ⟨v, ?_, ?_, hb'⟩
    · rw [e1, flatten_take (nums T) d L T.size (nums_length T) hTL, mkS_nums]
    · have : texts ps (sums (facs d s) ps L) = pcs := by rw [e1, HPC.out, hL]; rfl
      rw [this] at hst'; exact hst'
  clear hL hTL HIL
  go_wp2
  go_loopw [15] (fun iv wr => ∃ i : Nat, i ≤ 3 ∧ iv = .int .i64 i ∧ Below w6.heap.size w6 wr) (fun iv _ => 3 - (intOf iv).toNat)
  case atStart => exact ⟨0, by omega, rfl, Below.refl _ _⟩
  case round =>
    obtain ⟨i, hi, rfl, hbel⟩ := hrel
    by_cases hi3 : i < 3
    · have HGI : Hid (Calls Tryd.prog 26 #[.int .i64 d, .int .i64 s, .int .i64 (i : Int), .int .i64 (T.size : Nat), .slice (some ⟨lb, 0, none⟩) (d + s) (d + s), .slice la l.length lc] wr.drew fun e w' => ∃ v, e = .returned (.tuple #[.string T, v, .int .i64 0]) ∧ StrsAt w' v pcs ∧ Below wr.heap.size wr w') := by
        refine Calls.mono (HGA.out i wr.drew (by omega) hbel.drew) ?_
        rintro e w' ⟨v, he, h1, h2⟩
        exact ⟨v, he, h1, (Below.refl _ _).drew.trans h2⟩
      have hsp := HS6.out.to hbel
      have k0 := hsp.obj.cell_some (k := 0) rfl
      have k1 := hsp.obj.cell_some (k := 1) rfl
      have k2 := hsp.obj.cell_some (k := 2) rfl
      have k3 := hsp.obj.cell_some (k := 3) rfl
      have hblr := hsp.obj.lt
      have HSR : Hid (Spr wr w.heap.size b d s T lb) := hsp
      have HBR : Hid (Below w6.heap.size w6 wr) := hbel
      clear hsp hbel
      go_wp2_with fail
      go_region_held3 (fun wx => wx.cell? ⟨b, 0, none⟩ = some (.int .i64 (d : Int)) ∧ wx.cell? ⟨b, 1, none⟩ = some (.int .i64 (s : Int)) ∧ wx.cell? ⟨b, 2, none⟩ = some (.string T) ∧ wx.cell? ⟨b, 3, none⟩ = some (.slice (some ⟨lb, 0, none⟩) (d + s) (d + s))) (go_keep) (first | (go_at_call 26; refine Calls.mono HGI.out ?_; rintro e w7 ⟨v7, rfl, hst7, hb7⟩; have u0 := (hb7.cell (p := ⟨b, 0, none⟩) hblr).trans k0; have u1 := (hb7.cell (p := ⟨b, 1, none⟩) hblr).trans k1; have u2 := (hb7.cell (p := ⟨b, 2, none⟩) hblr).trans k2; have u3 := (hb7.cell (p := ⟨b, 3, none⟩) hblr).trans k3))
      have HSA7 : Hid (Calls Tryd.prog 32 #[v7, .slice (some ⟨lb, 0, none⟩) (d + s) (d + s)] w7 fun e w' => e = .returned (.bool true) ∧ Drew w7 w') := by
        have hl7 : StrsAt w7 (.slice (some ⟨lb, 0, none⟩) (d + s) (d + s)) pcs := by rw [HPC.out]; exact StrsAt.of_blk ((HSR.out.to hb7).list) _ _ (pieces_length d s T).symm
        refine (ksame_yes pcs _ _ w7 hst7 hl7 (by rw [HPL.out]; omega)).mono ?_
        rintro e w' ⟨he, n, rfl⟩
        exact ⟨he, n, rfl⟩
      have HB67 : Hid (Below w6.heap.size w6 w7) := HBR.out.trans (hb7.mono HBR.out.size)
      obtain ⟨va7, vc7, rfl⟩ : ∃ ao c, v7 = .slice ao pcs.length c := by obtain ⟨ao, c, h, _⟩ := hst7; exact ⟨ao, c, h⟩
      clear hst7 hb7 k0 k1 k2 k3 HGI HSR HBR u0 u1
      go_wp2_with fail
      refine Calls.mono HSA7.out ?_
      rintro e w8 ⟨rfl, hdr8⟩
      have p2 := (hdr8.cell ⟨b, 2, none⟩).trans u2
      have HB68 : Hid (Below w6.heap.size w6 w8) := HB67.out.trans (hdr8.below.mono HB67.out.size)
      clear hdr8 u2 u3 HSA7 HB67
      go_wp2
      go_roundw
      case rel => exact ⟨i + 1, by omega, by go_num, HB68.out⟩
      case measure => simp [intOf]; omega
    · obtain rfl : i = 3 := by omega
      have HB9 : Hid (Below w.heap.size w wr) := HB6.out.trans (hbel.mono HB6.out.size)
      clear hbel
      go_wp2
      go_ret
      exact ⟨rfl, HB9.out⟩
end Go.Proofs.YtmlnejlhgbonpaaDoor.KeepW
