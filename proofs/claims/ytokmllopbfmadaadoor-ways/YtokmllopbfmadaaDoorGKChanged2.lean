import Derived.Test.YtokmllopbfmadaaDoorGKSpread
import Derived.Test.YtokmllopbfmadaaDoorGKGone
import Derived.Test.YtokmllopbfmadaaDoorGRefChangeNo
import Derived.Deep.SlicePairs
import Derived.Test.YtokmllopbfmadaaDoorGLendB
import Derived.Test.YtokmllopbfmadaaDoorGBookS4
import Derived.Test.YtokmllopbfmadaaDoorGKPlan
namespace Go.Proofs.YtokmllopbfmadaaDoor.KeepW
open Go.RowKit Mem FieldWalks Tab ByTab Parts Ref Top
open Gf (newP)
open Plans (rowF)

/-- The program's Change answers as it must. -/
def ChangeYes : Prop := ∀ (d s n a L : Nat) (pieces : List ByteArray) (text : ByteArray) (pv : Value) (w : World), Table w → StrsAt w pv pieces → 1 ≤ d → d ≤ 10 → s ≤ 6 → n ≤ 400 → L = (n + d - 1) / d →
  (∀ p, (h : p < pieces.length) → pieces[p].size < 2 ^ 62) → ShapeOk d s L pieces [] → a + text.size ≤ n →
  Calls Tryd.prog 29 #[.int .i64 d, .int .i64 s, .int .i64 n, pv, .int .i64 a, .string text] w fun e w' => ∃ v, e = .returned (.tuple #[v, .int .i64 0]) ∧
    StrsAt w' v ((List.range (d + s)).map fun p => mkS (rowF L (newP d L a (nums text) text.size (oldOf pieces) p))) ∧ Below w.heap.size w w'
/-- It says when a writing goes beyond the text. -/
def ChangeOut : Prop := ∀ (d s n a L : Nat) (pieces : List ByteArray) (text : ByteArray) (pv : Value) (w : World), Table w → StrsAt w pv pieces → 1 ≤ d → d ≤ 10 → s ≤ 6 → n ≤ 400 → L = (n + d - 1) / d →
  (∀ p, (h : p < pieces.length) → pieces[p].size < 2 ^ 62) → ShapeOk d s L pieces [] → a ≤ 1000 → text.size ≤ 1000 → n < a + text.size →
  Calls Tryd.prog 29 #[.int .i64 d, .int .i64 s, .int .i64 n, pv, .int .i64 a, .string text] w fun e w' => e = .returned (.tuple #[.slice none 0 0, .int .i64 8]) ∧ Below w.heap.size w w'
/-- The slice v reads as these writings. -/
def WrAt (w : World) (v : Value) (ws : List (Int × ByteArray)) : Prop :=
  ∃ ao cap, v = .slice ao ws.length cap ∧ (ws = [] ∨ ∃ b off, ao = some ⟨b, off, none⟩ ∧ b < w.heap.size ∧ ∀ k, (h : k < ws.length) → w.cell? ⟨b, off + k * 2, none⟩ = some (.int .i64 ws[k].1) ∧ w.cell? ⟨b, off + k * 2 + 1, none⟩ = some (.string ws[k].2))
theorem pieces_shape (d s : Nat) (T : ByteArray) : ShapeOk d s ((T.size + d - 1) / d) (pieces d s T) [] := ⟨pieces_length d s T, fun k hk => by simp at hk, fun p hp _ => pieces_sizes d s T p hp⟩

set_option maxRecDepth 100000 in
set_option maxHeartbeats 4000000 in
theorem kchanged_any (hS : SumsOk) (hY : ChangeYes) (hR : ChangeOut) (data spare way : Int) (text : ByteArray) (ws : List (Int × ByteArray)) (wv : Value) (w : World) (ht : Table w) (hw0 : 0 < w.heap.size) (hwr : WrAt w wv ws) (_hwl : ws.length < 2 ^ 62) (hwb : ∀ x, x ∈ ws → -9223372036854775808 ≤ x.1 ∧ x.1 ≤ 9223372036854775807 ∧ x.2.size < 2 ^ 62)
    (hd1 : -9223372036854775808 ≤ data) (hd2 : data ≤ 9223372036854775807) (hs1 : -9223372036854775808 ≤ spare) (hs2 : spare ≤ 9223372036854775807) (hx1 : -9223372036854775808 ≤ way) (hx2 : way ≤ 9223372036854775807) :
    Calls Tryd.prog 9 #[.int .i64 data, .int .i64 spare, .int .i64 way, .string text, wv] w fun e w' => e = .returned (.bool true) ∧ Below w.heap.size w w' := by
  have HS0 := kspread_any hS data spare way text w ht hw0 hd1 hd2 hs1 hs2 hx1 hx2
  obtain ⟨wao, wcap, rfl, hwc⟩ := hwr
  have HWC : Hid (ws = [] ∨ ∃ b off, wao = some ⟨b, off, none⟩ ∧ b < w.heap.size ∧ ∀ k, (h : k < ws.length) → w.cell? ⟨b, off + k * 2, none⟩ = some (.int .i64 ws[k].1) ∧ w.cell? ⟨b, off + k * 2 + 1, none⟩ = some (.string ws[k].2)) := hwc
  have HWB : Hid (∀ x, x ∈ ws → -9223372036854775808 ≤ x.1 ∧ x.1 ≤ 9223372036854775807 ∧ x.2.size < 2 ^ 62) := hwb
  obtain ⟨d, hd⟩ : ∃ d, d = 1 + pickI data 10 := ⟨_, rfl⟩
  obtain ⟨s, hs⟩ : ∃ s, s = pickI spare 7 := ⟨_, rfl⟩
  obtain ⟨T, hT⟩ : ∃ T, T = shortS text := ⟨_, rfl⟩
  have b1 := pickI_lt data 10 (by omega)
  have b2 := pickI_lt spare 7 (by omega)
  have hTs : T.size ≤ 400 := by rw [hT]; exact shortS_size _
  rw [← hd, ← hs, ← hT] at HS0
  have hd0 : 1 ≤ d := by omega
  have hd10 : d ≤ 10 := by omega
  have hs6 : s ≤ 6 := by omega
  have HDS : Hid (d = 1 + pickI data 10 ∧ s = pickI spare 7) := ⟨hd, hs⟩
  have HSP : Hid (Calls Tryd.prog 31 #[.int .i64 data, .int .i64 spare, .int .i64 way, .string text] w fun e w' => ∃ b lb, e = .returned (.pointer (some ⟨b, 0, none⟩)) ∧ Spr w' w.heap.size b d s T lb ∧ Below w.heap.size w w') := HS0
  clear hd hs hT b1 b2 HS0 hwb hwc
  go_enter Tryd.func9, Tryd.ntmps9
  go_wp2_with fail
  refine Calls.mono HSP.out ?_
  rintro e w1 ⟨b, lb, rfl, hspr, hb1⟩
  have c2 := hspr.obj.cell_some (k := 2) rfl
  have c3 := hspr.obj.cell_some (k := 3) rfl
  have hbl := hspr.obj.lt
  have HSPR : Hid (Spr w1 w.heap.size b d s T lb) := hspr
  have HB1 : Hid (Below w.heap.size w w1) := hb1
  have HST : Hid (StrsAt w1 (.slice (some ⟨lb, 0, none⟩) (d + s) (d + s)) (pieces d s T)) := StrsAt.of_blk hspr.list _ _ (pieces_length d s T).symm
  clear hspr hb1 HSP
  go_wp2
  go_loopw [12, 13, 14] (fun lv tv iv wr => ∃ (i : Nat) (C : ByteArray), i ≤ ws.length ∧ i ≤ 20 ∧ iv = .int .i64 i ∧ tv = .string C ∧ C.size = T.size ∧ StrsAt wr lv (pieces d s C) ∧ Below w1.heap.size w1 wr) (fun _ _ iv _ => 20 - (intOf iv).toNat)
  case atStart => exact ⟨0, T, Nat.zero_le _, by omega, rfl, rfl, rfl, HST.out, Below.refl _ _⟩
  case round =>
    clear HST c2 c3
    obtain ⟨i, C, hi, hi20, rfl, rfl, hC, hst, hbel⟩ := hrel
    obtain ⟨la, lc, rfl⟩ : ∃ ao c, _ = Value.slice ao (d + s) c := by obtain ⟨ao, c, h, _⟩ := hst; rw [pieces_length] at h; exact ⟨ao, c, h⟩
    have HST : Hid (StrsAt wr (.slice la (d + s) lc) (pieces d s C)) := hst
    have HBE : Hid (Below w1.heap.size w1 wr) := hbel
    have hCs : C.size ≤ 400 := by omega
    have HCT : Hid (C.size = T.size) := hC
    have hszr := hbel.size
    have q0 := (hbel.cell (p := ⟨b, 0, none⟩) hbl).trans (HSPR.out.obj.cell_some (k := 0) rfl)
    have q1 := (hbel.cell (p := ⟨b, 1, none⟩) hbl).trans (HSPR.out.obj.cell_some (k := 1) rfl)
    have htr : Table wr := table_below ht (HB1.out.trans (hbel.mono HB1.out.size)) hw0
    clear hC
    by_cases hgo : i < ws.length ∧ i < 20
    · obtain ⟨hil, hi2⟩ := hgo
      have e1 : decide ((i : Int) < (ws.length : Int)) = true := decide_eq_true (by omega)
      have e2 : decide ((i : Int) < 20) = true := decide_eq_true (by omega)
      obtain ⟨wb, woff, rfl, hwbl, hwcl⟩ : ∃ b off, wao = some ⟨b, off, none⟩ ∧ b < w.heap.size ∧ ∀ k, (h : k < ws.length) → w.cell? ⟨b, off + k * 2, none⟩ = some (.int .i64 ws[k].1) ∧ w.cell? ⟨b, off + k * 2 + 1, none⟩ = some (.string ws[k].2) := by
        rcases HWC.out with h | h
        · rw [h] at hil; simp at hil
        · exact h
      obtain ⟨r0, r1⟩ := hwcl i hil
      have hbw : Below w.heap.size w wr := HB1.out.trans (hbel.mono HB1.out.size)
      rw [← hbw.cell (p := ⟨wb, woff + i * 2, none⟩) hwbl] at r0
      rw [← hbw.cell (p := ⟨wb, woff + i * 2 + 1, none⟩) hwbl] at r1
      obtain ⟨hb0, hb1', hb2'⟩ := HWB.out _ (List.getElem_mem hil)
      obtain ⟨pa, hpa⟩ : ∃ pa, pa = ws[i].1 := ⟨_, rfl⟩
      obtain ⟨px, hpx⟩ : ∃ px, px = ws[i].2 := ⟨_, rfl⟩
      rw [← hpa] at r0 hb0 hb1'
      rw [← hpx] at r1 hb2'
      obtain ⟨a, ha⟩ : ∃ a, a = pickI pa (C.size + 1) := ⟨_, rfl⟩
      have haC : a ≤ C.size := by rw [ha]; have := pickI_lt pa (C.size + 1) (by omega); omega
      obtain ⟨f, hf⟩ : ∃ f, f = fitS C px a := ⟨_, rfl⟩
      have hfs : a + f.size ≤ C.size := by rw [hf]; exact fitS_size C px a haC
      have HPL : Hid (Calls Tryd.prog 34 #[.agg #[.int .i64 pa, .string px], .string C] wr fun e w' => e = .returned (.tuple #[.int .i64 (a : Nat), .string f]) ∧ Below wr.heap.size wr w') := by
        have := place_any pa px C wr hb0 hb1' hCs hb2'
        rw [← ha, ← hf] at this; exact this
      obtain ⟨C2, hC2⟩ : ∃ C2, C2 = overS C a f := ⟨_, rfl⟩
      have hC2s : C2.size = C.size := by rw [hC2]; exact overS_size C f a hfs
      have HC2S : Hid (C2.size = C.size) := hC2s
      have HOV : Hid (∀ W, Calls Tryd.prog 35 #[.string C, .int .i64 (a : Nat), .string f] W fun e w' => e = .returned (.string C2) ∧ Drew W w') := by
        intro W; rw [hC2]; exact over_any' C f a W hfs hCs
      have hsm : ∀ (Z : ByteArray), Z.size ≤ 400 → ∀ p, (h : p < (pieces d s Z).length) → (pieces d s Z)[p].size < 2 ^ 62 := fun Z hZ p h => by
        rw [pieces_sizes]; have := ceil_le Z.size d hd0; omega
      have HCH : Hid (∀ W, Below wr.heap.size wr W → Calls Tryd.prog 29 #[.int .i64 d, .int .i64 s, .int .i64 (C.size : Nat), .slice la (d + s) lc, .int .i64 (a : Nat), .string f] W fun e w' => ∃ v, e = .returned (.tuple #[v, .int .i64 0]) ∧ StrsAt w' v (pieces d s C2) ∧ Below W.heap.size W w') := by
        intro W hW
        have hWt : Table W := table_below htr hW (by omega)
        refine Calls.mono (hY d s C.size a ((C.size + d - 1) / d) (pieces d s C) f _ W hWt (HST.out.to hW) hd0 hd10 hs6 hCs rfl (hsm C hCs) (pieces_shape d s C) hfs) ?_
        rintro e w' ⟨v, he, h1, h2⟩
        rw [change_pieces d s a C C2 f (by omega) hfs (by rw [hC2]; exact overS_nums C f a)] at h1
        exact ⟨v, he, h1, h2⟩
      have HCO : Hid (∀ (W : World) (v : Value), Table W → StrsAt W v (pieces d s C2) → Calls Tryd.prog 29 #[.int .i64 d, .int .i64 s, .int .i64 (C2.size : Nat), v, .int .i64 ((C2.size : Int) + 1), .string ⟨#[]⟩] W fun e w' => e = .returned (.tuple #[.slice none 0 0, .int .i64 8]) ∧ Below W.heap.size W w') := by
        intro W v hWt hv
        have := hR d s C2.size (C2.size + 1) ((C2.size + d - 1) / d) (pieces d s C2) ByteArray.empty v W hWt hv hd0 hd10 hs6 (by omega) rfl (hsm C2 (by omega)) (pieces_shape d s C2) (by omega) (by decide) (by omega)
        rw [show ((C2.size + 1 : Nat) : Int) = (C2.size : Int) + 1 by omega] at this
        exact this
      have hbr : b < wr.heap.size := by omega
      have hwr0 : 0 < wr.heap.size := by omega
      have z1 : (i : Int) < (ws.length : Int) := by omega
      have hC24 : C2.size ≤ 400 := by omega
      clear hwcl hbw hpa hpx ha hf hC2 hsm hst hbel hb0 hb1' hb2' hC2s
      go_wp2_with fail
      refine Calls.mono HPL.out ?_
      rintro e w2 ⟨rfl, hb2⟩
      have p0 := (hb2.cell (p := ⟨b, 0, none⟩) hbr).trans q0
      have p1 := (hb2.cell (p := ⟨b, 1, none⟩) hbr).trans q1
      have hb2r : b < w2.heap.size := Nat.lt_of_lt_of_le hbr hb2.size
      have HB2 : Hid (Below wr.heap.size wr w2) := hb2
      clear hb2
      go_wp2_with fail
      go_region_held3 (fun wx => wx.cell? ⟨b, 0, none⟩ = some (.int .i64 (d : Int)) ∧ wx.cell? ⟨b, 1, none⟩ = some (.int .i64 (s : Int))) (go_keep) (first | (go_at_call 29; refine Calls.mono (HCH.out _ HB2.out.drew) ?_; rintro e w3 ⟨v3, rfl, hst3, hb3⟩; have o0 := (hb3.cell (p := ⟨b, 0, none⟩) hb2r).trans p0; have o1 := (hb3.cell (p := ⟨b, 1, none⟩) hb2r).trans p1))
      have hb23 : Below wr.heap.size wr w3 := HB2.out.drew.trans (hb3.mono HB2.out.size)
      have ht3 : Table w3 := table_below htr hb23 hwr0
      obtain ⟨va3, vc3, rfl⟩ : ∃ ao c, v3 = Value.slice ao (d + s) c := by obtain ⟨ao, c, h, _⟩ := hst3; rw [pieces_length] at h; exact ⟨ao, c, h⟩
      have HST3 : Hid (StrsAt w3 (.slice va3 (d + s) vc3) (pieces d s C2)) := hst3
      have HB3 : Hid (Below wr.heap.size wr w3) := hb23
      have HT3 : Hid (Table w3) := ht3
      clear hb23 ht3 hst3 hb3 p0 p1 HB2
      go_wp2_with fail
      refine (HOV.out _).mono ?_
      rintro e w4 ⟨rfl, D4⟩
      have n0 := (D4.cell _).trans o0
      have n1 := (D4.cell _).trans o1
      have hst4 := HST3.out.to D4.below
      have hb34 : Below wr.heap.size wr w4 := HB3.out.trans (D4.below.mono HB3.out.size)
      have hbr4 : b < w4.heap.size := Nat.lt_of_lt_of_le hbr hb34.size
      have ht4 : Table w4 := table_below htr hb34 hwr0
      have HST4 : Hid (StrsAt w4 (.slice va3 (d + s) vc3) (pieces d s C2)) := hst4
      have HB4 : Hid (Below wr.heap.size wr w4) := hb34
      have HCO4 : Hid (Calls Tryd.prog 29 #[.int .i64 d, .int .i64 s, .int .i64 (C2.size : Nat), .slice va3 (d + s) vc3, .int .i64 ((C2.size : Int) + 1), .string ⟨#[]⟩] w4.drew fun e w' => e = .returned (.tuple #[.slice none 0 0, .int .i64 8]) ∧ Below w4.heap.size w4.drew w') := HCO.out w4.drew _ ht4 (hst4.to (Below.refl _ _).drew)
      have y7 : IntKind.i64.wrap ((C2.size : Int) + 1) = (C2.size : Int) + 1 := by rw [IntKind.wrap_i64]; omega
      clear o0 o1 D4 hst4 hb34 ht4 HST3 HB3 HT3 HCO
      go_wp2_with fail
      go_region_held3 (fun wx => wx.cell? ⟨b, 0, none⟩ = some (.int .i64 (d : Int)) ∧ wx.cell? ⟨b, 1, none⟩ = some (.int .i64 (s : Int))) (go_keep) (first | (go_at_call 29; refine Calls.mono HCO4.out ?_; rintro e w5 ⟨rfl, hb5⟩; have m0 := (hb5.cell (p := ⟨b, 0, none⟩) hbr4).trans n0; have m1 := (hb5.cell (p := ⟨b, 1, none⟩) hbr4).trans n1))
      have HST5 : Hid (StrsAt w5 (.slice va3 (d + s) vc3) (pieces d s C2)) := (HST4.out.to (Below.refl _ _).drew).to hb5
      have HB5 : Hid (Below w1.heap.size w1 w5) := HBE.out.trans ((HB4.out.drew.trans (hb5.mono HB4.out.size)).mono hszr)
      clear hb5 HST4 HB4 m0 m1 n0 n1
      go_wp2
      go_roundw
      case rel => exact ⟨i + 1, C2, by omega, by omega, by go_num, rfl, by rw [HC2S.out]; exact HCT.out, HST5.out, HB5.out⟩
      case measure => simp [intOf]; omega
    · have hshort : shortS C = C := by unfold shortS; rw [if_neg (by omega)]
      obtain ⟨c', hc'⟩ : ∃ c', c' = IntKind.i64.wrap (way + 1) := ⟨_, rfl⟩
      have hcb : -9223372036854775808 ≤ c' ∧ c' ≤ 9223372036854775807 := by rw [hc', IntKind.wrap_i64]; omega
      have hw64 : wrap64 (way + 1) = c' := by
        rw [hc']
        first
          | rfl
          | (rw [IntKind.wrap_i64]; rfl)
          | (rw [IntKind.wrap_i64]; unfold wrap64; omega)
      have HSP2 : Hid (Calls Tryd.prog 31 #[.int .i64 data, .int .i64 spare, .int .i64 (wrap64 (way + 1)), .string C] wr fun e w' => ∃ b lb, e = .returned (.pointer (some ⟨b, 0, none⟩)) ∧ Spr w' wr.heap.size b d s C lb ∧ Below wr.heap.size wr w') := by
        have := kspread_any hS data spare c' C wr htr (by omega) hd1 hd2 hs1 hs2 hcb.1 hcb.2
        rw [hshort, ← HDS.out.1, ← HDS.out.2, ← hw64] at this
        exact this
      have HFIN : Hid (∀ e w', (∃ b lb, e = Ending.returned (.pointer (some ⟨b, 0, none⟩)) ∧ Spr w' wr.heap.size b d s C lb ∧ Below wr.heap.size wr w') → ∃ b lb, e = Ending.returned (.pointer (some ⟨b, 0, none⟩)) ∧ w'.cell? ⟨b, 3, none⟩ = some (.slice (some ⟨lb, 0, none⟩) (d + s) (d + s)) ∧ StrsAt w' (.slice (some ⟨lb, 0, none⟩) (d + s) (d + s)) (pieces d s C) ∧ StrsAt w' (.slice la (d + s) lc) (pieces d s C) ∧ Below w.heap.size w w') := by
        rintro e w' ⟨b', lb', he, hs', hb'⟩
        exact ⟨b', lb', he, hs'.obj.cell_some (k := 3) rfl, StrsAt.of_blk hs'.list _ _ (pieces_length d s C).symm, HST.out.to hb', (HB1.out.trans (HBE.out.mono HB1.out.size)).trans (hb'.mono (Nat.le_trans HB1.out.size hszr))⟩
      have HPN : Hid ((pieces d s C).length ≤ 1000) := by show _ ≤ _; rw [pieces_length]; omega
      clear hst hbel hc' hcb hshort q0 q1 htr hw64
      by_cases hil : i < ws.length
      · have e1 : decide ((i : Int) < (ws.length : Int)) = true := decide_eq_true (by omega)
        have e2 : decide ((i : Int) < 20) = false := decide_eq_false (by omega)
        clear hgo
        go_wp2_with fail
        refine Calls.mono HSP2.out ?_
        intro e w2 hh
        obtain ⟨b', lb', rfl, k3, hsy, hsl, hbw⟩ := HFIN.out e w2 hh
        have HSM : Hid (Calls Tryd.prog 33 #[.slice la (d + s) lc, .slice (some ⟨lb', 0, none⟩) (d + s) (d + s)] w2 fun e w' => e = .returned (.bool true) ∧ ∃ n, w' = w2.drewN n) := ksame_yes (pieces d s C) _ _ w2 hsl hsy HPN.out
        clear hh hsy hsl
        go_wp2_with fail
        refine Calls.mono HSM.out ?_
        rintro e w3 ⟨rfl, n3, rfl⟩
        go_wp2
        go_ret
        exact ⟨rfl, below_drewN hbw n3⟩
      · have e1 : decide ((i : Int) < (ws.length : Int)) = false := decide_eq_false (by omega)
        clear hgo
        go_wp2_with fail
        refine Calls.mono HSP2.out ?_
        intro e w2 hh
        obtain ⟨b', lb', rfl, k3, hsy, hsl, hbw⟩ := HFIN.out e w2 hh
        have HSM : Hid (Calls Tryd.prog 33 #[.slice la (d + s) lc, .slice (some ⟨lb', 0, none⟩) (d + s) (d + s)] w2 fun e w' => e = .returned (.bool true) ∧ ∃ n, w' = w2.drewN n) := ksame_yes (pieces d s C) _ _ w2 hsl hsy HPN.out
        clear hh hsy hsl
        go_wp2_with fail
        refine Calls.mono HSM.out ?_
        rintro e w3 ⟨rfl, n3, rfl⟩
        go_wp2
        go_ret
        exact ⟨rfl, below_drewN hbw n3⟩
end Go.Proofs.YtokmllopbfmadaaDoor.KeepW

namespace Go.Proofs.YtokmllopbfmadaaDoor.KeepW
open Go.RowKit Mem FieldWalks Tab ByTab Parts Ref Top
open Gf (newP)
open Plans (rowF)

theorem change_yes : ChangeYes := by
  intro d s n a L pieces text pv w ht hp hd hd2 hs hn hL hsz hyes hat
  refine (wChange_ok pv text w d s n a L pieces ht hp hd hd2 hs hn hL hsz hyes hat).mono ?_
  rintro e w' ⟨b, _, rfl, hblk, hbel⟩
  exact ⟨_, rfl, StrsAt.of_blk hblk _ _ (by simp), hbel⟩
theorem change_out : ChangeOut := by
  intro d s n a L pieces text pv w _ hp hd hd2 hs hn hL hsz hyes ha hts hout
  have hlen : text.size ≤ maxLen := by unfold maxLen; omega
  have h := cFault_range pv text w d s n a pieces hp hd hd2 hs hn hsz (by omega) hlen (by rw [← hL]; exact hyes)
  rw [show okWithin n a text.size = false by simp [okWithin]; omega, if_neg (by decide)] at h
  refine (wChange_no pv text w 8 (by omega) (by omega) d s n a h).mono ?_
  rintro e w' ⟨he, rfl⟩
  exact ⟨he, Below.refl _ _⟩
end Go.Proofs.YtokmllopbfmadaaDoor.KeepW

/- A list of writings that comes in, opened. -/
namespace Go.Proofs.YtokmllopbfmadaaDoor.CardArgs
open Go.ChangeShapes Go.WideShapes Go.ChangeAt Go.RowKit Mem Ref KeepW

theorem cellsWr : Tryd.prog.cellsOf 60 = 2 := by kernel_rfl
theorem bytesWr : Tryd.prog.bytesOf 60 = 24 := by kernel_rfl
section
set_option maxRecDepth 100000
variable {H : Type} {enc : TypeId × Value → H} {W : World} {base j : Nat} {v : Value} {d : DataW H} {p : List MemPlace} {ts : List TypeId} {ds : List (DataW H)}
theorem pairs_arg (hval : Value.okWide Tryd.prog W .any base 57 v) (h : DataW.Trod enc Tryd.prog W 0 (fun _ => true) true 57 v d p) (hsz : (DataW.weightsEach Tryd.prog ts ds).all (· ≤ reachBytes) = true) (hts : ts[j]? = some 57) (hds : ds[j]? = some d) :
    ∃ ws : List (Int × ByteArray), WrAt W v ws ∧ ws.length < 2 ^ 62 ∧ ∀ x, x ∈ ws → -9223372036854775808 ≤ x.1 ∧ x.1 ≤ 9223372036854775807 ∧ x.2.size < 2 ^ 62 := by
  obtain ⟨fuel, h⟩ := h
  obtain ⟨a0, len0, cap0, rfl⟩ := okWide_slice Tryd.underlying57 hval
  have hcs : (Value.slice a0 len0 cap0).cells.toList = [.slice a0 len0 cap0] := rfl
  rw [hcs] at h
  rcases Deep.open_slice_pairs Tryd.underlying57 Tryd.underlying60 cellsWr rfl rfl cellsInt cellsStr h with ⟨h1, h2⟩ | ⟨a, len, cap, m, n, V0, V1, D0, D1, P0, P1, h1, h2, h3, h4, h5, h6, h7⟩
  · injection h1 with h1 _
    rw [h1]
    exact ⟨[], ⟨none, 0, rfl, .inl rfl⟩, by simp, fun q hq => by simp at hq⟩
  · injection h1 with h1 _
    rw [h1] at hval ⊢
    obtain ⟨b, off, rfl, hb⟩ := slice_plain Tryd.underlying57 hval
    simp only [Prod.mk.injEq] at h6
    obtain ⟨rfl, _⟩ := h6
    have hm : m = cap := by simpa using h5
    have hbytes := sized_slice hsz hts hds Tryd.underlying57
    rw [bytesWr] at hbytes
    simp only [List.length_map, List.length_range] at hbytes
    have hr : reachBytes = 140737488351232 := by decide
    have each : ∀ i, i < m → ∃ q : Int × ByteArray, W.cell? ⟨b, off + i * 2, none⟩ = some (.int .i64 q.1) ∧ W.cell? ⟨b, off + i * 2 + 1, none⟩ = some (.string q.2) ∧ (Lit.int .i64 q.1).wf = true ∧ D1 i = .lit (.string q.2.data.toList) := fun i hi => by
      obtain ⟨c0, c1, t0, t1⟩ := h7 i hi
      obtain ⟨z, e1, _, hz⟩ := DataW.trod_int Tryd.underlying3 t0
      obtain ⟨s, e2, e3, _⟩ := DataW.trod_string Tryd.underlying9 t1
      injection e1 with e1 _
      injection e2 with e2 _
      rw [Addr.add_lit] at c0 c1
      simp only [Prod.mk.injEq] at e3
      exact ⟨(z, s), by rw [c0, e1], by rw [show off + i * 2 + 1 = off + (i * 2 + 1) by omega, c1, e2], hz, e3.1⟩
    obtain ⟨q, hq⟩ := Deep.choose_lt each
    refine ⟨(List.range len).map q, ⟨_, cap, by simp, .inr ⟨b, off, rfl, hb, fun k hk => ?_⟩⟩, ?_, fun x hx => ?_⟩
    · have hk' : k < len := by simpa using hk
      have := hq k (by omega)
      simp only [List.getElem_map, List.getElem_range]
      exact ⟨this.1, this.2.1⟩
    · simp only [List.length_map, List.length_range]; omega
    · obtain ⟨i, hi, rfl⟩ := List.mem_map.1 hx
      have hi' : i < len := List.mem_range.1 hi
      have hqi := hq i (by omega)
      have hw := wf_i64 hqi.2.2.1
      refine ⟨hw.1, hw.2, ?_⟩
      have hmem : (DataW.agg [D0 i, D1 i] : DataW H) ∈ (List.range len).map fun i => (DataW.agg [D0 i, D1 i] : DataW H) := List.mem_map.2 ⟨i, List.mem_range.2 hi', rfl⟩
      have hws := weights_all (P := Tryd.prog) (e := 60) (n := (q i).2.data.toList.length) hmem (by
        simp only [DataW.weights, Tryd.underlying60]
        refine DataW.weights_mem_each (j := 1) rfl rfl _ ?_
        rw [hqi.2.2.2]
        simp [DataW.weights])
      have hall := List.all_eq_true.1 hsz _ (DataW.weights_mem_each hts hds ((q i).2.data.toList.length) (by
        simp only [DataW.weights, Tryd.underlying57, List.mem_cons, List.mem_append]
        exact .inr (.inl hws)))
      have hsq : (q i).2.size = (q i).2.data.toList.length := by rw [Array.length_toList]; rfl
      rw [hsq]
      have : (q i).2.data.toList.length ≤ reachBytes := by simpa using hall
      omega
end
end Go.Proofs.YtokmllopbfmadaaDoor.CardArgs

namespace Go.Proofs.YtokmllopbfmadaaDoor.BookS
open Go.RowKit Mem FieldWalks Tab ByTab Parts Plans
open KeepW (one8)

theorem one8_at (i : Nat) (h : i < one8.length) : one8[i] = ⟨8 + i, i, true⟩ := by simp [one8]
set_option maxRecDepth 100000 in
set_option maxHeartbeats 2000000 in
theorem known_yes (v : Value) (w : World) (hv : StepsAt w v one8) :
    Calls Tryd.prog 37 #[v] w fun e w' => e = .returned (.bool true) ∧ Below w.heap.size w w' := by
  obtain ⟨ao, cap, rfl, hx⟩ := hv
  have hl : one8.length = 8 := rfl
  rw [hl]
  obtain ⟨g, cur, rfl, hg, hc⟩ : ∃ g cur, ao = some ⟨g, 0, none⟩ ∧ w.heap[g]? = some (.cells cur 73 (0, 0)) ∧ ∀ k, (h : k < one8.length) → ∀ r, r < 3 → cur[k * 3 + r]? = (one8[k].cells)[r]? := by
    rcases hx with h | h
    · cases h
    · exact h
  have HC : Hid (∀ i, i < 8 → ∀ r, r < 3 → cur[i * 3 + r]? = ((⟨8 + i, i, true⟩ : Stp).cells)[r]?) := fun i hi r hr => by
    have := hc i (by rw [hl]; exact hi) r hr
    rw [one8_at] at this; exact this
  have HG : Hid (w.heap[g]? = some (.cells cur 73 (0, 0))) := hg
  clear hx hc hg hl
  go_enter Tryd.func37, Tryd.ntmps37
  go_wp2
  go_loopw [4] (fun iv wr => ∃ i : Nat, i ≤ 8 ∧ iv = .int .i64 i ∧ Blk wr w.heap.size 106 (flagsV 8 fun q => decide (q < i)) ∧ Below w.heap.size w wr) (fun iv _ => 8 - (intOf iv).toNat)
  case atStart => exact ⟨0, Nat.zero_le _, rfl, (Blk.new w _ _).eq (by simp [flagsV, List.range_succ]), (Below.refl _ _).alloc (Nat.le_refl _) _⟩
  case round =>
    obtain ⟨i, hi, rfl, hd, hbel⟩ := hrel
    by_cases hlt : i < 8
    · have hg1 := (hbel.block g (lt_of_block HG.out)).trans HG.out
      have d0 := (cell_of_row wr g (i * 3 + 0) cur _ _ hg1).trans (HC.out i hlt 0 (by decide))
      have d1 := (cell_of_row wr g (i * 3 + 1) cur _ _ hg1).trans (HC.out i hlt 1 (by decide))
      have d2 := (cell_of_row wr g (i * 3 + 2) cur _ _ hg1).trans (HC.out i hlt 2 (by decide))
      simp only [Stp.cells, List.getElem?_cons_zero, List.getElem?_cons_succ, Nat.add_zero] at d0 d1 d2
      have e0 := hd.cell_some (k := i) (flagsV_at _ hlt)
      rw [decide_eq_false (show ¬ i < i by omega)] at e0
      have f0 := hd.free i
      have hdlt := hd.lt
      have HD : Hid (Blk wr w.heap.size 106 (flagsV 8 fun q => decide (q < i))) := hd
      have hsz := hbel.size
      have q1 : ((8 + i : Nat) : Int) = (i : Int) + 8 := by omega
      rw [q1] at d0
      have q2 : decide ((i : Int) < 0) = false := decide_eq_false (by omega)
      have q3 : decide ((7 : Int) < (i : Int)) = false := decide_eq_false (by omega)
      have q4 : (((i : Int) + 8) != ((i : Int) + 8)) = false := by simp
      have q5 : IntKind.i64.wrap ((i : Int) + 8) = (i : Int) + 8 := by rw [IntKind.wrap_i64]; omega
      have q6 : (i : Int) < 8 := by omega
      clear hd hg1 q1
      go_wp2
      refine ⟨⟨i + 1, by omega, by go_num, ((HD.out.set i (.bool true)).alloc _).eq ?_, (hbel.setCell (Nat.le_refl _) _).alloc (by rw [size_setCell]; omega) _⟩, by simp [intOf]; omega⟩
      rw [flagsV_set]
      refine flagsV_congr fun q hq => ?_
      by_cases e : q = i
      · subst e; simp
      · rw [if_neg e]
        by_cases h : q < i
        · rw [decide_eq_true h, decide_eq_true (by omega)]
        · rw [decide_eq_false h, decide_eq_false (by omega)]
    · obtain rfl : i = 8 := by omega
      go_wp2
      go_ret
      exact ⟨rfl, hbel⟩
end Go.Proofs.YtokmllopbfmadaaDoor.BookS
