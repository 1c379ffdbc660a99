import Derived.Deep.RegionHeld3
import Derived.Test.YtokmllopbfmadabDoorGKPick
import Derived.Test.YtokmllopbfmadabDoorGWGather
import Derived.Test.YtokmllopbfmadabDoorGSpoilMath
import Derived.Test.YtokmllopbfmadabDoorGPChange
namespace Go.Proofs.YtokmllopbfmadabDoor.KeepW
open Go.RowKit Mem FieldWalks Tab ByTab Parts Ref Top

/-- A text of at most MaxText bytes. -/
def shortS (s : ByteArray) : ByteArray := if 400 < s.size then s.extract 0 400 else s
theorem shortS_size (s : ByteArray) : (shortS s).size ≤ 400 := by
  unfold shortS
  split
  · rw [ByteArray.size_extract]; omega
  · omega
set_option maxRecDepth 100000 in
theorem short_any (s : ByteArray) (w : World) : Calls Tryd.prog 16 #[.string s] w fun e w' => e = .returned (.string (shortS s)) ∧ w' = w := by
  by_cases h : 400 < s.size
  · have e0 : Hid (shortS s = s.extract 0 400) := if_pos h
    have e1 : decide ((400 : Int) < (s.size : Int)) = true := decide_eq_true (by omega)
    have e2 : (400 : Int) ≤ (s.size : Int) := by omega
    go_enter Tryd.func16, Tryd.ntmps16
    go_wp2
    go_ret
    exact ⟨by rw [e0.out]; rfl, rfl⟩
  · have e0 : Hid (shortS s = s) := if_neg h
    have e1 : decide ((400 : Int) < (s.size : Int)) = false := decide_eq_false (by omega)
    go_enter Tryd.func16, Tryd.ntmps16
    go_wp2
    go_ret
    exact ⟨by rw [e0.out]; rfl, rfl⟩

/-- What spread answers: counts, a text, its pieces. -/
structure Spr (w : World) (base b d s : Nat) (T : ByteArray) (lb : Nat) : Prop where
  obj : Blk w b 30 [.int .i64 (d : Nat), .int .i64 (s : Nat), .string T, .slice (some ⟨lb, 0, none⟩) (d + s) (d + s)]
  list : Blk w lb 9 (strV (pieces d s T))
  bb : base ≤ b
  bl : base ≤ lb
theorem Spr.to {w w' : World} {base b d s lb : Nat} {T : ByteArray} (h : Spr w base b d s T lb) (hb : Below w.heap.size w w') : Spr w' base b d s T lb := ⟨h.obj.to hb, h.list.to hb, h.bb, h.bl⟩

set_option maxRecDepth 100000 in
set_option maxHeartbeats 2000000 in
theorem kspread_any (hS : SumsOk) (data spare way : Int) (text : ByteArray) (w : World) (ht : Table w) (hw0 : 0 < w.heap.size) (hd1 : -9223372036854775808 ≤ data) (hd2 : data ≤ 9223372036854775807) (hs1 : -9223372036854775808 ≤ spare) (hs2 : spare ≤ 9223372036854775807) (hx1 : -9223372036854775808 ≤ way) (hx2 : way ≤ 9223372036854775807) :
    Calls Tryd.prog 5 #[.int .i64 data, .int .i64 spare, .int .i64 way, .string text] w fun e w' =>
      ∃ b lb, e = .returned (.pointer (some ⟨b, 0, none⟩)) ∧ Spr w' w.heap.size b (1 + pickI data 10) (pickI spare 7) (shortS text) lb ∧ Below w.heap.size w w' := by
  obtain ⟨d, hd⟩ : ∃ d, d = 1 + pickI data 10 := ⟨_, rfl⟩
  obtain ⟨d', hd'⟩ : ∃ d', d' = pickI data 10 := ⟨_, rfl⟩
  obtain ⟨s, hs⟩ : ∃ s, s = pickI spare 7 := ⟨_, rfl⟩
  obtain ⟨x, hx⟩ : ∃ x, x = pickI way 3 := ⟨_, rfl⟩
  obtain ⟨T, hT⟩ : ∃ T, T = shortS text := ⟨_, rfl⟩
  have b1 := pickI_lt data 10 (by omega)
  have b2 := pickI_lt spare 7 (by omega)
  have b3 := pickI_lt way 3 (by omega)
  have hTs : T.size ≤ 400 := by rw [hT]; exact shortS_size _
  have P1 : Hid (∀ W, Calls Tryd.prog 7 #[.int .i64 data, .int .i64 10] W fun e w' => e = .returned (.int .i64 (d' : Nat)) ∧ w' = W) := by
    intro W; rw [hd']; exact kpick_any data 10 W (by omega) (by omega) hd1 hd2
  have P2 : Hid (∀ W, Calls Tryd.prog 7 #[.int .i64 spare, .int .i64 7] W fun e w' => e = .returned (.int .i64 (s : Nat)) ∧ w' = W) := by
    intro W; rw [hs]; exact kpick_any spare 7 W (by omega) (by omega) hs1 hs2
  have P3 : Hid (∀ W, Calls Tryd.prog 7 #[.int .i64 way, .int .i64 3] W fun e w' => e = .returned (.int .i64 (x : Nat)) ∧ w' = W) := by
    intro W; rw [hx]; exact kpick_any way 3 W (by omega) (by omega) hx1 hx2
  have P4 : Hid (∀ W, Calls Tryd.prog 16 #[.string text] W fun e w' => e = .returned (.string T) ∧ w' = W) := by
    intro W; rw [hT]; exact short_any text W
  rw [← hd, ← hs, ← hT]
  have hd10 : d ≤ 10 := by omega
  have hd0 : 1 ≤ d := by omega
  have hs6 : s ≤ 6 := by omega
  have hx2' : x ≤ 2 := by omega
  have hdd : 1 + (d' : Int) = (d : Int) := by omega
  have hd'10 : d' ≤ 10 := by omega
  clear hd hs hx hT b1 b2 b3 hd'
  go_enter Tryd.func5, Tryd.ntmps5
  go_wp2_with fail
  refine (P1.out _).mono ?_
  rintro e w' ⟨rfl, rfl⟩
  go_wp2_with fail
  refine (P2.out _).mono ?_
  rintro e w' ⟨rfl, rfl⟩
  go_wp2_with fail
  refine (P4.out _).mono ?_
  rintro e w' ⟨rfl, rfl⟩
  go_wp2_with fail
  obtain ⟨w1, hw1⟩ : ∃ w1, w1 = w'.alloc (.cells #[.int .i64 (d : Int), .int .i64 (s : Int), .string T, .slice none 0 0] 30) := ⟨_, rfl⟩
  have hobj : Blk w1 w'.heap.size 30 [.int .i64 (d : Int), .int .i64 (s : Int), .string T, .slice none 0 0] := by rw [hw1]; exact Blk.new w' _ _
  have hb1 : Below w'.heap.size w' w1 := by rw [hw1]; exact (Below.refl _ _).alloc (Nat.le_refl _) _
  rw [← hw1]
  have s0 := hobj.cell_some (k := 0) rfl
  have s1 := hobj.cell_some (k := 1) rfl
  have s2 := hobj.cell_some (k := 2) rfl
  have hwl : w'.heap.size < w1.heap.size := hobj.lt
  have HOBJ : Hid (Blk w1 w'.heap.size 30 [.int .i64 (d : Int), .int .i64 (s : Int), .string T, .slice none 0 0]) := hobj
  have HB1 : Hid (Below w'.heap.size w' w1) := hb1
  have ht1 : Table w1 := table_below ht hb1 hw0
  have HSP : Hid (Calls Tryd.prog 17 #[.int .i64 d, .int .i64 s, .int .i64 x, .string T] w1.drew fun e w2 => ∃ b, w1.heap.size ≤ b ∧ e = .returned (.tuple #[.slice (some ⟨b, 0, none⟩) (d + s) (d + s), .int .i64 0]) ∧ Blk w2 b 9 (strV (pieces d s T)) ∧ Below w1.heap.size w1.drew w2) := wSpread_ok hS d s x T hd0 hd10 hs6 hx2' hTs w1.drew ht1
  clear hw1 hobj hb1
  obtain ⟨B, hBe⟩ : ∃ B, B = w'.heap.size := ⟨_, rfl⟩
  rw [← hBe] at s0 s1 s2 hwl HOBJ ⊢
  have HBE : Hid (B = w'.heap.size) := hBe
  clear hBe
  go_region_held3 (fun wx => wx.cell? ⟨B, 0, none⟩ = some (.int .i64 (d : Int)) ∧ wx.cell? ⟨B, 1, none⟩ = some (.int .i64 (s : Int)) ∧ wx.cell? ⟨B, 2, none⟩ = some (.string T)) (go_keep) (first | (go_at_call 7; refine (P3.out _).mono ?_; rintro e w2 ⟨rfl, rfl⟩) | (go_at_call 17; refine Calls.mono HSP.out ?_; rintro e w2 ⟨lb, hlb, rfl, hlist, hb2⟩; have t0 := (hb2.cell (p := ⟨B, 0, none⟩) hwl).trans s0; have t1 := (hb2.cell (p := ⟨B, 1, none⟩) hwl).trans s1; have t2 := (hb2.cell (p := ⟨B, 2, none⟩) hwl).trans s2))
  obtain ⟨ps, hps⟩ : ∃ ps, ps = cuts (nums T) d ((T.size + d - 1) / d) := ⟨_, rfl⟩
  obtain ⟨L, hL⟩ : ∃ L, L = (T.size + d - 1) / d := ⟨_, rfl⟩
  have hLs : L ≤ 400 := by have := ceil_le T.size d hd0; omega
  have hTL : T.size ≤ d * L := by rw [hL]; exact ceil_mul T.size d (by omega)
  have eL : ((T.size : Int) + (d : Int) - 1) / (d : Int) = (L : Int) := by rw [hL]; exact ceil_cast T.size d hd0
  have HPL : Hid ((pieces d s T).length = d + s) := pieces_length d s T
  have HPZ : Hid (∀ p, (h : p < (pieces d s T).length) → (pieces d s T)[p].size = L) := fun p h => by rw [hL]; exact pieces_sizes d s T p h
  have HPD : Hid (∀ p, (h : p < (pieces d s T).length) → (h2 : p < ps.length) → (pieces d s T)[p] = mkS ps[p]) := fun p h h2 => by
    have : (pieces d s T).getD p ByteArray.empty = mkS ps[p] := by
      unfold pieces texts
      rw [← hps, List.getD_eq_getElem?_getD, List.getElem?_map, List.getElem?_append_left h2, List.getElem?_eq_getElem h2]; rfl
    rw [← this]; simp [h]
  have HPSL : Hid (ps.length = d) := by show _ = _; rw [hps]; exact cuts_length _ _ _
  have HPSZ : Hid (∀ j, (h : j < ps.length) → ps[j].length = L) := fun j h => by
    have := cuts_size (nums T) d ((T.size + d - 1) / d) j (by rw [← hps]; exact h)
    rw [hL, ← this]; congr 1; simp [hps]
  have HFL : Hid (ps.flatten = (List.range (d * L)).map fun i => (nums T).getD i 0) := by show _ = _; rw [hps, hL]; exact flatten_cuts _ _ _
  have HLI : Hid (Blk w2 lb 9 (strV (pieces d s T))) := hlist
  have hlblt := hlist.lt
  have hBl : B ≠ lb := by omega
  have HB2 : Hid (Below w1.heap.size w1.drew w2) := hb2
  have HOB2 : Hid (Blk w2 B 30 [.int .i64 (d : Int), .int .i64 (s : Int), .string T, .slice none 0 0]) := Blk.below (w := w1.drew) HOBJ.out hb2 hwl
  have g3 := HOB2.out.cell_some (k := 3) rfl
  have gf := HOB2.out.free 3
  have hne1 : (((d + s : Nat) : Int) != (d : Int) + (s : Int)) = false := by simp
  have hne2 : ((d : Int) + (s : Int) != (d : Int) + (s : Int)) = false := by simp
  have q7 : ¬ (d : Int) = 0 := by omega
  have q8 : ¬ d = 0 := by omega
  have q9 : ((d : Int) == 0) = false := by simp; omega
  clear hps hL hlist hb2 HOBJ s0 s1 s2 hdd hd'10
  go_wp2
  go_quiet (fail)
  have D1 : Drew w2 (w2.drewN nq) := ⟨nq, rfl⟩
  revert D1
  generalize w2.drewN nq = wa
  intro D1
  have a0 := (D1.cell _).trans t0
  have a2 := (D1.cell _).trans t2
  have HD1 : Hid (Drew w2 wa) := D1
  clear D1
  go_wp2
  go_quiet (fail)
  rw [eL]
  have D2 : Drew w2 (wa.drewN nq) := HD1.out.more nq
  revert D2
  generalize wa.drewN nq = w3
  intro D2
  have hlb3 := HLI.out.to D2.below
  have hob3 := HOB2.out.to D2.below
  have HLI3 : Hid (Blk w3 lb 9 (strV (pieces d s T))) := hlb3
  have HOB3 : Hid (Blk w3 B 30 [.int .i64 (d : Int), .int .i64 (s : Int), .string T, .slice none 0 0]) := hob3
  have HB3 : Hid (Below w'.heap.size w' w3) := (HB1.out.drew.trans (HB2.out.mono HB1.out.size)).trans (D2.below.mono (Nat.le_trans (HB1.out.size) HB2.out.size))
  have r0 := hob3.cell_some (k := 0) rfl
  have r2 := hob3.cell_some (k := 2) rfl
  clear hlb3 hob3 D2 HD1 HLI HOB2 HB2 a0 a2 t0 t1 t2 g3 gf HB1
  have e0 : (ByteArray.mk #[]) = mkS (ps.take (min 0 d)).flatten := by simp [mkS]
  go_wp2
  go_loop [12, 14] (fun t pv => ∃ p : Nat, p ≤ d + s ∧ pv = .int .i64 p ∧ t = .string (mkS (ps.take (min p d)).flatten)) (fun _ pv => d + s - (intOf pv).toNat)
  case atStart => exact ⟨0, Nat.zero_le _, rfl, by rw [← e0]⟩
  case round =>
    clear e0
    obtain ⟨p, hp, rfl, rfl⟩ := hrel
    by_cases hpd : p < d + s
    · have hpl : p < (pieces d s T).length := by rw [HPL.out]; exact hpd
      have c1 := HLI3.out.cell_some (k := p) (v := .string (pieces d s T)[p]) (by simp [strV, hpl])
      have hzz := HPZ.out p hpl
      obtain ⟨x1, hx1⟩ : ∃ x1, x1 = (pieces d s T)[p] := ⟨_, rfl⟩
      rw [← hx1] at c1 hzz
      have hneL : ((x1.size : Int) != (L : Int)) = false := by simp; omega
      have hA : (mkS (ps.take (min p d)).flatten).size ≤ 4000 := by
        rw [mkS_size, flatten_length (ps.take (min p d)) L (fun i hi => by rw [List.getElem_take]; exact HPSZ.out i (by simp at hi; omega))]
        have h1 : (ps.take (min p d)).length ≤ 10 := by rw [List.length_take]; omega
        exact Nat.le_trans (Nat.mul_le_mul h1 hLs) (by decide)
      by_cases hpdd : p < d
      · have e1 : decide ((p : Int) < (d : Int)) = true := decide_eq_true (by omega)
        have hpp : p < ps.length := by rw [HPSL.out]; exact hpdd
        have HNX : Hid (mkS (ps.take (min p d)).flatten ++ x1 = mkS (ps.take (min (p + 1) d)).flatten) := by
          show _ = _
          rw [hx1, HPD.out p hpl hpp, mkS_append, show min p d = p by omega, show min (p + 1) d = p + 1 by omega, ← flatten_next ps p hpp]
        generalize mkS (ps.take (min p d)).flatten = A0 at hA HNX ⊢
        clear hx1
        go_wp2
        go_round
        case rel => exact ⟨p + 1, by omega, by go_num, by rw [← HNX.out]⟩
        case measure => simp [intOf]; omega
      · have e1 : decide ((p : Int) < (d : Int)) = false := decide_eq_false (by omega)
        have HNX : Hid (mkS (ps.take (min p d)).flatten = mkS (ps.take (min (p + 1) d)).flatten) := by
          show _ = _
          rw [show min (p + 1) d = min p d by omega]
        generalize mkS (ps.take (min p d)).flatten = A0 at hA HNX ⊢
        clear hx1
        go_wp2
        go_round
        case rel => exact ⟨p + 1, by omega, by go_num, by rw [← HNX.out]⟩
        case measure => simp [intOf]; omega
    · obtain rfl : p = d + s := by omega
      obtain ⟨W, hW⟩ : ∃ W, W = mkS (ps.take (min (d + s) d)).flatten := ⟨_, rfl⟩
      rw [← hW]
      have hWf : nums W = (List.range (d * L)).map fun i => (nums T).getD i 0 := by
        have h1 : ps.take (min (d + s) d) = ps := List.take_of_length_le (by have := HPSL.out; omega)
        rw [hW, h1, HFL.out, nums_mkS]
        intro y hy
        simp only [List.mem_map, List.mem_range] at hy
        obtain ⟨i, _, rfl⟩ := hy
        exact (nums_bytes T).getD i
      have hWs : W.size = d * L := by rw [← nums_length, hWf]; simp
      have HWB : Hid (∀ i, (h : i < W.size) → (W[i]'h).toNat = (nums T).getD i 0) := fun i h => by
        rw [← nums_get W i h, hWf]
        simp [show i < d * L by omega]
      have hW4 : W.size ≤ 4000 := by rw [hWs]; exact Nat.le_trans (Nat.mul_le_mul hd10 hLs) (by decide)
      have HWS : Hid (W.size = d * L) := hWs
      clear hW hWf hWs
      go_wp2
      go_loopw [15] (fun iv wr => ∃ i : Nat, i ≤ W.size ∧ iv = .int .i64 i ∧ Drew w3 wr) (fun iv _ => W.size - (intOf iv).toNat)
      case atStart => exact ⟨0, Nat.zero_le _, rfl, ⟨0, rfl⟩⟩
      case round =>
        obtain ⟨i, hi, rfl, hdr⟩ := hrel
        have HDR : Hid (Drew w3 wr) := hdr
        have v2 := (hdr.cell _).trans r2
        by_cases hiW : i < W.size
        · have hwi := HWB.out i hiW
          have j1 : (i : Int) < (W.size : Int) := by omega
          by_cases hiT : i < T.size
          · have e1 : decide ((i : Int) < (T.size : Int)) = true := decide_eq_true (by omega)
            have j2 : (i : Int) < (T.size : Int) := by omega
            have e2 : decide ((T.size : Int) ≤ (i : Int)) = false := decide_eq_false (by omega)
            have e1n : decide (i < T.size) = true := decide_eq_true hiT
            have e2n : decide (T.size ≤ i) = false := decide_eq_false (by omega)
            rw [nums_get T i hiT] at hwi
            have hne : (((W[i]'hiW).toNat : Int) != ((T[i]'hiT).toNat : Int)) = false := by rw [hwi]; simp
            clear hdr hwi
            go_wp2
            go_quiet (fail)
            have HDR2 : Hid (Drew w3 (wr.drewN nq)) := HDR.out.more nq
            go_wp2
            go_roundw
            case rel => exact ⟨i + 1, by omega, by go_num, HDR2.out⟩
            case measure => simp [intOf]; omega
          · have e1 : decide ((i : Int) < (T.size : Int)) = false := decide_eq_false (by omega)
            have e2 : decide ((T.size : Int) ≤ (i : Int)) = true := decide_eq_true (by omega)
            have e1n : decide (i < T.size) = false := decide_eq_false hiT
            have e2n : decide (T.size ≤ i) = true := decide_eq_true (by omega)
            have hz : (W[i]'hiW).toNat = 0 := by
              rw [hwi, List.getD_eq_getElem?_getD, List.getElem?_eq_none (by rw [nums_length]; omega)]; rfl
            have hne : (((W[i]'hiW).toNat : Int) != 0) = false := by rw [hz]; simp
            clear hdr hwi hz
            go_wp2
            go_quiet (fail)
            have HDR2 : Hid (Drew w3 (wr.drewN nq)) := HDR.out.more nq
            go_wp2
            go_roundw
            case rel => exact ⟨i + 1, by omega, by go_num, HDR2.out⟩
            case measure => simp [intOf]; omega
        · obtain rfl : i = W.size := by omega
          have hob := HOB3.out.to hdr.below
          have hli := HLI3.out.to hdr.below
          have v3 := hob.cell_some (k := 3) rfl
          have vf := hob.free 3
          have HOB4 : Hid (Blk wr B 30 [.int .i64 (d : Int), .int .i64 (s : Int), .string T, .slice none 0 0]) := hob
          have HLI4 : Hid (Blk wr lb 9 (strV (pieces d s T))) := hli
          have HB4 : Hid (Below w'.heap.size w' wr) := HB3.out.trans (hdr.below.mono HB3.out.size)
          clear hob hli hdr
          go_wp2
          go_ret
          refine ⟨B, lb, rfl, ⟨(HOB4.out.set 3 _).eq rfl, HLI4.out.other (Ne.symm hBl) _, by rw [HBE.out]; exact Nat.le_refl _, by have := HBE.out; omega⟩, HB4.out.setCell (by show w'.heap.size ≤ B; rw [HBE.out]; exact Nat.le_refl _) _⟩
end Go.Proofs.YtokmllopbfmadabDoor.KeepW

namespace Go.Proofs.YtokmllopbfmadabDoor.KeepW
open Go.RowKit Mem FieldWalks Tab ByTab Parts Ref Top
open Gf (newP)
open Plans (rowF)

/-- What of a writing has room behind its place. -/
def fitS (T txt : ByteArray) (a : Nat) : ByteArray := if T.size - a < txt.size then txt.extract 0 (T.size - a) else txt
theorem fitS_size (T txt : ByteArray) (a : Nat) (h : a ≤ T.size) : a + (fitS T txt a).size ≤ T.size := by
  unfold fitS
  split
  · rw [ByteArray.size_extract]; omega
  · omega
set_option maxRecDepth 100000 in
set_option maxHeartbeats 400000 in
theorem place_any (at_ : Int) (txt T : ByteArray) (w : World) (h1 : -9223372036854775808 ≤ at_) (h2 : at_ ≤ 9223372036854775807) (hT : T.size ≤ 400) (htx : txt.size < 2 ^ 62) :
    Calls Tryd.prog 13 #[.agg #[.int .i64 at_, .string txt], .string T] w fun e w' => e = .returned (.tuple #[.int .i64 (pickI at_ (T.size + 1) : Nat), .string (fitS T txt (pickI at_ (T.size + 1)))]) ∧ Below w.heap.size w w' := by
  have hlt := pickI_lt at_ (T.size + 1) (by omega)
  obtain ⟨a, ha⟩ : ∃ a, a = pickI at_ (T.size + 1) := ⟨_, rfl⟩
  have HP : Hid (∀ W, Calls Tryd.prog 7 #[.int .i64 at_, .int .i64 ((T.size : Int) + 1)] W fun e w' => e = .returned (.int .i64 (a : Nat)) ∧ w' = W) := by
    intro W
    have := kpick_any at_ (T.size + 1) W (by omega) (by omega) h1 h2
    rw [show ((T.size + 1 : Nat) : Int) = (T.size : Int) + 1 by omega, ← ha] at this
    exact this
  rw [← ha] at hlt ⊢
  clear ha
  by_cases h : T.size - a < txt.size
  · have e0 : Hid (fitS T txt a = txt.extract 0 (T.size - a)) := if_pos h
    have e1 : decide ((T.size : Int) - (a : Int) < (txt.size : Int)) = true := decide_eq_true (by omega)
    have z1 : (0 : Int) ≤ (T.size : Int) - (a : Int) := by omega
    have z2 : ((T.size : Int) - (a : Int)).toNat = T.size - a := by omega
    have z3 : (T.size : Int) - (a : Int) ≤ (txt.size : Int) := by omega
    go_enter Tryd.func13, Tryd.ntmps13
    go_wp2_with fail
    refine (HP.out _).mono ?_
    rintro e w' ⟨rfl, rfl⟩
    go_wp2
    go_ret2
    refine ⟨?_, (Below.refl _ _).alloc (Nat.le_refl _) _⟩
    rw [e0.out]
    first
      | rfl
      | (rw [← z2]; rfl)
  · have e0 : Hid (fitS T txt a = txt) := if_neg h
    have e1 : decide ((T.size : Int) - (a : Int) < (txt.size : Int)) = false := decide_eq_false (by omega)
    go_enter Tryd.func13, Tryd.ntmps13
    go_wp2_with fail
    refine (HP.out _).mono ?_
    rintro e w' ⟨rfl, rfl⟩
    go_wp2
    go_ret2
    refine ⟨?_, (Below.refl _ _).alloc (Nat.le_refl _) _⟩
    rw [e0.out]; rfl

theorem nums_append (a b : ByteArray) : nums (a ++ b) = nums a ++ nums b := by simp [nums, ByteArray.data_append]
theorem nums_take (a : ByteArray) (n : Nat) : nums (a.extract 0 n) = (nums a).take n := by
  simp only [nums]
  rw [ByteArray.data_extract]
  simp [Array.toList_extract, List.extract_eq_take_drop, List.map_take]
/-- A text, written over. -/
def overS (T : ByteArray) (a : Nat) (s : ByteArray) : ByteArray := T.extract 0 a ++ s ++ T.extract (a + s.size) T.size
theorem overS_nums (T s : ByteArray) (a : Nat) : nums (overS T a s) = overL (nums T) a (nums s) := by
  unfold overS overL
  rw [nums_append, nums_append, nums_take, nums_drop, nums_length]
theorem overS_size (T s : ByteArray) (a : Nat) (h : a + s.size ≤ T.size) : (overS T a s).size = T.size := by
  rw [← nums_length, overS_nums, overL_length _ _ _ (by rw [nums_length, nums_length]; exact h), nums_length]
set_option maxRecDepth 100000 in
set_option maxHeartbeats 400000 in
theorem over_any' (T s : ByteArray) (a : Nat) (w : World) (h : a + s.size ≤ T.size) (hT : T.size ≤ 400) :
    Calls Tryd.prog 15 #[.string T, .int .i64 a, .string s] w fun e w' => e = .returned (.string (overS T a s)) ∧ Drew w w' := by
  have z1 : (a : Int) ≤ (T.size : Int) := by omega
  have z2 : (a : Int) + (s.size : Int) ≤ (T.size : Int) := by omega
  have z3 : ((a : Int) + (s.size : Int)).toNat = a + s.size := by omega
  have z4 : (0 : Int) ≤ (a : Int) + (s.size : Int) := by omega
  have z5 : IntKind.i64.wrap ((a : Int) + (s.size : Int)) = (a : Int) + (s.size : Int) := by rw [IntKind.wrap_i64]; omega
  have z6 : (T.extract 0 a).size ≤ 400 := by rw [ByteArray.size_extract]; omega
  have z7 : (T.extract 0 a ++ s).size ≤ 800 := by rw [ByteArray.size_append]; omega
  have z8 : (T.extract (a + s.size) T.size).size ≤ 400 := by rw [ByteArray.size_extract]; omega
  have z9 : s.size ≤ 400 := by omega
  go_enter Tryd.func15, Tryd.ntmps15
  go_wp2
  go_quiet (fail)
  go_wp2
  go_ret
  exact ⟨rfl, nq, rfl⟩
end Go.Proofs.YtokmllopbfmadabDoor.KeepW
