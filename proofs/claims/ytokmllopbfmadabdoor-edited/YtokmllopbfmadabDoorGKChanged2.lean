import Derived.Test.YtokmllopbfmadabDoorGKSpread
import Derived.Test.YtokmllopbfmadabDoorGKGone
import Derived.Test.YtokmllopbfmadabDoorGKHealed
namespace Go.Proofs.YtokmllopbfmadabDoor.KeepW
open Go.RowKit Mem FieldWalks Tab ByTab Parts Ref Top
open Gf (newP)
open Plans (rowF)

/-- The slice v reads as these writings. -/
def WrAt (w : World) (v : Value) (ws : List (Int × ByteArray)) : Prop :=
  ∃ ao cap, v = .slice ao ws.length cap ∧ (ws = [] ∨ ∃ b off, ao = some ⟨b, off, none⟩ ∧ b < w.heap.size ∧ ∀ k, (h : k < ws.length) → w.cell? ⟨b, off + k * 2, none⟩ = some (.int .i64 ws[k].1) ∧ w.cell? ⟨b, off + k * 2 + 1, none⟩ = some (.string ws[k].2))
theorem pieces_shape (d s : Nat) (T : ByteArray) : ShapeOk d s ((T.size + d - 1) / d) (pieces d s T) [] := ⟨pieces_length d s T, fun k hk => by simp at hk, fun p hp _ => pieces_sizes d s T p hp⟩

end Go.Proofs.YtokmllopbfmadabDoor.KeepW

/- Edited: a pack that is edited again and again, and spoilt in between. -/
namespace Go.Proofs.YtokmllopbfmadabDoor.KeepW
open Go.RowKit Mem FieldWalks Tab ByTab Parts Ref Top
open Gf (Bytes)
open Plans (owns_form infoInt intsV)

/-- The pack of a text. -/
def packT (d s : Nat) (C : ByteArray) : ByteArray := packS d s C.size (pieces d s C)
theorem spAt_none (w : World) : SpAt w (.slice none 0 0) [] := ⟨none, 0, rfl, .inl rfl⟩
/-- The spoils from i on. -/
theorem SpAt.drop {w : World} {b off cap c i m : Nat} {ls : List (List Int)} (h : SpAt w (.slice (some ⟨b, off, none⟩) ls.length cap) ls) (hi : i < ls.length) (hm : m = ls.length - i) : SpAt w (.slice (some ⟨b, off + i * 6, none⟩) m c) (ls.drop i) := by
  obtain ⟨ao', cap', he, h⟩ := h
  injection he with he _ _
  rcases h with h | ⟨b', off', h0, h1, h2⟩
  · subst h; simp at hi
  · rw [h0] at he
    injection he with he
    injection he with he1 he2 _
    subst he1 he2
    refine ⟨_, c, by rw [List.length_drop, hm], .inr ⟨b, off + i * 6, rfl, h1, fun k hk r hr => ?_⟩⟩
    rw [List.length_drop] at hk
    have := h2 (i + k) (by omega) r hr
    rw [List.getElem_drop, show off + i * 6 + k * 6 + r = off + (i + k) * 6 + r by omega]
    exact this

set_option maxRecDepth 100000 in
set_option maxHeartbeats 4000000 in
theorem kedited_any (hS : SumsOk) (data spare way : Int) (text : ByteArray) (ws : List (Int × ByteArray)) (wv : Value) (ls : List (List Int)) (lv : Value) (w : World) (ht : Table w) (hw0 : 0 < w.heap.size) (hwr : WrAt w wv ws) (_hwl : ws.length < 2 ^ 62) (hwb : ∀ x, x ∈ ws → -9223372036854775808 ≤ x.1 ∧ x.1 ≤ 9223372036854775807 ∧ x.2.size < 2 ^ 62) (hls : SpAt w lv ls) (hlc : ∃ ao c, lv = .slice ao ls.length c ∧ ls.length ≤ c ∧ c < 2 ^ 62) (hll : ls.length < 2 ^ 62) (hlb : ∀ l, l ∈ ls → ∀ r, -9223372036854775808 ≤ l.getD r 0 ∧ l.getD r 0 ≤ 9223372036854775807)
    (hd1 : -9223372036854775808 ≤ data) (hd2 : data ≤ 9223372036854775807) (hs1 : -9223372036854775808 ≤ spare) (hs2 : spare ≤ 9223372036854775807) (hx1 : -9223372036854775808 ≤ way) (hx2 : way ≤ 9223372036854775807) :
    Calls Tryd.prog 4 #[.int .i64 data, .int .i64 spare, .int .i64 way, .string text, wv, lv] w fun e w' => e = .returned (.bool true) ∧ Below w.heap.size w w' := by
  have HS0 := kspread_any hS data spare way text w ht hw0 hd1 hd2 hs1 hs2 hx1 hx2
  obtain ⟨wao, wcap, rfl, hwc⟩ := hwr
  have HWC : Hid (ws = [] ∨ ∃ b off, wao = some ⟨b, off, none⟩ ∧ b < w.heap.size ∧ ∀ k, (h : k < ws.length) → w.cell? ⟨b, off + k * 2, none⟩ = some (.int .i64 ws[k].1) ∧ w.cell? ⟨b, off + k * 2 + 1, none⟩ = some (.string ws[k].2)) := hwc
  have HWB : Hid (∀ x, x ∈ ws → -9223372036854775808 ≤ x.1 ∧ x.1 ≤ 9223372036854775807 ∧ x.2.size < 2 ^ 62) := hwb
  obtain ⟨d, hd⟩ : ∃ d, d = 1 + pickI data 10 := ⟨_, rfl⟩
  obtain ⟨s, hs⟩ : ∃ s, s = pickI spare 7 := ⟨_, rfl⟩
  obtain ⟨T, hT⟩ : ∃ T, T = shortS text := ⟨_, rfl⟩
  have b1 := pickI_lt data 10 (by omega)
  have b2 := pickI_lt spare 7 (by omega)
  have hTs : T.size ≤ 400 := by rw [hT]; exact shortS_size _
  rw [← hd, ← hs, ← hT] at HS0
  have hd0 : 1 ≤ d := by omega
  have hd10 : d ≤ 10 := by omega
  have hs6 : s ≤ 6 := by omega
  have HSP : Hid (Calls Tryd.prog 5 #[.int .i64 data, .int .i64 spare, .int .i64 way, .string text] w fun e w' => ∃ b lb, e = .returned (.pointer (some ⟨b, 0, none⟩)) ∧ Spr w' w.heap.size b d s T lb ∧ Below w.heap.size w w') := HS0
  have HPW : Hid (∀ k : Int, ∃ x : Nat, x ≤ 2 ∧ ∀ W, Calls Tryd.prog 7 #[.int .i64 (wrap64 (way + k)), .int .i64 3] W fun e w' => e = .returned (.int .i64 (x : Nat)) ∧ w' = W) := by
    intro k
    have hw64 : wrap64 (way + k) = IntKind.i64.wrap (way + k) := by first | rfl | (rw [IntKind.wrap_i64]; rfl) | (rw [IntKind.wrap_i64]; unfold wrap64; omega)
    have hcb : -9223372036854775808 ≤ wrap64 (way + k) ∧ wrap64 (way + k) ≤ 9223372036854775807 := by rw [hw64, IntKind.wrap_i64]; omega
    exact ⟨pickI (wrap64 (way + k)) 3, by have := pickI_lt (wrap64 (way + k)) 3 (by omega); omega, fun W => kpick_any _ 3 W (by omega) (by omega) hcb.1 hcb.2⟩
  obtain ⟨x, hx⟩ : ∃ x, x = pickI way 3 := ⟨_, rfl⟩
  have hx2' : x ≤ 2 := by rw [hx]; have := pickI_lt way 3 (by omega); omega
  have HP0 : Hid (∀ W, Calls Tryd.prog 7 #[.int .i64 way, .int .i64 3] W fun e w' => e = .returned (.int .i64 (x : Nat)) ∧ w' = W) := fun W => by
    rw [hx]; exact kpick_any way 3 W (by omega) (by omega) hx1 hx2
  have HPK : Hid (∀ C : ByteArray, C.size ≤ 400 → ∀ W, Table W → Calls Tryd.prog 6 #[.int .i64 d, .int .i64 s, .int .i64 x, .string C] W fun e w' => e = .returned (.tuple #[.string (packT d s C), .int .i64 0]) ∧ Below W.heap.size W w') := fun C hC W hW => Pk.wPack_ok hS d s x C hd0 hd10 hs6 hx2' hC W hW
  have HPZ : Hid (∀ C : ByteArray, C.size ≤ 400 → 10 ≤ (packT d s C).size ∧ (packT d s C).size ≤ 7000) := fun C hC => by
    have := spoilt_size (spoilt_new d s C hd0 hd10 hs6 hC)
    unfold packT; omega
  have HSE : Hid (∀ (C : ByteArray), C.size ≤ 400 → ∀ (l : List (List Int)) (v : Value) (W : World) (b lb : Nat), SpAt W v l → l.length < 2 ^ 62 → (∀ y, y ∈ l → y ∈ ls) → Spr W w.heap.size b d s T lb → Calls Tryd.prog 8 #[.pointer (some ⟨b, 0, none⟩), .string (packT d s C), v] W fun e w' => ∃ q v', e = .returned (.tuple #[.string q, v']) ∧ (∃ (n : Option Addr) (c1 c2 : Nat), v' = .slice n c1 c2) ∧ Below W.heap.size W w' ∧
      ∀ (y a : Nat) (f C2 : ByteArray), y ≤ 2 → a + f.size ≤ C.size → nums C2 = overL (nums C) a (nums f) → ∀ W2, Table W2 → Calls Tryd.prog 14 #[.string q, .int .i64 y, .int .i64 a, .string f] W2 fun e w' => e = .returned (.tuple #[.string (packT d s C2), .int .i64 0]) ∧ Below W2.heap.size W2 w') := fun C hC l v W b lb h1 h2 h3 h4 =>
    (kspoilt_any d s C.size ((C.size + d - 1) / d) lb b w.heap.size T (packT d s C) (pieces d s C) _ l v W h4 (spoilt_new d s C hd0 hd10 hs6 hC) h1 h2 (fun y hy => hlb y (h3 y hy))).mono fun e w' hh => by
      obtain ⟨q, bad, fs, v', he, hsp, hnd, hbl, hown, hb⟩ := hh
      obtain ⟨ta, tc, hv'⟩ := owns_form hown
      exact ⟨q, v', he, ⟨ta, bad.length, tc, hv'⟩, hb, fun y a f C2 hy ha h2 W2 hW2 => edit_spoilt hS hsp hbl hy ha h2 W2 hW2⟩
  have HLS : Hid (SpAt w lv ls) := hls
  obtain ⟨lao, lcap, rfl, hlc1, hlc2⟩ := hlc
  have HT : Hid (Table w) := ht
  clear hd hs hT b1 b2 HS0 hls hlb hx ht hwb hwc
  go_enter Tryd.func4, Tryd.ntmps4
  go_wp2_with fail
  refine Calls.mono HSP.out ?_
  rintro e w1 ⟨b, lb, rfl, hspr, hb1⟩
  have c0 := hspr.obj.cell_some (k := 0) rfl
  have c1 := hspr.obj.cell_some (k := 1) rfl
  have c2 := hspr.obj.cell_some (k := 2) rfl
  have hbl := hspr.obj.lt
  have HSPR : Hid (Spr w1 w.heap.size b d s T lb) := hspr
  have HB1 : Hid (Below w.heap.size w w1) := hb1
  have HT1 : Hid (Table w1) := table_below HT.out hb1 hw0
  have hpz := HPZ.out T hTs
  have HPKT : Hid (∀ W, Table W → Calls Tryd.prog 6 #[.int .i64 d, .int .i64 s, .int .i64 x, .string T] W fun e w' => e = .returned (.tuple #[.string (packT d s T), .int .i64 0]) ∧ Below W.heap.size W w') := HPK.out T hTs
  obtain ⟨PT, hPT⟩ : ∃ PT, PT = packT d s T := ⟨_, rfl⟩
  rw [← hPT] at HPKT hpz
  have HPT : Hid (PT = packT d s T) := hPT
  clear hspr hb1 HSP hPT
  go_wp2_with fail
  go_region_held3 (fun wx => wx.cell? ⟨b, 0, none⟩ = some (.int .i64 (d : Int)) ∧ wx.cell? ⟨b, 1, none⟩ = some (.int .i64 (s : Int)) ∧ wx.cell? ⟨b, 2, none⟩ = some (.string T)) (go_keep) (first | (go_at_call 7; refine (HP0.out _).mono ?_; rintro e w2 ⟨rfl, rfl⟩) | (go_at_call 6; refine Calls.mono (HPKT.out _ (by exact HT1.out)) ?_; rintro e w2 ⟨rfl, hb2⟩; have t0 := (hb2.cell (p := ⟨b, 0, none⟩) hbl).trans c0; have t1 := (hb2.cell (p := ⟨b, 1, none⟩) hbl).trans c1; have t2 := (hb2.cell (p := ⟨b, 2, none⟩) hbl).trans c2))
  have hb12 : Below w1.heap.size w1 w2 := (Below.refl _ _).drew.trans hb2
  have HSPR2 : Hid (Spr w2 w.heap.size b d s T lb) := HSPR.out.to hb12
  have HB2 : Hid (Below w.heap.size w w2) := HB1.out.trans (hb12.mono HB1.out.size)
  have hbl2 : b < w2.heap.size := HSPR2.out.obj.lt
  have e0 : decide ((PT.size : Int) < 10) = false := decide_eq_false (by omega)
  clear hb12 hb2 HSPR c0 c1 c2 HB1 HT1 hbl t0 t1
  go_wp2_with fail
  clear t2
  go_loopw [14, 16, 17] (fun pv tv iv wr => ∃ (i : Nat) (C : ByteArray), i ≤ ws.length ∧ i ≤ 12 ∧ iv = .int .i64 i ∧ tv = .string C ∧ C.size = T.size ∧ pv = .string (packT d s C) ∧ Below w2.heap.size w2 wr) (fun _ _ iv _ => 12 - (intOf iv).toNat)
  case atStart => exact ⟨0, T, Nat.zero_le _, by omega, rfl, rfl, rfl, by rw [HPT.out], Below.refl _ _⟩
  case round =>
    obtain ⟨i, C, hi, hi12, rfl, rfl, hC, rfl, hbel⟩ := hrel
    have hCs : C.size ≤ 400 := by omega
    have HCT : Hid (C.size = T.size) := hC
    have HBE : Hid (Below w2.heap.size w2 wr) := hbel
    have hbw : Below w.heap.size w wr := HB2.out.trans (hbel.mono HB2.out.size)
    have htr : Table wr := table_below HT.out hbw hw0
    have HSPRR : Hid (Spr wr w.heap.size b d s T lb) := HSPR2.out.to hbel
    have HLSR : Hid (SpAt wr (.slice lao ls.length lcap) ls) := HLS.out.to hbw
    have hszr := hbel.size
    have hbr : b < wr.heap.size := by omega
    have hwr0 : 0 < wr.heap.size := by omega
    have hwsz := hbw.size
    clear hC
    by_cases hgo : i < ws.length ∧ i < 12
    · obtain ⟨hil, hi2⟩ := hgo
      have e1 : decide ((i : Int) < (ws.length : Int)) = true := decide_eq_true (by omega)
      have e2 : decide ((i : Int) < 12) = true := decide_eq_true (by omega)
      obtain ⟨wb, woff, rfl, hwbl, hwcl⟩ : ∃ b off, wao = some ⟨b, off, none⟩ ∧ b < w.heap.size ∧ ∀ k, (h : k < ws.length) → w.cell? ⟨b, off + k * 2, none⟩ = some (.int .i64 ws[k].1) ∧ w.cell? ⟨b, off + k * 2 + 1, none⟩ = some (.string ws[k].2) := by
        rcases HWC.out with h | h
        · rw [h] at hil; simp at hil
        · exact h
      obtain ⟨r0, r1⟩ := hwcl i hil
      rw [← hbw.cell (p := ⟨wb, woff + i * 2, none⟩) hwbl] at r0
      rw [← hbw.cell (p := ⟨wb, woff + i * 2 + 1, none⟩) hwbl] at r1
      have hwbr : wb < wr.heap.size := by omega
      obtain ⟨hb0, hb1', hb2'⟩ := HWB.out _ (List.getElem_mem hil)
      obtain ⟨pa, hpa⟩ : ∃ pa, pa = ws[i].1 := ⟨_, rfl⟩
      obtain ⟨px, hpx⟩ : ∃ px, px = ws[i].2 := ⟨_, rfl⟩
      rw [← hpa] at r0 hb0 hb1'
      rw [← hpx] at r1 hb2'
      obtain ⟨a, ha⟩ : ∃ a, a = pickI pa (C.size + 1) := ⟨_, rfl⟩
      have haC : a ≤ C.size := by rw [ha]; have := pickI_lt pa (C.size + 1) (by omega); omega
      obtain ⟨f, hf⟩ : ∃ f, f = fitS C px a := ⟨_, rfl⟩
      have hfs : a + f.size ≤ C.size := by rw [hf]; exact fitS_size C px a haC
      have HPL : Hid (∀ W, Calls Tryd.prog 13 #[.agg #[.int .i64 pa, .string px], .string C] W fun e w' => e = .returned (.tuple #[.int .i64 (a : Nat), .string f]) ∧ Below W.heap.size W w') := by
        intro W
        have := place_any pa px C W hb0 hb1' hCs hb2'
        rw [← ha, ← hf] at this; exact this
      obtain ⟨C2, hC2⟩ : ∃ C2, C2 = overS C a f := ⟨_, rfl⟩
      have hC2s : C2.size = C.size := by rw [hC2]; exact overS_size C f a hfs
      have HC2S : Hid (C2.size = C.size) := hC2s
      have HNU : Hid (nums C2 = overL (nums C) a (nums f)) := by show _ = _; rw [hC2]; exact overS_nums C f a
      have HOV : Hid (∀ W, Calls Tryd.prog 15 #[.string C, .int .i64 (a : Nat), .string f] W fun e w' => e = .returned (.string C2) ∧ Drew W w') := by
        intro W; rw [hC2]; exact over_any' C f a W hfs hCs
      obtain ⟨yi, hyi, hpyi⟩ := HPW.out i
      have HPI : Hid (∀ W, Calls Tryd.prog 7 #[.int .i64 (wrap64 (way + (i : Int))), .int .i64 3] W fun e w' => e = .returned (.int .i64 (yi : Nat)) ∧ w' = W) := hpyi
      obtain ⟨P2, hP2⟩ : ∃ P2, P2 = packT d s C2 := ⟨_, rfl⟩
      have HP2 : Hid (P2 = packT d s C2) := hP2
      have HPK2 : Hid (∀ W, Table W → Calls Tryd.prog 6 #[.int .i64 d, .int .i64 s, .int .i64 x, .string C2] W fun e w' => e = .returned (.tuple #[.string P2, .int .i64 0]) ∧ Below W.heap.size W w') := by
        rw [hP2]; exact HPK.out C2 (by omega)
      have z1 : (i : Int) < (ws.length : Int) := by omega
      clear hwcl hbw hpa hpx ha hf hC2 hbel hb0 hb1' hb2' hC2s hpyi hP2
      by_cases hsl : i < ls.length
      · have e3 : decide ((i : Int) < (ls.length : Int)) = true := decide_eq_true (by omega)
        obtain ⟨sb, soff, rfl⟩ : ∃ b off, lao = some ⟨b, off, none⟩ := by
          obtain ⟨ao', cap', he, h⟩ := HLSR.out
          injection he with he _ _
          rcases h with h | ⟨b', off', h0, _⟩
          · rw [h] at hsl; simp at hsl
          · exact ⟨b', off', by rw [he, h0]⟩
        have z2 : (i : Int) ≤ (ls.length : Int) := by omega
        have z3 : (ls.length : Int) ≤ (lcap : Int) := by omega
        have z4 : i ≤ lcap := by omega
        have HSPL : Hid (Calls Tryd.prog 8 #[.pointer (some ⟨b, 0, none⟩), .string (packT d s C), .slice (some ⟨sb, soff + i * 6, none⟩) (ls.length - i) (lcap - i)] wr fun e w' => ∃ q v', e = .returned (.tuple #[.string q, v']) ∧ (∃ (n : Option Addr) (c1 c2 : Nat), v' = .slice n c1 c2) ∧ Below wr.heap.size wr w' ∧
          ∀ (y a : Nat) (f C2 : ByteArray), y ≤ 2 → a + f.size ≤ C.size → nums C2 = overL (nums C) a (nums f) → ∀ W2, Table W2 → Calls Tryd.prog 14 #[.string q, .int .i64 y, .int .i64 a, .string f] W2 fun e w' => e = .returned (.tuple #[.string (packT d s C2), .int .i64 0]) ∧ Below W2.heap.size W2 w') := HSE.out C hCs (ls.drop i) _ wr b lb (HLSR.out.drop hsl rfl) (by rw [List.length_drop]; omega) (fun y hy => List.mem_of_mem_drop hy) HSPRR.out
        clear HSE HLSR
        go_wp2_with fail
        refine Calls.mono HSPL.out ?_
        rintro e w3 ⟨q, v', rfl, ⟨n3, c3, c4, rfl⟩, hb3, hed⟩
        have HB3 : Hid (Below wr.heap.size wr w3) := hb3
        have HED : Hid (∀ W2, Table W2 → Calls Tryd.prog 14 #[.string q, .int .i64 yi, .int .i64 a, .string f] W2 fun e w' => e = .returned (.tuple #[.string P2, .int .i64 0]) ∧ Below W2.heap.size W2 w') := by
          have := hed yi a f C2 hyi hfs HNU.out
          rw [← HP2.out] at this; exact this
        have r0' := (hb3.cell (p := ⟨wb, woff + i * 2, none⟩) hwbr).trans r0
        have r1' := (hb3.cell (p := ⟨wb, woff + i * 2 + 1, none⟩) hwbr).trans r1
        clear hed hb3 HSPL r0 r1
        go_wp2_with fail
        refine Calls.mono (HPL.out _) ?_
        rintro e w4 ⟨rfl, hb4⟩
        have HB4 : Hid (Below wr.heap.size wr w4) := HB3.out.trans (hb4.mono HB3.out.size)
        have HT4 : Hid (Table w4) := table_below htr HB4.out hwr0
        clear hb4 r0' r1' HB3
        go_wp2_with fail
        refine (HPI.out _).mono ?_
        rintro e w' ⟨rfl, hw'⟩
        obtain rfl : w4 = w' := hw'.symm
        go_wp2_with fail
        refine Calls.mono (HED.out _ HT4.out) ?_
        rintro e w5 ⟨rfl, hb5⟩
        have HB5 : Hid (Below wr.heap.size wr w5) := HB4.out.trans (hb5.mono HB4.out.size)
        clear hb5 HB4 HT4 HED
        go_wp2_with fail
        refine (HOV.out _).mono ?_
        rintro e w6 ⟨rfl, D6⟩
        have hb6 : Below wr.heap.size wr w6 := HB5.out.trans (D6.below.mono HB5.out.size)
        have HB6 : Hid (Below wr.heap.size wr w6) := hb6
        have HT6 : Hid (Table w6) := table_below htr hb6 hwr0
        have hbl6 : b < w6.heap.size := Nat.lt_of_lt_of_le hbr hb6.size
        have n0 := (hb6.cell (p := ⟨b, 0, none⟩) hbr).trans (HSPRR.out.obj.cell_some (k := 0) rfl)
        have n1 := (hb6.cell (p := ⟨b, 1, none⟩) hbr).trans (HSPRR.out.obj.cell_some (k := 1) rfl)
        clear D6 HB5 hb6
        go_wp2_with fail
        go_region_held3 (fun wx => wx.cell? ⟨b, 0, none⟩ = some (.int .i64 (d : Int)) ∧ wx.cell? ⟨b, 1, none⟩ = some (.int .i64 (s : Int))) (go_keep) (first | (go_at_call 7; refine (HP0.out _).mono ?_; rintro e w7 ⟨rfl, rfl⟩) | (go_at_call 6; refine Calls.mono (HPK2.out _ (by exact HT6.out)) ?_; rintro e w7 ⟨rfl, hb7⟩; have o0 := (hb7.cell (p := ⟨b, 0, none⟩) hbl6).trans n0; have o1 := (hb7.cell (p := ⟨b, 1, none⟩) hbl6).trans n1))
        have HB7 : Hid (Below w2.heap.size w2 w7) := HBE.out.trans ((HB6.out.trans (((Below.refl _ _).drew.trans hb7).mono HB6.out.size)).mono hszr)
        clear n0 n1 o0 o1 hb7 HB6 HT6
        go_wp2
        go_roundw
        case rel => exact ⟨i + 1, C2, by omega, by omega, by go_num, rfl, by rw [HC2S.out]; exact HCT.out, by rw [HP2.out], HB7.out⟩
        case measure => simp [intOf]; omega
      · have e3 : decide ((i : Int) < (ls.length : Int)) = false := decide_eq_false (by omega)
        have HSPL : Hid (Calls Tryd.prog 8 #[.pointer (some ⟨b, 0, none⟩), .string (packT d s C), .slice none 0 0] wr fun e w' => ∃ q v', e = .returned (.tuple #[.string q, v']) ∧ (∃ (n : Option Addr) (c1 c2 : Nat), v' = .slice n c1 c2) ∧ Below wr.heap.size wr w' ∧
          ∀ (y a : Nat) (f C2 : ByteArray), y ≤ 2 → a + f.size ≤ C.size → nums C2 = overL (nums C) a (nums f) → ∀ W2, Table W2 → Calls Tryd.prog 14 #[.string q, .int .i64 y, .int .i64 a, .string f] W2 fun e w' => e = .returned (.tuple #[.string (packT d s C2), .int .i64 0]) ∧ Below W2.heap.size W2 w') := HSE.out C hCs [] _ wr b lb (spAt_none wr) (by simp) (fun y hy => by simp at hy) HSPRR.out
        clear HSE HLSR
        go_wp2_with fail
        refine Calls.mono HSPL.out ?_
        rintro e w3 ⟨q, v', rfl, ⟨n3, c3, c4, rfl⟩, hb3, hed⟩
        have HB3 : Hid (Below wr.heap.size wr w3) := hb3
        have HED : Hid (∀ W2, Table W2 → Calls Tryd.prog 14 #[.string q, .int .i64 yi, .int .i64 a, .string f] W2 fun e w' => e = .returned (.tuple #[.string P2, .int .i64 0]) ∧ Below W2.heap.size W2 w') := by
          have := hed yi a f C2 hyi hfs HNU.out
          rw [← HP2.out] at this; exact this
        have r0' := (hb3.cell (p := ⟨wb, woff + i * 2, none⟩) hwbr).trans r0
        have r1' := (hb3.cell (p := ⟨wb, woff + i * 2 + 1, none⟩) hwbr).trans r1
        clear hed hb3 HSPL r0 r1
        go_wp2_with fail
        refine Calls.mono (HPL.out _) ?_
        rintro e w4 ⟨rfl, hb4⟩
        have HB4 : Hid (Below wr.heap.size wr w4) := HB3.out.trans (hb4.mono HB3.out.size)
        have HT4 : Hid (Table w4) := table_below htr HB4.out hwr0
        clear hb4 r0' r1' HB3
        go_wp2_with fail
        refine (HPI.out _).mono ?_
        rintro e w' ⟨rfl, hw'⟩
        obtain rfl : w4 = w' := hw'.symm
        go_wp2_with fail
        refine Calls.mono (HED.out _ HT4.out) ?_
        rintro e w5 ⟨rfl, hb5⟩
        have HB5 : Hid (Below wr.heap.size wr w5) := HB4.out.trans (hb5.mono HB4.out.size)
        clear hb5 HB4 HT4 HED
        go_wp2_with fail
        refine (HOV.out _).mono ?_
        rintro e w6 ⟨rfl, D6⟩
        have hb6 : Below wr.heap.size wr w6 := HB5.out.trans (D6.below.mono HB5.out.size)
        have HB6 : Hid (Below wr.heap.size wr w6) := hb6
        have HT6 : Hid (Table w6) := table_below htr hb6 hwr0
        have hbl6 : b < w6.heap.size := Nat.lt_of_lt_of_le hbr hb6.size
        have n0 := (hb6.cell (p := ⟨b, 0, none⟩) hbr).trans (HSPRR.out.obj.cell_some (k := 0) rfl)
        have n1 := (hb6.cell (p := ⟨b, 1, none⟩) hbr).trans (HSPRR.out.obj.cell_some (k := 1) rfl)
        clear D6 HB5 hb6
        go_wp2_with fail
        go_region_held3 (fun wx => wx.cell? ⟨b, 0, none⟩ = some (.int .i64 (d : Int)) ∧ wx.cell? ⟨b, 1, none⟩ = some (.int .i64 (s : Int))) (go_keep) (first | (go_at_call 7; refine (HP0.out _).mono ?_; rintro e w7 ⟨rfl, rfl⟩) | (go_at_call 6; refine Calls.mono (HPK2.out _ (by exact HT6.out)) ?_; rintro e w7 ⟨rfl, hb7⟩; have o0 := (hb7.cell (p := ⟨b, 0, none⟩) hbl6).trans n0; have o1 := (hb7.cell (p := ⟨b, 1, none⟩) hbl6).trans n1))
        have HB7 : Hid (Below w2.heap.size w2 w7) := HBE.out.trans ((HB6.out.trans (((Below.refl _ _).drew.trans hb7).mono HB6.out.size)).mono hszr)
        clear n0 n1 o0 o1 hb7 HB6 HT6
        go_wp2
        go_roundw
        case rel => exact ⟨i + 1, C2, by omega, by omega, by go_num, rfl, by rw [HC2S.out]; exact HCT.out, by rw [HP2.out], HB7.out⟩
        case measure => simp [intOf]; omega
    · by_cases hil : i < ws.length
      · have e1 : decide ((i : Int) < (ws.length : Int)) = true := decide_eq_true (by omega)
        have e2 : decide ((i : Int) < 12) = false := decide_eq_false (by omega)
        clear hgo
        go_wp2
        go_ret
        exact ⟨rfl, hbw⟩
      · have e1 : decide ((i : Int) < (ws.length : Int)) = false := decide_eq_false (by omega)
        clear hgo
        go_wp2
        go_ret
        exact ⟨rfl, hbw⟩
end Go.Proofs.YtokmllopbfmadabDoor.KeepW
