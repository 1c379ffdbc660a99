import Derived.Test.YtokmllopbfmadabDoorGKMend
import Derived.Test.YtokmllopbfmadabDoorGKSpoilt
import Derived.Test.YtokmllopbfmadabDoorGKSpread
import Derived.Deep.SlicePairs
import Derived.Test.YtokmllopbfmadabDoorGBook
/- Healed: a pack heals. -/
namespace Go.Proofs.YtokmllopbfmadabDoor.KeepW
open Go.RowKit Mem FieldWalks Tab ByTab Parts Ref Top
open Gf (Bytes)
open Plans (owns_form infoInt intsV)

theorem SpAt.to {w w' : World} {v : Value} {ls : List (List Int)} (h : SpAt w v ls) (hb : Below w.heap.size w w') : SpAt w' v ls := by
  obtain ⟨ao, cap, rfl, h⟩ := h
  refine ⟨ao, cap, rfl, ?_⟩
  rcases h with h | ⟨b, off, h1, h2, h3⟩
  · exact .inl h
  · exact .inr ⟨b, off, h1, Nat.lt_of_lt_of_le h2 hb.size, fun k hk r hr => (hb.cell (p := ⟨b, off + k * 6 + r, none⟩) h2).trans (h3 k hk r hr)⟩
/-- The cells of a list of numbers. -/
theorem isC_read {w : World} {ao : Option Addr} {c m : Nat} {l : List Nat} {k : Nat} (h : IsC w (.slice ao m c) (l.map Int.ofNat)) (hk : k < l.length) : ∃ b off, ao = some ⟨b, off, none⟩ ∧ w.cell? ⟨b, off + k, none⟩ = some (.int .i64 (l[k] : Nat)) := by
  obtain ⟨ao', ex, he, h⟩ := h
  injection he with he _ _
  subst he
  rcases h with h | ⟨b, off, rfl, _, h⟩
  · have : l = [] := by simpa using h
    subst this; simp at hk
  · have := h k (by simpa using hk)
    exact ⟨b, off, rfl, by rw [this]; simp⟩

set_option maxRecDepth 100000 in
set_option maxHeartbeats 4000000 in
theorem khealed_any (hS : SumsOk) (data spare way : Int) (text : ByteArray) (ls : List (List Int)) (lv : Value) (w : World) (ht : Table w) (hw0 : 0 < w.heap.size) (hls : SpAt w lv ls) (hll : ls.length < 2 ^ 62) (hlb : ∀ l, l ∈ ls → ∀ r, -9223372036854775808 ≤ l.getD r 0 ∧ l.getD r 0 ≤ 9223372036854775807)
    (hd1 : -9223372036854775808 ≤ data) (hd2 : data ≤ 9223372036854775807) (hs1 : -9223372036854775808 ≤ spare) (hs2 : spare ≤ 9223372036854775807) (hx1 : -9223372036854775808 ≤ way) (hx2 : way ≤ 9223372036854775807) :
    Calls Tryd.prog 3 #[.int .i64 data, .int .i64 spare, .int .i64 way, .string text, lv] w fun e w' => e = .returned (.bool true) ∧ Below w.heap.size w w' := by
  have HS0 := kspread_any hS data spare way text w ht hw0 hd1 hd2 hs1 hs2 hx1 hx2
  obtain ⟨d, hd⟩ : ∃ d, d = 1 + pickI data 10 := ⟨_, rfl⟩
  obtain ⟨s, hs⟩ : ∃ s, s = pickI spare 7 := ⟨_, rfl⟩
  obtain ⟨T, hT⟩ : ∃ T, T = shortS text := ⟨_, rfl⟩
  have b1 := pickI_lt data 10 (by omega)
  have b2 := pickI_lt spare 7 (by omega)
  have hTs : T.size ≤ 400 := by rw [hT]; exact shortS_size _
  rw [← hd, ← hs, ← hT] at HS0
  have hd0 : 1 ≤ d := by omega
  have hd10 : d ≤ 10 := by omega
  have hs6 : s ≤ 6 := by omega
  have HSP : Hid (Calls Tryd.prog 5 #[.int .i64 data, .int .i64 spare, .int .i64 way, .string text] w fun e w' => ∃ b lb, e = .returned (.pointer (some ⟨b, 0, none⟩)) ∧ Spr w' w.heap.size b d s T lb ∧ Below w.heap.size w w') := HS0
  have HPW : Hid (∀ k : Int, ∃ x : Nat, x ≤ 2 ∧ ∀ W, Calls Tryd.prog 7 #[.int .i64 (wrap64 (way + k)), .int .i64 3] W fun e w' => e = .returned (.int .i64 (x : Nat)) ∧ w' = W) := by
    intro k
    have hw64 : wrap64 (way + k) = IntKind.i64.wrap (way + k) := by first | rfl | (rw [IntKind.wrap_i64]; rfl) | (rw [IntKind.wrap_i64]; unfold wrap64; omega)
    have hcb : -9223372036854775808 ≤ wrap64 (way + k) ∧ wrap64 (way + k) ≤ 9223372036854775807 := by rw [hw64, IntKind.wrap_i64]; omega
    exact ⟨pickI (wrap64 (way + k)) 3, by have := pickI_lt (wrap64 (way + k)) 3 (by omega); omega, fun W => kpick_any _ 3 W (by omega) (by omega) hcb.1 hcb.2⟩
  obtain ⟨x, hx⟩ : ∃ x, x = pickI way 3 := ⟨_, rfl⟩
  have hx2' : x ≤ 2 := by rw [hx]; have := pickI_lt way 3 (by omega); omega
  have HP0 : Hid (∀ W, Calls Tryd.prog 7 #[.int .i64 way, .int .i64 3] W fun e w' => e = .returned (.int .i64 (x : Nat)) ∧ w' = W) := fun W => by
    rw [hx]; exact kpick_any way 3 W (by omega) (by omega) hx1 hx2
  obtain ⟨y1, hy1, hpy1⟩ := HPW.out 1
  obtain ⟨y2, hy2, hpy2⟩ := HPW.out 2
  have HP1 : Hid (∀ W, Calls Tryd.prog 7 #[.int .i64 (wrap64 (way + 1)), .int .i64 3] W fun e w' => e = .returned (.int .i64 (y1 : Nat)) ∧ w' = W) := hpy1
  have HP2 : Hid (∀ W, Calls Tryd.prog 7 #[.int .i64 (wrap64 (way + 2)), .int .i64 3] W fun e w' => e = .returned (.int .i64 (y2 : Nat)) ∧ w' = W) := hpy2
  obtain ⟨P, hP⟩ : ∃ P, P = packS d s T.size (pieces d s T) := ⟨_, rfl⟩
  obtain ⟨L, hL⟩ : ∃ L, L = (T.size + d - 1) / d := ⟨_, rfl⟩
  have hsp0 := spoilt_new d s T hd0 hd10 hs6 hTs
  rw [← hP, ← hL] at hsp0
  have hPs0 := (spoilt_size hsp0).1
  have hL4 := (spoilt_size hsp0).2.1
  have hPs7 := (spoilt_size hsp0).2.2
  obtain ⟨M, hM⟩ : ∃ M, M = (d + s) * (L + 5) := ⟨_, rfl⟩
  have hPs : P.size = 10 + M := by rw [hPs0, hM]
  have hm : ((d : Int) + (s : Int)) * (5 + (L : Int)) = (M : Int) := by rw [hM, Int.natCast_mul, Int.natCast_add, show ((L + 5 : Nat) : Int) = 5 + (L : Int) by omega]
  have HPK : Hid (∀ W, Table W → Calls Tryd.prog 6 #[.int .i64 d, .int .i64 s, .int .i64 x, .string T] W fun e w' => e = .returned (.tuple #[.string P, .int .i64 0]) ∧ Below W.heap.size W w') := fun W hW => by
    rw [hP]; exact Pk.wPack_ok hS d s x T hd0 hd10 hs6 hx2' hTs W hW
  have HSPO : Hid (∀ W b lb, SpAt W lv ls → Spr W w.heap.size b d s T lb → Calls Tryd.prog 8 #[.pointer (some ⟨b, 0, none⟩), .string P, lv] W fun e w' => ∃ q' bad fs' v, e = .returned (.tuple #[.string q', v]) ∧ Spoilt q' d s T.size L (pieces d s T) bad fs' ∧ bad.Nodup ∧ bad.length ≤ s ∧ w'.ownsRow W.heap.size 3 1 v bad.length (intsV bad) ∧ Below W.heap.size W w') := fun W b lb h1 h2 =>
    kspoilt_any d s T.size L lb b w.heap.size T P (pieces d s T) _ ls lv W h2 hsp0 h1 hll hlb
  have HMS : Hid (∀ q' bad fs', Spoilt q' d s T.size L (pieces d s T) bad fs' → bad.Nodup → bad.length ≤ s → (∀ W v, IsC W v (bad.map Int.ofNat) → Calls Tryd.prog 9 #[v] W fun e w' => ∃ v, e = .returned v ∧ w'.ownsRow W.heap.size 3 1 v (openBad q').length (intsV (openBad q')) ∧ Below W.heap.size W w') ∧
      (∀ W, Calls Tryd.prog 10 #[.string q'] W fun e w' => ∃ b vb, W.heap.size ≤ b ∧ e = .returned (.tuple #[.agg #[.int .i64 d, .int .i64 s, .int .i64 T.size], .slice (some ⟨b, 0, none⟩) (d + s) (d + s), vb, .int .i64 0]) ∧ Blk w' b 9 (strV (openPieces q')) ∧ w'.ownsRow W.heap.size 3 1 vb (openBad q').length (intsV (openBad q')) ∧ Below W.heap.size W w') ∧
      (∀ W, Table W → Calls Tryd.prog 11 #[.string q', .int .i64 y1] W fun e w' => e = .returned (.tuple #[.string T, .int .i64 0]) ∧ Below W.heap.size W w') ∧
      (∀ W, Table W → Calls Tryd.prog 12 #[.string q', .int .i64 y2] W fun e w' => ∃ vb, e = .returned (.tuple #[.string P, vb, .int .i64 0]) ∧ w'.ownsRow W.heap.size 3 1 vb (openBad q').length (intsV (openBad q')) ∧ Below W.heap.size W w') ∧ (openBad q').length ≤ 16 ∧ (openPieces q').length = d + s ∧ ∀ k, (h : k < (openPieces q').length) → (openPieces q')[k].size = L) := fun q' bad fs' h hnd hbl =>
    ⟨fun W v hv => (ksorted_any _ v W hv (by simp; omega)).mono fun e w' hh => by
      obtain ⟨v, he, ho, hb⟩ := hh
      rw [sorted_opened h hnd] at ho
      exact ⟨v, he, ho, hb⟩, fun W => open_spoilt h W, fun W hW => read_spoilt hS h hbl hy1 W hW, fun W hW => by rw [hP]; exact heal_spoilt hS h hbl hy2 W hW, by have := h.bad_length; omega, h.pieces_length, h.pieces_size⟩
  have hpl : (pieces d s T).length = d + s := pieces_length d s T
  have HPZ : Hid (∀ k, (h : k < (pieces d s T).length) → (pieces d s T)[k].size = L) := fun k h => by rw [hL]; exact pieces_sizes d s T k h
  obtain ⟨ps, hps⟩ : ∃ ps, ps = pieces d s T := ⟨_, rfl⟩
  have HPS : Hid (ps = pieces d s T) := hps
  have HLS : Hid (SpAt w lv ls) := hls
  obtain ⟨lao, lcap, rfl⟩ : ∃ ao c, lv = .slice ao ls.length c := by obtain ⟨ao, c, h, _⟩ := hls; exact ⟨ao, c, h⟩
  have HT : Hid (Table w) := ht
  clear hd hs hT b1 b2 HS0 hls hlb hpy1 hpy2 HPW hx hP hL hsp0 hPs0 hM hps ht
  go_enter Tryd.func3, Tryd.ntmps3
  go_wp2_with fail
  refine Calls.mono HSP.out ?_
  rintro e w1 ⟨b, lb, rfl, hspr, hb1⟩
  have c0 := hspr.obj.cell_some (k := 0) rfl
  have c1 := hspr.obj.cell_some (k := 1) rfl
  have c2 := hspr.obj.cell_some (k := 2) rfl
  have hbl := hspr.obj.lt
  have HSPR : Hid (Spr w1 w.heap.size b d s T lb) := hspr
  have HB1 : Hid (Below w.heap.size w w1) := hb1
  have HT1 : Hid (Table w1) := table_below HT.out hb1 hw0
  clear hspr hb1 HSP
  go_wp2_with fail
  go_region_held3 (fun wx => wx.cell? ⟨b, 0, none⟩ = some (.int .i64 (d : Int)) ∧ wx.cell? ⟨b, 1, none⟩ = some (.int .i64 (s : Int)) ∧ wx.cell? ⟨b, 2, none⟩ = some (.string T)) (go_keep) (first | (go_at_call 7; refine (HP0.out _).mono ?_; rintro e w2 ⟨rfl, rfl⟩) | (go_at_call 6; refine Calls.mono (HPK.out _ (by exact HT1.out)) ?_; rintro e w2 ⟨rfl, hb2⟩; have t0 := (hb2.cell (p := ⟨b, 0, none⟩) hbl).trans c0; have t1 := (hb2.cell (p := ⟨b, 1, none⟩) hbl).trans c1; have t2 := (hb2.cell (p := ⟨b, 2, none⟩) hbl).trans c2))
  have hb12 : Below w1.heap.size w1 w2 := (Below.refl _ _).drew.trans hb2
  have hspr2 : Spr w2 w.heap.size b d s T lb := HSPR.out.to hb12
  have HSPR2 : Hid (Spr w2 w.heap.size b d s T lb) := hspr2
  have HLS2 : Hid (SpAt w2 (.slice lao ls.length lcap) ls) := (HLS.out.to HB1.out).to hb12
  have HB2 : Hid (Below w.heap.size w w2) := HB1.out.trans (hb12.mono HB1.out.size)
  have t3 := hspr2.obj.cell_some (k := 3) rfl
  obtain ⟨p0, hp0⟩ : ∃ p0, p0 = (pieces d s T)[0]'(by omega) := ⟨_, rfl⟩
  have hp0s : p0.size = L := by rw [hp0]; exact HPZ.out 0 (by omega)
  have t4 : w2.cell? ⟨lb, 0, none⟩ = some (.string p0) := hspr2.list.cell_some (k := 0) (by rw [hp0]; simp [strV])
  clear hp0 hb12 hb2 hspr2 HSPR HLS c0 c1 c2 HB1 HT1
  have ids : (0 : Int) < (d : Int) + (s : Int) := by omega
  go_wp2_with fail
  go_quiet (fail)
  go_wp2_with fail
  have bq : Below w2.heap.size w2 (w2.drewN nq) := below_drewN (Below.refl _ _) nq
  refine Calls.mono (HSPO.out _ b lb (HLS2.out.to bq) (HSPR2.out.to bq)) ?_
  rintro e w3 ⟨q, bad, fs, vb, rfl, hspq, hnd, hbs, hown, hb3⟩
  have B23 : Below w2.heap.size w2 w3 := bq.trans hb3
  obtain ⟨hso, hop, hrd, hhl, hol, hopl, hops⟩ := HMS.out q bad fs hspq hnd hbs
  obtain ⟨ta, tc, rfl⟩ := owns_form hown
  obtain ⟨N, hN⟩ : ∃ N, N = openBad q := ⟨_, rfl⟩
  obtain ⟨PC, hPC⟩ : ∃ PC, PC = openPieces q := ⟨_, rfl⟩
  have hso3 := hso w3 _ (IsC.of_owns hown)
  rw [← hN] at hso3 hop hhl hol
  rw [← hPC] at hop hopl
  have HOZ : Hid (∀ k, (h : k < PC.length) → PC[k].size = L) := by intro k h; subst hPC; exact hops k h
  have HSO : Hid _ := hso3
  have HOP : Hid _ := hop
  have HRD : Hid _ := hrd
  have HHL : Hid _ := hhl
  have HSPR3 : Hid (Spr w3 w.heap.size b d s T lb) := HSPR2.out.to B23
  have HB3 : Hid (Below w.heap.size w w3) := HB2.out.trans (B23.mono HB2.out.size)
  clear hb3 bq B23 hspq hnd hown hso hop hrd hhl hops hso3 hN hPC HSPR2 HB2 HLS2 HMS HSPO t0 t1 t2 t3 t4 hp0s
  go_wp2_with fail
  refine Calls.mono HSO.out ?_
  rintro e w4 ⟨sv, rfl, hown4, hb4⟩
  obtain ⟨sa, sc, rfl⟩ := owns_form hown4
  have HSPR4 : Hid (Spr w4 w.heap.size b d s T lb) := HSPR3.out.to hb4
  have HB4 : Hid (Below w.heap.size w w4) := HB3.out.trans (hb4.mono HB3.out.size)
  have HI4 : Hid (IsC w4 (.slice sa N.length sc) (N.map Int.ofNat)) := IsC.of_owns hown4
  clear hb4 hown4 HSO HSPR3 HB3
  go_wp2_with fail
  refine Calls.mono (HOP.out _) ?_
  rintro e w5 ⟨pb, ov, hpb, rfl, hpblk, hown5, hb5⟩
  obtain ⟨oa, oc, rfl⟩ := owns_form hown5
  have HSPR5 : Hid (Spr w5 w.heap.size b d s T lb) := HSPR4.out.to hb5
  have HB5 : Hid (Below w.heap.size w w5) := HB4.out.trans (hb5.mono HB4.out.size)
  have HI5 : Hid (IsC w5 (.slice sa N.length sc) (N.map Int.ofNat)) := HI4.out.to hb5
  have HO5 : Hid (IsC w5 (.slice oa N.length oc) (N.map Int.ofNat)) := IsC.of_owns hown5
  have HPB5 : Hid (Blk w5 pb 9 (strV PC)) := hpblk
  clear hb5 hown5 hpblk hpb HI4 HSPR4 HB4 HOP
  go_wp2_with fail
  generalize hw6 : w5.alloc _ = w6
  have hhd6 : Blk w6 w5.heap.size 37 [.int .i64 (d : Int), .int .i64 (s : Int), .int .i64 (T.size : Int)] := by rw [← hw6]; exact Blk.new w5 _ _
  have hb56 : Below w5.heap.size w5 w6 := by rw [← hw6]; exact (Below.refl _ _).alloc (Nat.le_refl _) _
  obtain ⟨H, hH⟩ : ∃ H, H = w5.heap.size := ⟨_, rfl⟩
  rw [← hH] at hhd6 ⊢
  have HHD6 : Hid (Blk w6 H 37 [.int .i64 (d : Int), .int .i64 (s : Int), .int .i64 (T.size : Int)]) := hhd6
  have HSPR6 : Hid (Spr w6 w.heap.size b d s T lb) := HSPR5.out.to hb56
  have HB6 : Hid (Below w.heap.size w w6) := HB5.out.trans (hb56.mono HB5.out.size)
  have HI6 : Hid (IsC w6 (.slice sa N.length sc) (N.map Int.ofNat)) := HI5.out.to hb56
  have HO6 : Hid (IsC w6 (.slice oa N.length oc) (N.map Int.ofNat)) := HO5.out.to hb56
  have HPB6 : Hid (Blk w6 pb 9 (strV PC)) := HPB5.out.to hb56
  have HT6 : Hid (Table w6) := table_below HT.out HB6.out hw0
  clear hw6 hhd6 hb56 hH HSPR5 HB5 HI5 HO5 HPB5
  refine (HP1.out _).mono ?_
  rintro e w' ⟨rfl, hw'⟩
  obtain rfl : w6 = w' := hw'.symm
  go_wp2_with fail
  refine Calls.mono (HRD.out _ HT6.out) ?_
  rintro e w7 ⟨rfl, hb7⟩
  have HHD7 : Hid (Blk w7 H 37 [.int .i64 (d : Int), .int .i64 (s : Int), .int .i64 (T.size : Int)]) := HHD6.out.to hb7
  have HSPR7 : Hid (Spr w7 w.heap.size b d s T lb) := HSPR6.out.to hb7
  have HB7 : Hid (Below w.heap.size w w7) := HB6.out.trans (hb7.mono HB6.out.size)
  have HI7 : Hid (IsC w7 (.slice sa N.length sc) (N.map Int.ofNat)) := HI6.out.to hb7
  have HO7 : Hid (IsC w7 (.slice oa N.length oc) (N.map Int.ofNat)) := HO6.out.to hb7
  have HPB7 : Hid (Blk w7 pb 9 (strV PC)) := HPB6.out.to hb7
  have HT7 : Hid (Table w7) := table_below HT.out HB7.out hw0
  clear hb7 HHD6 HSPR6 HB6 HI6 HO6 HPB6 HT6 HRD
  go_wp2_with fail
  refine (HP2.out _).mono ?_
  rintro e w' ⟨rfl, hw'⟩
  obtain rfl : w7 = w' := hw'.symm
  go_wp2_with fail
  refine Calls.mono (HHL.out _ HT7.out) ?_
  rintro e w8 ⟨hv, rfl, hown8, hb8⟩
  obtain ⟨ha, hc, rfl⟩ := owns_form hown8
  have HHD8 : Hid (Blk w8 H 37 [.int .i64 (d : Int), .int .i64 (s : Int), .int .i64 (T.size : Int)]) := HHD7.out.to hb8
  have HSPR8 : Hid (Spr w8 w.heap.size b d s T lb) := HSPR7.out.to hb8
  have HB8 : Hid (Below w.heap.size w w8) := HB7.out.trans (hb8.mono HB7.out.size)
  have HI8 : Hid (IsC w8 (.slice sa N.length sc) (N.map Int.ofNat)) := HI7.out.to hb8
  have HO8 : Hid (IsC w8 (.slice oa N.length oc) (N.map Int.ofNat)) := HO7.out.to hb8
  have HW8 : Hid (IsC w8 (.slice ha N.length hc) (N.map Int.ofNat)) := IsC.of_owns hown8
  have HPB8 : Hid (Blk w8 pb 9 (strV PC)) := HPB7.out.to hb8
  have c0 := HSPR8.out.obj.cell_some (k := 0) rfl
  have c1 := HSPR8.out.obj.cell_some (k := 1) rfl
  have c2 := HSPR8.out.obj.cell_some (k := 2) rfl
  have h0 := HHD8.out.cell_some (k := 0) rfl
  have h1 := HHD8.out.cell_some (k := 1) rfl
  have h2 := HHD8.out.cell_some (k := 2) rfl
  clear hb8 hown8 HHD7 HSPR7 HB7 HI7 HO7 HPB7 HT7 HHL
  go_wp2_with fail
  go_quiet (fail)
  go_wp2_with fail
  clear c0 c1 c2 h0 h1 h2
  go_loopw [26] (fun kv wr => ∃ k m : Nat, k ≤ N.length ∧ kv = .int .i64 k ∧ wr = w8.drewN m) (fun kv _ => N.length - (intOf kv).toNat)
  case atStart => exact ⟨0, nq, Nat.zero_le _, rfl, rfl⟩
  case round =>
    obtain ⟨k, m, hk, rfl, rfl⟩ := hrel
    by_cases hlt : k < N.length
    · obtain ⟨x1, o1, rfl, m1⟩ := isC_read HI8.out hlt
      obtain ⟨x2, o2, rfl, m2⟩ := isC_read HO8.out hlt
      obtain ⟨x3, o3, rfl, m3⟩ := isC_read HW8.out hlt
      obtain ⟨y, hy⟩ : ∃ y, y = N[k] := ⟨_, rfl⟩
      rw [← hy] at m1 m2 m3
      have hki : (k : Int) < (N.length : Int) := by omega
      clear hy
      go_wp2
      go_quiet (fail)
      go_wp2
      go_roundw
      case rel => exact ⟨k + 1, m + nq, by omega, by go_num, rfl⟩
      case measure => simp [intOf]; omega
    · obtain rfl : k = N.length := by omega
      go_wp2
      go_loopw [27] (fun kv wr => ∃ k m : Nat, k ≤ d + s ∧ kv = .int .i64 k ∧ wr = w8.drewN m) (fun kv _ => d + s - (intOf kv).toNat)
      case atStart => exact ⟨0, m, Nat.zero_le _, rfl, rfl⟩
      case round =>
        obtain ⟨k, m, hk, rfl, rfl⟩ := hrel
        by_cases hlt : k < d + s
        · have c3 := HSPR8.out.obj.cell_some (k := 3) rfl
          have hpk : k < PC.length := by omega
          have hpk2 : k < (pieces d s T).length := by omega
          have m1 : w8.cell? ⟨pb, k, none⟩ = some (.string PC[k]) := HPB8.out.cell_some (k := k) (by simp [strV, hpk])
          have m2 : w8.cell? ⟨lb, k, none⟩ = some (.string (pieces d s T)[k]) := HSPR8.out.list.cell_some (k := k) (by simp [strV, hpk2])
          have z1 := HOZ.out k hpk
          have z2 := HPZ.out k hpk2
          generalize PC[k] = y1' at m1 z1
          generalize (pieces d s T)[k] = y2' at m2 z2
          have hki : (k : Int) < (d : Int) + (s : Int) := by omega
          go_wp2
          go_quiet (fail)
          go_wp2
          go_roundw
          case rel => exact ⟨k + 1, m + nq, by omega, by go_num, rfl⟩
          case measure => simp [intOf]; omega
        · obtain rfl : k = d + s := by omega
          have e9 : decide ((d : Int) + (s : Int) < (d : Int) + (s : Int)) = false := decide_eq_false (by omega)
          go_wp2
          go_ret
          exact ⟨rfl, below_drewN HB8.out m⟩
end Go.Proofs.YtokmllopbfmadabDoor.KeepW

/- A list of spoils that comes in, opened. -/
namespace Go.Proofs.YtokmllopbfmadabDoor.CardArgs
open Go.ChangeShapes Go.WideShapes Go.ChangeAt Go.RowKit Mem Ref KeepW

theorem cellsSp : Tryd.prog.cellsOf 58 = 6 := by kernel_rfl
theorem bytesSp : Tryd.prog.bytesOf 58 = 48 := by kernel_rfl
section
set_option maxRecDepth 100000
variable {H : Type} {enc : TypeId × Value → H} {W : World} {base j : Nat} {v : Value} {d : DataW H} {p : List MemPlace} {ts : List TypeId} {ds : List (DataW H)}
theorem spoils_arg (hval : Value.okWide Tryd.prog W .any base 22 v) (h : DataW.Trod enc Tryd.prog W 0 (fun _ => true) true 22 v d p) (hsz : (DataW.weightsEach Tryd.prog ts ds).all (· ≤ reachBytes) = true) (hts : ts[j]? = some 22) (hds : ds[j]? = some d) :
    ∃ ls : List (List Int), SpAt W v ls ∧ (∃ ao c, v = .slice ao ls.length c ∧ ls.length ≤ c ∧ c < 2 ^ 62) ∧ ls.length < 2 ^ 62 ∧ ∀ l, l ∈ ls → ∀ r, -9223372036854775808 ≤ l.getD r 0 ∧ l.getD r 0 ≤ 9223372036854775807 := by
  obtain ⟨fuel, h⟩ := h
  obtain ⟨a0, len0, cap0, rfl⟩ := okWide_slice Tryd.underlying22 hval
  have hcs : (Value.slice a0 len0 cap0).cells.toList = [.slice a0 len0 cap0] := rfl
  rw [hcs] at h
  rcases Deep.open_slice Tryd.underlying22 h with ⟨h1, h2⟩ | ⟨a, len, cap, m, n, D, Pl, h1, h2, h3, h4, h5, h6, h7⟩
  · injection h1 with h1 _
    rw [h1]
    exact ⟨[], ⟨none, 0, rfl, .inl rfl⟩, ⟨none, 0, rfl, by simp, by simp⟩, by simp, fun q hq => by simp at hq⟩
  · injection h1 with h1 _
    rw [h1] at hval ⊢
    obtain ⟨b, off, rfl, hb⟩ := slice_plain Tryd.underlying22 hval
    simp only [Prod.mk.injEq] at h6
    obtain ⟨rfl, _⟩ := h6
    have hm : m = cap := by simpa using h5
    have hbytes := sized_slice hsz hts hds Tryd.underlying22
    rw [bytesSp] at hbytes
    simp only [List.length_map, List.length_range] at hbytes
    have hr : reachBytes = 140737488351232 := by decide
    have each : ∀ i, i < m → ∃ q : List Int, ∀ r, (r < 6 → W.cell? ⟨b, off + i * 6 + r, none⟩ = some (.int .i64 (q.getD r 0))) ∧ -9223372036854775808 ≤ q.getD r 0 ∧ q.getD r 0 ≤ 9223372036854775807 := fun i hi => by
      obtain ⟨cs', e1, e2⟩ := h7 i hi
      rw [cellsSp] at e1
      obtain ⟨_, hlen, hcell⟩ := World.cells?_some e1
      obtain ⟨xs, k, hk, hxy, _, hxl, hf⟩ := DataW.trod_struct Tryd.underlying58 e2
      match xs, hxl, cs', hlen with
      | [y0, y1, y2, y3, y4, y5], _, [v0, v1, v2, v3, v4, v5], _ =>
        have g0 := hf 0 _ rfl
        have g1 := hf 1 _ rfl
        have g2 := hf 2 _ rfl
        have g3 := hf 3 _ rfl
        have g4 := hf 4 _ rfl
        have g5 := hf 5 _ rfl
        simp [cellsInt] at g0 g1 g2 g3 g4 g5
        obtain ⟨z0, u0, _, w0⟩ := DataW.trod_int Tryd.underlying3 g0
        obtain ⟨z1, u1, _, w1⟩ := DataW.trod_int Tryd.underlying3 g1
        obtain ⟨z2, u2, _, w2⟩ := DataW.trod_int Tryd.underlying3 g2
        obtain ⟨z3, u3, _, w3⟩ := DataW.trod_int Tryd.underlying3 g3
        obtain ⟨z4, u4, _, w4⟩ := DataW.trod_int Tryd.underlying3 g4
        obtain ⟨z5, u5, _, w5⟩ := DataW.trod_int Tryd.underlying3 g5
        injection u0 with u0 _
        injection u1 with u1 _
        injection u2 with u2 _
        injection u3 with u3 _
        injection u4 with u4 _
        injection u5 with u5 _
        have hc : ∀ r, r < 6 → W.cell? ⟨b, off + i * 6 + r, none⟩ = [v0, v1, v2, v3, v4, v5][r]? := fun r hr => by
          have := hcell r (by omega)
          rw [Deep.add_add, Addr.add_lit] at this
          rw [Nat.add_assoc]; exact this
        refine ⟨[z0, z1, z2, z3, z4, z5], fun r => ⟨fun hr => ?_, ?_⟩⟩
        · rw [hc r hr, u0, u1, u2, u3, u4, u5]
          match r, hr with
          | 0, _ => rfl
          | 1, _ => rfl
          | 2, _ => rfl
          | 3, _ => rfl
          | 4, _ => rfl
          | 5, _ => rfl
        · match r with
          | 0 => exact wf_i64 w0
          | 1 => exact wf_i64 w1
          | 2 => exact wf_i64 w2
          | 3 => exact wf_i64 w3
          | 4 => exact wf_i64 w4
          | 5 => exact wf_i64 w5
          | r + 6 => simp
    obtain ⟨q, hq⟩ := Deep.choose_lt each
    refine ⟨(List.range len).map q, ⟨_, cap, by simp, .inr ⟨b, off, rfl, hb, fun k hk r hr => ?_⟩⟩, ⟨some ⟨b, off, none⟩, cap, by simp, by simpa using h3, by unfold maxLen at h4; omega⟩, ?_, fun x hx r => ?_⟩
    · have hk' : k < len := by simpa using hk
      have := (hq k (by omega) r).1 hr
      simp only [List.getElem_map, List.getElem_range]
      exact this
    · simp only [List.length_map, List.length_range]; omega
    · obtain ⟨i, hi, rfl⟩ := List.mem_map.1 hx
      have hi' : i < len := List.mem_range.1 hi
      exact (hq i (by omega) r).2
end
end Go.Proofs.YtokmllopbfmadabDoor.CardArgs
