import Derived.Test.YtokmllopbfmadaaDoorGKGone
import Derived.Test.YtokmllopbfmadaaDoorGPJoin
namespace Go.Proofs.YtokmllopbfmadaaDoor.KeepW
open Go.RowKit Mem FieldWalks Tab ByTab Parts Ref Top
open Gf (chosen left_ Fits)
open Plans (infoInt intsV)

theorem shape_all {d s L : Nat} {ss : List ByteArray} {l : List Nat} (hlen : ss.length = d + s) (hsz : ∀ p, (h : p < ss.length) → ss[p].size = L) (hnd : l.Nodup) (hlt : ∀ x, x ∈ l → x < d + s) : ShapeOk d s L ss (l.map Int.ofNat) := by
  have h := spoilt_shape (L := L) (junk := ByteArray.empty) hlen hsz hnd hlt
  exact ⟨hlen, h.nums, fun p hp _ => hsz p hp⟩
theorem all_in (m : List Nat) (k : Nat) (h : ∀ i, i < k → i ∈ m) : k ≤ m.length := by
  have h1 := Gf.filter_mem_le (m.map Int.ofNat) (List.range k) List.nodup_range
  rw [List.filter_eq_self.2 (fun i hi => by
    have := h i (List.mem_range.1 hi)
    simp only [decide_eq_true_eq]
    exact List.mem_map.2 ⟨i, this, rfl⟩)] at h1
  simpa using h1
theorem owns_low {w : World} {base base' n : Nat} {e : TypeId} {v : Value} {xs : List Value} (h : w.ownsRow base e 1 v n xs) (hb : base' ≤ base) : w.ownsRow base' e 1 v n xs := by
  obtain ⟨h1, h2⟩ := h
  refine ⟨h1, ?_⟩
  rcases h2 with h2 | ⟨g, cap, cur, hv, hg, r⟩
  · exact Or.inl h2
  · exact Or.inr ⟨g, cap, cur, hv, Nat.le_trans hb hg, r⟩
/-- The lost numbers while one more is sought. -/
structure More (d s k : Nat) (m : List Nat) : Prop where
  nodup : m.Nodup
  low : ∀ x, x ∈ m → x < d + s
  len : m.length ≤ s + 1
  all : ∀ i, i < k → i ∈ m
theorem More.next {d s k : Nat} {m : List Nat} (h : More d s k m) (hm : m.length ≤ s) (hd : 1 ≤ d) : More d s (k + 1) (if k ∈ m then m else m ++ [k]) ∧ k < d + s := by
  have hk := all_in m k h.all
  refine ⟨?_, by omega⟩
  by_cases e : k ∈ m
  · rw [if_pos e]
    refine ⟨h.nodup, h.low, h.len, fun i hi => ?_⟩
    by_cases e2 : i = k
    · rw [e2]; exact e
    · exact h.all i (by omega)
  · rw [if_neg e]
    refine ⟨?_, fun x hx => ?_, by simp; omega, fun i hi => ?_⟩
    · rw [List.nodup_append]
      refine ⟨h.nodup, by simp, fun a ha x hx e2 => ?_⟩
      rw [List.mem_singleton] at hx
      exact e (by rw [← hx, ← e2]; exact ha)
    · rcases List.mem_append.1 hx with hx | hx
      · exact h.low x hx
      · rw [List.mem_singleton] at hx; omega
    · by_cases e2 : i = k
      · rw [e2]; simp
      · exact List.mem_append_left _ (h.all i (by omega))

set_option maxRecDepth 100000 in
set_option maxHeartbeats 4000000 in
theorem krestored_any (hS : SumsOk) (hY : GatherYes) (hF : GatherFew) (data spare way : Int) (text junk : ByteArray) (lost : List Int) (lv : Value) (w : World) (ht : Table w) (hw0 : 0 < w.heap.size) (hl : IsC w lv lost) (hll : lost.length < 2 ^ 62) (hlb : ∀ x, x ∈ lost → -9223372036854775808 ≤ x ∧ x ≤ 9223372036854775807) (hjs : junk.size < 2 ^ 62)
    (hd1 : -9223372036854775808 ≤ data) (hd2 : data ≤ 9223372036854775807) (hs1 : -9223372036854775808 ≤ spare) (hs2 : spare ≤ 9223372036854775807) (hx1 : -9223372036854775808 ≤ way) (hx2 : way ≤ 9223372036854775807) :
    Calls Tryd.prog 8 #[.int .i64 data, .int .i64 spare, .int .i64 way, .string text, lv, .string junk] w fun e w' => e = .returned (.bool true) ∧ Below w.heap.size w w' := by
  have HS0 := kspread_any hS data spare way text w ht hw0 hd1 hd2 hs1 hs2 hx1 hx2
  have HLV : Hid (IsC w lv lost) := hl
  obtain ⟨d, hd⟩ : ∃ d, d = 1 + pickI data 10 := ⟨_, rfl⟩
  obtain ⟨s, hs⟩ : ∃ s, s = pickI spare 7 := ⟨_, rfl⟩
  obtain ⟨T, hT⟩ : ∃ T, T = shortS text := ⟨_, rfl⟩
  have b1 := pickI_lt data 10 (by omega)
  have b2 := pickI_lt spare 7 (by omega)
  have hTs : T.size ≤ 400 := by rw [hT]; exact shortS_size _
  rw [← hd, ← hs, ← hT] at HS0
  have hd0 : 1 ≤ d := by omega
  have hd10 : d ≤ 10 := by omega
  have hs6 : s ≤ 6 := by omega
  have HSP : Hid (Calls Tryd.prog 31 #[.int .i64 data, .int .i64 spare, .int .i64 way, .string text] w fun e w' => ∃ b lb, e = .returned (.pointer (some ⟨b, 0, none⟩)) ∧ Spr w' w.heap.size b d s T lb ∧ Below w.heap.size w w') := HS0
  have HLB : Hid (∀ x, x ∈ lost → -9223372036854775808 ≤ x ∧ x ≤ 9223372036854775807) := hlb
  obtain ⟨lao, lex, rfl, _⟩ := hl
  clear hd hs hT b1 b2 HS0 hlb
  go_enter Tryd.func8, Tryd.ntmps8
  go_wp2_with fail
  refine Calls.mono HSP.out ?_
  rintro e w1 ⟨b, lb, rfl, hspr, hb1⟩
  have c0 := hspr.obj.cell_some (k := 0) rfl
  have c1 := hspr.obj.cell_some (k := 1) rfl
  have hbl := hspr.obj.lt
  have hlbl := hspr.list.lt
  have HSPR : Hid (Spr w1 w.heap.size b d s T lb) := hspr
  have HSPW : Hid (Spr w1 w.heap.size b d s T lb) := hspr
  have HW01 : Hid (Below w.heap.size w w1) := hb1
  have HB1 : Hid (Below w.heap.size w w1) := hb1
  obtain ⟨l, hl⟩ : ∃ l, l = goneTo lost (d + s) s lost.length := ⟨_, rfl⟩
  have HG : Hid (Calls Tryd.prog 32 #[.slice lao lost.length (lost.length + lex), .int .i64 ((d : Int) + (s : Int)), .int .i64 s] w1.drew fun e w' => ∃ v, e = .returned v ∧ w'.ownsRow w1.heap.size 3 1 v l.length (intsV l) ∧ Below w1.heap.size w1 w') := by
    have := kgone_any lost (d + s) s (.slice lao lost.length (lost.length + lex)) w1.drew (HLV.out.to hb1.drew) hll HLB.out (by omega) (by omega) (by omega)
    rw [← hl, show ((d + s : Nat) : Int) = (d : Int) + (s : Int) by omega] at this
    refine Calls.mono this ?_
    rintro e w' ⟨v, he, h1, h2⟩
    exact ⟨v, he, h1, (Below.refl _ _).drew.trans h2⟩
  have HLL : Hid (l.Nodup ∧ (∀ x, x ∈ l → x < d + s) ∧ l.length ≤ s) := by
    rw [hl]; exact ⟨goneTo_nodup _ _ _ _, goneTo_lt _ _ _ _ (by omega), goneTo_le _ _ _ _⟩
  have y5 : IntKind.i64.wrap ((d : Int) + (s : Int)) = (d : Int) + (s : Int) := by rw [IntKind.wrap_i64]; omega
  clear hspr hb1 hl hll HSP
  go_wp2_with fail
  go_region_held3 (fun wx => wx.cell? ⟨b, 0, none⟩ = some (.int .i64 (d : Int)) ∧ wx.cell? ⟨b, 1, none⟩ = some (.int .i64 (s : Int))) (go_keep) (first | (go_at_call 32; refine Calls.mono HG.out ?_; rintro e w2 ⟨lv2, rfl, hlown, hb2⟩; have t0 := (hb2.cell (p := ⟨b, 0, none⟩) hbl).trans c0; have t1 := (hb2.cell (p := ⟨b, 1, none⟩) hbl).trans c1))
  have HSP2 : Hid (Spr w2 w.heap.size b d s T lb) := HSPR.out.to hb2
  have HB12 : Hid (Below w1.heap.size w1 w2) := hb2
  have HB2 : Hid (Below w.heap.size w w2) := HB1.out.trans (hb2.mono HB1.out.size)
  obtain ⟨la, lc, rfl⟩ := Plans.owns_form hlown
  have HLO : Hid (w2.ownsRow w1.heap.size 3 1 (.slice la l.length lc) l.length (intsV l)) := hlown
  have HSZ12 : Hid (w1.heap.size ≤ w2.heap.size ∧ w.heap.size ≤ w1.heap.size) := ⟨hb2.size, HB1.out.size⟩
  have g2 := HSP2.out.obj.cell_some (k := 2) rfl
  have g3 := HSP2.out.obj.cell_some (k := 3) rfl
  have hbl2 : b < w2.heap.size := HSP2.out.obj.lt
  obtain ⟨pcs, hpcs⟩ : ∃ pcs, pcs = pieces d s T := ⟨_, rfl⟩
  have hpl : pcs.length = d + s := by rw [hpcs]; exact pieces_length d s T
  have hlist2 : Blk w2 lb 9 (strV pcs) := by rw [hpcs]; exact HSP2.out.list
  have HPC : Hid (pcs = pieces d s T) := hpcs
  have HPL : Hid (pcs.length = d + s) := hpl
  have HLI2 : Hid (Blk w2 lb 9 (strV pcs)) := hlist2
  have HCE : Hid (∀ j u, (strV pcs)[j]? = some u → w2.cell? ((⟨lb, 0, none⟩ : Addr).add j) = some u) := fun j u hu => by rw [Addr.add_lit, Nat.zero_add]; exact hlist2.cell_some hu
  have HON : Hid (∀ u ∈ strV pcs, u.oneCell' = true) := fun u hu => by simp [strV] at hu; obtain ⟨q, _, rfl⟩ := hu; rfl
  have HLE : Hid ((strV pcs).length = (d + s) * 1) := by show _ = _; simp [strV, hpl]
  obtain ⟨i0, hi0, hz0, hz1, hz2⟩ := info_parts infoStr
  have HI0 : Hid (Tryd.prog.info? 9 = some i0 ∧ i0.zero = some (.string ByteArray.empty) ∧ i0.size = 1 ∧ i0.bytes = 16) := ⟨hi0, hz0, hz1, hz2⟩
  clear hlown hb2 hpcs hpl hlist2 hi0 hz0 hz1 hz2 c0 c1 HG HSPR HB1 hbl hlbl
  obtain ⟨svs, hsvs⟩ : ∃ svs, svs = strV pcs := ⟨_, rfl⟩
  rw [← hsvs] at HCE HON HLE
  have HSV : Hid (svs = strV pcs) := hsvs
  clear hsvs
  go_wp2_with ((refine wpList_append_own _ rfl _ _ 38 rfl w2.heap.size 9 i0 (.string ByteArray.empty) 1 16 Tryd.underlying38 HI0.out.1 HI0.out.2.1 HI0.out.2.2.1 HI0.out.2.2.2 rfl (by decide) (.slice none 0 0) 0 [] rfl (World.ownsRow_nil _ _ _ _) ⟨lb, 0, none⟩ (d + s) (d + s) svs rfl HLE.out HCE.out HON.out (by unfold maxLen; omega) (by omega) (Nat.le_refl _) ?_); intro v' w3 hown3 hg3 _)
  have hb3 : Below w2.heap.size w2 w3 := ⟨hg3.os, hg3.tape, hg3.output, hg3.size, fun k hk => hg3.block k hk (by simp [Value.ownBlock])⟩
  rw [Nat.zero_add, List.nil_append, HSV.out] at hown3
  obtain ⟨g, cap, hve⟩ : ∃ g c, v' = .slice (some ⟨g, 0, none⟩) (d + s) c := by
    rcases hown3.2 with ⟨h0, h1⟩ | ⟨g, cap, cur, h0, _⟩
    · omega
    · exact ⟨_, _, h0⟩
  subst hve
  have HO3 : Hid (w3.ownsRow w2.heap.size 9 1 (.slice (some ⟨g, 0, none⟩) (d + s) cap) (d + s) (strV (spoilTo pcs l junk 0))) := hown3
  have HB3 : Hid (Below w2.heap.size w2 w3) := hb3
  have HLC : Hid (∀ i, (h : i < l.length) → ∃ gb, la = some ⟨gb, 0, none⟩ ∧ gb < w2.heap.size ∧ w2.cell? ⟨gb, i, none⟩ = some (.int .i64 (l[i] : Nat))) := by
    intro i h
    rcases HLO.out.2 with ⟨h0, h1⟩ | ⟨gb, c', cur, h0, _, hh, _, _, _, hta⟩
    · omega
    · injection h0 with h0 _ _
      refine ⟨gb, h0, lt_of_block hh, ?_⟩
      rw [cell_of_row w2 gb i cur 3 (0, 0) hh]
      rw [Nat.mul_one] at hta
      have : (cur.toList.take l.length)[i]? = some (.int .i64 (l[i] : Nat)) := by rw [hta]; simp [intsV, h]
      rw [List.getElem?_take_of_lt h] at this
      simpa using this
  clear hown3 hb3 hg3 HCE HON HLE HI0 HSV
  have hl6 : l.length ≤ 6 := Nat.le_trans HLL.out.2.2 hs6
  go_loopw [16] (fun iv wr => ∃ i : Nat, i ≤ l.length ∧ iv = .int .i64 i ∧ wr.ownsRow w2.heap.size 9 1 (.slice (some ⟨g, 0, none⟩) (d + s) cap) (d + s) (strV (spoilTo pcs l junk i)) ∧ Below w2.heap.size w2 wr) (fun iv _ => l.length - (intOf iv).toNat)
  case atStart => exact ⟨0, Nat.zero_le _, rfl, HO3.out, HB3.out⟩
  case round =>
    clear HO3 HB3
    obtain ⟨i, hi, rfl, hown, hbel⟩ := hrel
    by_cases hil : i < l.length
    · obtain ⟨gb, rfl, hgbl, hgc⟩ := HLC.out i hil
      rw [← hbel.cell (p := ⟨gb, i, none⟩) hgbl] at hgc
      have hyl := HLL.out.2.1 _ (List.getElem_mem hil)
      obtain ⟨y, hy⟩ : ∃ y, y = l[i] := ⟨_, rfl⟩
      rw [← hy] at hgc hyl
      obtain ⟨hown', ⟨o, ho⟩, hfr, hgb⟩ := owns_set hown y hyl (.string junk)
      have HO' : Hid ((wr.setCell ⟨g, y, none⟩ (.string junk)).ownsRow w2.heap.size 9 1 (.slice (some ⟨g, 0, none⟩) (d + s) cap) (d + s) (strV (spoilTo pcs l junk (i + 1)))) := by
        have e : strV (spoilTo pcs l junk (i + 1)) = (strV (spoilTo pcs l junk i)).set y (.string junk) := by
          rw [spoilTo, show l.getD i 0 = y by rw [hy]; simp [hil]]
          simp [strV, List.map_set]
        show (wr.setCell _ _).ownsRow _ _ _ _ _ _
        rw [e]; exact hown'
      have j1 : (y : Int) < (d : Int) + (s : Int) := by omega
      clear hown hown' hy
      go_wp2
      go_roundw
      case rel => exact ⟨i + 1, by omega, by go_num, HO'.out, hbel.setCell hgb _⟩
      case measure => simp [intOf]; omega
    · obtain rfl : i = l.length := by omega
      obtain ⟨w4, rfl⟩ : ∃ w4, w4 = wr := ⟨_, rfl⟩
      obtain ⟨L, hL⟩ : ∃ L, L = (T.size + d - 1) / d := ⟨_, rfl⟩
      have ht4 : Table w4 := table_below ht (HB2.out.trans (hbel.mono HB2.out.size)) hw0
      have hTL : T.size ≤ d * L := by rw [hL]; exact ceil_mul T.size d (by omega)
      have hpz : ∀ p, (h : p < pcs.length) → pcs[p].size = L := fun p h => by
        have := pieces_sizes d s T p (by rw [← HPC.out]; exact h)
        simp only [HPC.out]; rw [this, hL]
      have hLs : L ≤ 400 := by have := ceil_le T.size d hd0; omega
      have hsh : ShapeOk d s L (spoilTo pcs l junk l.length) (l.map Int.ofNat) := spoilt_shape HPL.out hpz HLL.out.1 HLL.out.2.1
      have hsm : ∀ p, (h : p < (spoilTo pcs l junk l.length).length) → (spoilTo pcs l junk l.length)[p].size < 2 ^ 62 := spoilTo_small pcs l junk _ hjs (fun p h => by rw [hpz p h]; omega) _
      have hsa : StrsAt w4 (.slice (some ⟨g, 0, none⟩) (d + s) cap) (spoilTo pcs l junk l.length) := StrsAt.of_owns (base := w2.heap.size) (t := 9) (n := d + s) hown
      have hla : IsC w4 (.slice la l.length lc) (l.map Int.ofNat) := (IsC.of_owns HLO.out).to hbel
      obtain ⟨c', hc'⟩ : ∃ c', c' = IntKind.i64.wrap (way + 1) := ⟨_, rfl⟩
      have hcb : -9223372036854775808 ≤ c' ∧ c' ≤ 9223372036854775807 := by rw [hc', IntKind.wrap_i64]; omega
      obtain ⟨x1, hx1e⟩ : ∃ x1, x1 = pickI c' 3 := ⟨_, rfl⟩
      have hx1b : x1 ≤ 2 := by rw [hx1e]; have := pickI_lt c' 3 (by omega); omega
      have HP1 : Hid (∀ W, Calls Tryd.prog 19 #[.int .i64 (IntKind.i64.wrap (way + 1)), .int .i64 3] W fun e w' => e = .returned (.int .i64 (x1 : Nat)) ∧ w' = W) := by
        intro W; rw [← hc', hx1e]; exact kpick_any c' 3 W (by omega) (by omega) hcb.1 hcb.2
      have HGA : Hid (Calls Tryd.prog 27 #[.int .i64 d, .int .i64 s, .int .i64 x1, .int .i64 (T.size : Nat), .slice (some ⟨g, 0, none⟩) (d + s) cap, .slice la l.length lc] w4.drew fun e w' => ∃ v, e = .returned (.tuple #[.string T, v, .int .i64 0]) ∧ StrsAt w' v pcs ∧ Below w4.heap.size w4 w') := by
        have hlen : (l.map Int.ofNat).length ≤ s := by simpa using HLL.out.2.2
        refine Calls.mono (hY d s x1 T.size L _ _ _ _ w4.drew ht4 (hsa.to (Below.refl _ _).drew) (hla.to (Below.refl _ _).drew) hd0 hd10 hs6 hx1b hTs hL hsm hsh hlen) ?_
        rintro e w5 ⟨v, ps, rfl, hfit, hst, hb5⟩
        have hfit2 := pieces_fit d s T (l.map Int.ofNat) (spoilTo pcs l junk l.length) (by omega) (fun p hp hno => by
          rw [← HPC.out]
          exact spoilTo_other pcs l junk p (fun hm => hno (List.mem_map.2 ⟨p, hm, rfl⟩)) l.length (Nat.le_refl _))
        rw [← hL] at hfit2
        have e1 : ps = cuts (nums T) d L := Gf.Fits.sole (by omega) (Gf.enough d s _ hlen) hfit hfit2
        refine ⟨v, ?_, ?_, (Below.refl _ _).drew.trans hb5⟩
        · rw [e1, flatten_take (nums T) d L T.size (nums_length T) hTL, mkS_nums]
        · have : texts ps (sums (facs d s) ps L) = pcs := by rw [e1, HPC.out, hL]; rfl
          rw [this] at hst; exact hst
      have HB14 : Hid (Below w1.heap.size w1 w4) := HB12.out.trans (hbel.mono HB12.out.size)
      have k0 := (hbel.cell (p := ⟨b, 0, none⟩) hbl2).trans t0
      have k1 := (hbel.cell (p := ⟨b, 1, none⟩) hbl2).trans t1
      have k2 := (hbel.cell (p := ⟨b, 2, none⟩) hbl2).trans g2
      have k3 := (hbel.cell (p := ⟨b, 3, none⟩) hbl2).trans g3
      have hbl4 : b < w4.heap.size := Nat.lt_of_lt_of_le hbl2 hbel.size
      have HB4 : Hid (Below w.heap.size w w4) := HB2.out.trans (hbel.mono HB2.out.size)
      have HLI4 : Hid (Blk w4 lb 9 (strV pcs)) := HLI2.out.to hbel
      have HLO4 : Hid (w4.ownsRow w1.heap.size 3 1 (.slice la l.length lc) l.length (intsV l)) := ownsRow_to HLO.out hbel
      have HPZ : Hid (∀ p, (h : p < pcs.length) → pcs[p].size = L) := hpz
      have HLE : Hid (L = (T.size + d - 1) / d) := hL
      have HSZ4 : Hid (w1.heap.size ≤ w4.heap.size) := Nat.le_trans HSZ12.out.1 hbel.size
      have HT4 : Hid (Table w4) := ht4
      clear hown hbel hsh hsm hsa hla hc' hcb hx1e hpz hL HLO HLI2 HLC HSP2 HB2 t0 t1 g2 g3 hbl2
      go_wp2_with fail
      go_region_held3 (fun wx => wx.cell? ⟨b, 0, none⟩ = some (.int .i64 (d : Int)) ∧ wx.cell? ⟨b, 1, none⟩ = some (.int .i64 (s : Int)) ∧ wx.cell? ⟨b, 2, none⟩ = some (.string T)) (go_keep) (first | (go_at_call 19; refine (HP1.out _).mono ?_; rintro e w5 ⟨rfl, rfl⟩) | (go_at_call 27; refine Calls.mono HGA.out ?_; rintro e w5 ⟨v5, rfl, hst5, hb5⟩; have u0 := (hb5.cell (p := ⟨b, 0, none⟩) hbl4).trans k0; have u1 := (hb5.cell (p := ⟨b, 1, none⟩) hbl4).trans k1; have u2 := (hb5.cell (p := ⟨b, 2, none⟩) hbl4).trans k2; have u3 := (hb5.cell (p := ⟨b, 3, none⟩) hbl4).trans k3))
      have HB15 : Hid (Below w1.heap.size w1 w5) := HB14.out.trans (hb5.mono HSZ4.out)
      have hlist5 : StrsAt w5 (.slice (some ⟨lb, 0, none⟩) (d + s) (d + s)) pcs := StrsAt.of_blk (HLI4.out.to hb5) _ _ HPL.out.symm
      have HSA : Hid (Calls Tryd.prog 33 #[v5, .slice (some ⟨lb, 0, none⟩) (d + s) (d + s)] w5 fun e w' => e = .returned (.bool true) ∧ ∃ n, w' = w5.drewN n) := ksame_yes pcs _ _ w5 hst5 hlist5 (by have := HPL.out; omega)
      have HLO5 : Hid (w5.ownsRow w1.heap.size 3 1 (.slice la l.length lc) l.length (intsV l)) := ownsRow_to HLO4.out hb5
      obtain ⟨va5, vc5, rfl⟩ : ∃ ao c, v5 = .slice ao pcs.length c := by obtain ⟨ao, c, h, _⟩ := hst5; exact ⟨ao, c, h⟩
      clear hst5 hb5 hlist5 HLI4 HLO4 k0 k1 k2 k3 HGA HP1
      go_wp2_with fail
      refine Calls.mono HSA.out ?_
      rintro e w6 ⟨rfl, n6, rfl⟩
      have D6 : Drew w5 (w5.drewN n6) := ⟨n6, rfl⟩
      revert D6
      generalize w5.drewN n6 = w6
      intro D6
      have p2 := (D6.cell _).trans u2
      have HB16 : Hid (Below w1.heap.size w1 w6) := HB15.out.trans (D6.below.mono HB15.out.size)
      have HLO6 : Hid (w6.ownsRow w1.heap.size 3 1 (.slice la l.length lc) l.length (intsV l)) := ownsRow_to HLO5.out D6.below
      clear D6 u0 u1 u2 u3 HSA HLO5 HB15 HB14
      go_wp2
      go_loopw [14, 21] (fun lv kv wr => ∃ (k : Nat) (m : List Nat), k ≤ s + 1 ∧ kv = .int .i64 k ∧ wr.ownsRow w1.heap.size 3 1 lv m.length (intsV m) ∧ More d s k m ∧ Below w1.heap.size w1 wr) (fun _ kv _ => s + 2 - (intOf kv).toNat)
      case atStart => exact ⟨0, l, Nat.zero_le _, rfl, HLO6.out, ⟨HLL.out.1, HLL.out.2.1, by have := HLL.out.2.2; omega, fun i hi => by omega⟩, HB16.out⟩
      case round =>
        clear HLO6 HB16 p2
        obtain ⟨k, m, hk, rfl, hown, hmore, hbel⟩ := hrel
        obtain ⟨ma, mc, rfl⟩ := Plans.owns_form hown
        have hbl1 : b < w1.heap.size := HSPW.out.obj.lt
        have q0 := (hbel.cell (p := ⟨b, 0, none⟩) hbl1).trans (HSPW.out.obj.cell_some (k := 0) rfl)
        have q1 := (hbel.cell (p := ⟨b, 1, none⟩) hbl1).trans (HSPW.out.obj.cell_some (k := 1) rfl)
        have hml := hmore.len
        have hszr := hbel.size
        by_cases hms : m.length ≤ s
        · have e1 : decide ((m.length : Int) ≤ (s : Int)) = true := decide_eq_true (by omega)
          obtain ⟨hmore', hkd⟩ := hmore.next hms hd0
          have hks : k ≤ s := by have := all_in m k hmore.all; omega
          obtain ⟨m', hm'⟩ : ∃ m', m' = if k ∈ m then m else m ++ [k] := ⟨_, rfl⟩
          rw [← hm'] at hmore'
          have HMO : Hid (More d s (k + 1) m') := hmore'
          have HGN : Hid (∀ (W : World) (v' : Value), W.ownsRow w1.heap.size 3 1 v' (m.length + 1) (intsV m ++ [.int .i64 (k : Int)]) → w1.heap.size ≤ W.heap.size → Calls Tryd.prog 32 #[v', .int .i64 ((d : Int) + (s : Int)), .int .i64 ((s : Int) + 1)] W fun e w' => ∃ v2, e = .returned v2 ∧ w'.ownsRow w1.heap.size 3 1 v2 m'.length (intsV m') ∧ Below W.heap.size W w') := by
            intro W v' ho hW
            have e2 : intsV m ++ [.int .i64 (k : Int)] = intsV (m ++ [k]) := by simp [intsV]
            have ho2 : W.ownsRow w1.heap.size 3 1 v' (m ++ [k]).length (intsV (m ++ [k])) := by rw [← e2]; simpa using ho
            have hmap : (m ++ [k]).map Int.ofNat = m.map Int.ofNat ++ [(k : Int)] := by simp
            have hic : IsC W v' (m.map Int.ofNat ++ [(k : Int)]) := by rw [← hmap]; exact IsC.of_owns ho2
            have hlen : (m.map Int.ofNat ++ [(k : Int)]).length = m.length + 1 := by simp
            have hg := kgone_any (m.map Int.ofNat ++ [(k : Int)]) (d + s) (s + 1) v' W hic (by rw [hlen]; omega) (fun x hx => by
              rcases List.mem_append.1 hx with hx | hx
              · obtain ⟨q, hq, rfl⟩ := List.mem_map.1 hx
                have := hmore.low q hq
                constructor
                · show (-9223372036854775808 : Int) ≤ (q : Int); omega
                · show (q : Int) ≤ 9223372036854775807; omega
              · rw [List.mem_singleton] at hx; omega) (by omega) (by omega) (by omega)
            rw [hlen, goneTo_again m k (d + s) (s + 1) hmore.nodup hmore.low hkd (by omega), ← hm', show ((d + s : Nat) : Int) = (d : Int) + (s : Int) by omega, show ((s + 1 : Nat) : Int) = (s : Int) + 1 by omega] at hg
            refine Calls.mono hg ?_
            rintro e w' ⟨v2, he, h1, h2⟩
            exact ⟨v2, he, owns_low h1 hW, h2⟩
          have HBE : Hid (Below w1.heap.size w1 wr) := hbel
          have y6 : IntKind.i64.wrap ((s : Int) + 1) = (s : Int) + 1 := by rw [IntKind.wrap_i64]; omega
          have hbr : b < wr.heap.size := by omega
          have hbn : b ≠ wr.heap.size := by omega
          have hk7 : k ≤ 7 := by omega
          clear hm' hmore hmore' hbel
          go_wp2_with fail
          go_region_held3 (fun wx => wx.cell? ⟨b, 0, none⟩ = some (.int .i64 (d : Int)) ∧ wx.cell? ⟨b, 1, none⟩ = some (.int .i64 (s : Int))) (go_keep) (first | (refine step_append_one rfl _ _ 45 rfl w1.heap.size 3 (.int .i64 0) 8 Tryd.underlying45 infoInt rfl (by decide) (.slice ma m.length mc) m.length (intsV m) (by simp [Act.eval]) (by exact (hown.alloc _).drew) ⟨wr.heap.size, 0, none⟩ 1 (.int .i64 (k : Int)) (by simp [Act.eval]) (by exact (Blk.new wr _ _).cell_some rfl) rfl (by omega) (by simp; omega) ?_; intro v9 w9 hown9 hbel9; have hb9 := hbel9 w1.heap.size wr ((Below.refl _ _).alloc hszr _).drew (Nat.le_refl _); have z0 := (hb9.cell (p := ⟨b, 0, none⟩) hbl1).trans q0; have z1 := (hb9.cell (p := ⟨b, 1, none⟩) hbl1).trans q1; have hsz9 : w1.heap.size ≤ w9.heap.size := Nat.le_trans hszr hb9.size) | (go_at_call 32; refine Calls.mono (HGN.out _ _ hown9 hsz9) ?_; rintro e w10 ⟨v10, rfl, hown10, hb10⟩; have z2 := (hb10.cell (p := ⟨b, 0, none⟩) (Nat.lt_of_lt_of_le hbl1 hsz9)).trans z0; have z3 := (hb10.cell (p := ⟨b, 1, none⟩) (Nat.lt_of_lt_of_le hbl1 hsz9)).trans z1))
          all_goals
            have HB10 : Hid (Below w1.heap.size w1 w10) := HBE.out.trans (hb9.trans (hb10.mono hsz9))
            have HO10 : Hid (w10.ownsRow w1.heap.size 3 1 v10 m'.length (intsV m')) := hown10
            clear hbel9 hown9 hb9 hb10 hown10
            go_wp2
            go_roundw
            case rel => exact ⟨k + 1, m', by omega, by go_num, HO10.out, HMO.out, HB10.out⟩
            case measure => simp [intOf]; omega
        · have e1 : decide ((m.length : Int) ≤ (s : Int)) = false := decide_eq_false (by omega)
          obtain ⟨x2, hx2e⟩ : ∃ x2, x2 = pickI way 3 := ⟨_, rfl⟩
          have hx2b : x2 ≤ 2 := by rw [hx2e]; have := pickI_lt way 3 (by omega); omega
          have HP2 : Hid (∀ W, Calls Tryd.prog 19 #[.int .i64 way, .int .i64 3] W fun e w' => e = .returned (.int .i64 (x2 : Nat)) ∧ w' = W) := by
            intro W; rw [hx2e]; exact kpick_any way 3 W (by omega) (by omega) hx1 hx2
          have htr : Table wr := table_below ht (HW01.out.trans (hbel.mono HW01.out.size)) hw0
          have hli : StrsAt wr (.slice (some ⟨lb, 0, none⟩) (d + s) (d + s)) pcs := by
            refine StrsAt.of_blk ?_ _ _ HPL.out.symm
            rw [HPC.out]; exact HSPW.out.list.to hbel
          have hic : IsC wr (.slice ma m.length mc) (m.map Int.ofNat) := IsC.of_owns hown
          have HGF : Hid (Calls Tryd.prog 27 #[.int .i64 d, .int .i64 s, .int .i64 x2, .int .i64 (T.size : Nat), .slice (some ⟨lb, 0, none⟩) (d + s) (d + s), .slice ma m.length mc] wr.drew fun e w' => e = .returned (.tuple #[.string ⟨#[]⟩, .slice none 0 0, .int .i64 7]) ∧ Below wr.heap.size wr w') := by
            refine Calls.mono (hF d s x2 T.size L pcs (m.map Int.ofNat) _ _ wr.drew htr (hli.to (Below.refl _ _).drew) (hic.to (Below.refl _ _).drew) hd0 hd10 hs6 hx2b hTs HLE.out (fun p h => by rw [HPZ.out p h]; omega) (shape_all HPL.out HPZ.out hmore.nodup hmore.low) (by simp; omega) (by simp; omega)) ?_
            rintro e w5 ⟨rfl, h5⟩
            exact ⟨rfl, (Below.refl _ _).drew.trans h5⟩
          have q2 := (hbel.cell (p := ⟨b, 2, none⟩) hbl1).trans (HSPW.out.obj.cell_some (k := 2) rfl)
          have q3 := (hbel.cell (p := ⟨b, 3, none⟩) hbl1).trans (HSPW.out.obj.cell_some (k := 3) rfl)
          have HBE : Hid (Below w.heap.size w wr) := HW01.out.trans (hbel.mono HW01.out.size)
          have hbr : b < wr.heap.size := by omega
          clear hx2e hx2b htr hli hic hmore hown hbel
          go_wp2_with fail
          go_region_held3 (fun wx => wx.cell? ⟨b, 0, none⟩ = some (.int .i64 (d : Int)) ∧ wx.cell? ⟨b, 1, none⟩ = some (.int .i64 (s : Int)) ∧ wx.cell? ⟨b, 2, none⟩ = some (.string T) ∧ wx.cell? ⟨b, 3, none⟩ = some (.slice (some ⟨lb, 0, none⟩) (d + s) (d + s))) (go_keep) (first | (go_at_call 19; refine (HP2.out _).mono ?_; rintro e w9 ⟨rfl, rfl⟩) | (go_at_call 27; refine Calls.mono HGF.out ?_; rintro e w9 ⟨rfl, hb9⟩; have z0 := (hb9.cell (p := ⟨b, 0, none⟩) hbr).trans q0; have z1 := (hb9.cell (p := ⟨b, 1, none⟩) hbr).trans q1; have z2 := (hb9.cell (p := ⟨b, 2, none⟩) hbr).trans q2; have z3 := (hb9.cell (p := ⟨b, 3, none⟩) hbr).trans q3))
          all_goals
            have HB9 : Hid (Below w.heap.size w w9) := HBE.out.trans (hb9.mono HBE.out.size)
            clear hb9
            go_wp2
            go_ret
            exact ⟨rfl, HB9.out⟩
end Go.Proofs.YtokmllopbfmadaaDoor.KeepW

/- What is told of any pack that has a right head and length, and of a spoilt pack of a text, in lists alone. Nothing of the program. -/
namespace Go.Proofs.YtokmllopbfmadaaDoor.Ref
open Go.RowKit Mem FieldWalks Tab ByTab Parts Top
open Gf (Bytes Fits chosen left_)

def chunks (l : List Nat) (m : Nat) : Nat → List (List Nat)
  | 0 => []
  | k + 1 => l.take m :: chunks (l.drop m) m k
theorem chunks_length (m : Nat) : ∀ k (l : List Nat), (chunks l m k).length = k
  | 0, _ => rfl
  | k + 1, l => by rw [chunks, List.length_cons, chunks_length m k]
theorem chunks_each (m : Nat) : ∀ k (l : List Nat), l.length = k * m → ∀ f ∈ chunks l m k, f.length = m
  | 0, _, _, f, hf => by simp [chunks] at hf
  | k + 1, l, hl, f, hf => by
    rw [Nat.add_mul, Nat.one_mul] at hl
    rcases List.mem_cons.1 hf with rfl | hf
    · rw [List.length_take]; omega
    · exact chunks_each m k (l.drop m) (by rw [List.length_drop]; omega) f hf
theorem chunks_flat (m : Nat) : ∀ k (l : List Nat), l.length = k * m → (chunks l m k).flatten = l
  | 0, l, hl => by
    have : l = [] := List.eq_nil_of_length_eq_zero (by omega)
    simp [chunks, this]
  | k + 1, l, hl => by
    rw [Nat.add_mul, Nat.one_mul] at hl
    rw [chunks, List.flatten_cons, chunks_flat m k (l.drop m) (by rw [List.length_drop]; omega), List.take_append_drop]
theorem first6 (l : List Nat) (h : 6 ≤ l.length) : l.take 6 = [l.getD 0 0, l.getD 1 0, l.getD 2 0, l.getD 3 0, l.getD 4 0, l.getD 5 0] := by
  match l, h with
  | a :: b :: c :: d :: e :: f :: r, _ => rfl
/-- Whatever has a right head and length is a pack of frames. -/
theorem isPack_of {p : ByteArray} (h : headOk p) (c : cutOk p) : ∃ fs, IsPack p (pD p) (pS p) (pN p) (pL p) fs := by
  obtain ⟨h10, h0, h1, ⟨d1, d2, s2⟩, n2, hc⟩ := h
  have hlen : (nums p).length = p.size := nums_length p
  have hz : ((nums p).drop 10).length = (pD p + pS p) * (pL p + 5) := by
    rw [List.length_drop, hlen]; unfold cutOk at c; omega
  have e6 : nums (p.extract 0 6) = headL (pD p) (pS p) (pN p) := by
    have l4 : byteAt p 4 < 256 := (nums_bytes p).getD 4
    have l5 : byteAt p 5 < 256 := (nums_bytes p).getD 5
    rw [numsX, List.drop_zero, first6 _ (by omega)]
    unfold headL pN
    rw [show (256 * byteAt p 4 + byteAt p 5) / 256 = byteAt p 4 by omega, show (256 * byteAt p 4 + byteAt p 5) % 256 = byteAt p 5 by omega]
    show [byteAt p 0, byteAt p 1, pD p, pS p, byteAt p 4, byteAt p 5] = _
    rw [h0, h1]
  refine ⟨chunks ((nums p).drop 10) (pL p + 5) (pD p + pS p), d1, d2, s2, n2, rfl, chunks_length _ _ _, chunks_each _ _ _ hz, ?_⟩
  rw [chunks_flat _ _ _ hz]
  have e10 : nums (p.extract 6 10) = Crc.check (headL (pD p) (pS p) (pN p)) := by rw [hc, numsC, e6]
  rw [← e10, ← e6, numsX, numsX, List.drop_zero]
  have a1 := List.take_append_drop 6 (nums p)
  have a2 := List.take_append_drop 4 ((nums p).drop 6)
  rw [List.drop_drop] at a2
  rw [List.append_assoc]
  show nums p = (nums p).take 6 ++ (((nums p).drop 6).take 4 ++ (nums p).drop (6 + 4))
  rw [a2, a1]
theorem IsPack.pieces_length {p : ByteArray} {d s n L : Nat} {fs : List (List Nat)} (h : IsPack p d s n L fs) : (openPieces p).length = d + s := by
  simp [openPieces, piecesTo, h.hD, h.hS]
theorem IsPack.pieces_size {p : ByteArray} {d s n L : Nat} {fs : List (List Nat)} (h : IsPack p d s n L fs) (k : Nat) (hk : k < (openPieces p).length) : (openPieces p)[k].size = L := by
  have := h.pieces_length
  simp only [openPieces, piecesTo, List.getElem_map, List.getElem_range]
  exact h.pieceSize k (by rw [h.len]; omega)
theorem openBad_nodup (p : ByteArray) : (openBad p).Nodup := List.Nodup.sublist List.filter_sublist List.nodup_range
theorem IsPack.bad_lt {p : ByteArray} {d s n L : Nat} {fs : List (List Nat)} (h : IsPack p d s n L fs) (x : Nat) (hx : x ∈ openBad p) : x < d + s := by
  simp only [openBad, badTo, List.mem_filter, List.mem_range, h.hD, h.hS] at hx
  exact hx.1
theorem IsPack.bad_length {p : ByteArray} {d s n L : Nat} {fs : List (List Nat)} (h : IsPack p d s n L fs) : (openBad p).length ≤ d + s := by
  unfold openBad badTo
  rw [h.hD, h.hS]
  have := List.length_filter_le (badAt p) (List.range (d + s))
  rwa [List.length_range] at this
/-- The pieces as they stand, and those that are bad, go together. -/
theorem IsPack.shape {p : ByteArray} {d s n L : Nat} {fs : List (List Nat)} (h : IsPack p d s n L fs) : ShapeOk d s L (openPieces p) ((openBad p).map Int.ofNat) :=
  KeepW.shape_all h.pieces_length h.pieces_size (openBad_nodup p) h.bad_lt
theorem nodup_le : ∀ (l m : List Nat), l.Nodup → l ⊆ m → l.length ≤ m.length
  | [], _, _, _ => Nat.zero_le _
  | a :: l, m, hn, hs => by
    have ha : a ∈ m := hs (by simp)
    have h1 := nodup_le l (m.erase a) (List.nodup_cons.1 hn).2 fun x hx => by
      have hne : x ≠ a := fun e => (List.nodup_cons.1 hn).1 (e ▸ hx)
      exact (List.mem_erase_of_ne hne).2 (hs (by simp [hx]))
    rw [List.length_erase_of_mem ha] at h1
    have := List.length_pos_of_mem ha
    rw [List.length_cons]; omega
/-- What is bad of a spoilt pack. -/
theorem Spoilt.bad_length {q : ByteArray} {d s n L : Nat} {ps : List ByteArray} {bad : List Nat} {fs : List (List Nat)} (h : Spoilt q d s n L ps bad fs) : (openBad q).length ≤ bad.length := by
  have hs : openBad q ⊆ bad := by
    intro x hx
    rw [h.opened] at hx
    simpa using (List.mem_filter.1 hx).2
  exact nodup_le _ _ (openBad_nodup q) hs
/-- What Gather is handed of a spoilt pack of a text fits the text. -/
theorem Spoilt.fit {q : ByteArray} {d s L : Nat} {T : ByteArray} {bad : List Nat} {fs : List (List Nat)} (h : Spoilt q d s T.size L (pieces d s T) bad fs) : ∀ p, p < d + s → (p : Int) ∉ (openBad q).map Int.ofNat → (openPieces q).getD p ByteArray.empty = (pieces d s T).getD p ByteArray.empty := by
  intro p hp hn
  have h1 : p < (openPieces q).length := by rw [h.pieces_length]; exact hp
  have h2 : p < (pieces d s T).length := by rw [h.plen]; exact hp
  rw [List.getD_eq_getElem?_getD, List.getElem?_eq_getElem h1, List.getD_eq_getElem?_getD, List.getElem?_eq_getElem h2]
  simp only [Option.getD_some]
  refine h.pieces_get p h1 h2 fun hb => hn (List.mem_map.2 ⟨p, ?_, rfl⟩)
  rw [h.opened, List.mem_filter]
  exact ⟨List.mem_range.2 hp, decide_eq_true hb⟩
end Go.Proofs.YtokmllopbfmadaaDoor.Ref
