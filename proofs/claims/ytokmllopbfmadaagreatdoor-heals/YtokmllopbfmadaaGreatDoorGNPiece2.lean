import Derived.Test.YtokmllopbfmadaaGreatDoorGNPiece
import Derived.Laws.CopyOwn
import Derived.Lib.BufferWrite
import Derived.Test.YtokmllopbfmadaaGreatDoorGTables
namespace Go.Proofs.YtokmllopbfmadaaGreatDoor.Plans
open Go.RowKit Mem

/-- The lists of a piece: what is asked of them. -/
structure LFit (L : List (List Nat)) (o fh m8 : Nat) : Prop where
  ok : LOk L o fh 0
  lo : o + 8 ≤ fh
  len : L.length = m8
  short : ∀ l, l ∈ L → l.length ≤ 8
  few : total L ≤ 384
  m : m8 ≤ 48
  hi : fh ≤ 1000
set_option maxRecDepth 100000 in
set_option maxHeartbeats 4000000 in
theorem addPiece_any (PB GB base m8 fs fh B M base1 o : Nat) (ss : List Stp) (bg : Nat → Bool) (sv : Value) (L : List (List Nat)) (w : World) (hp : PSt w PB GB base m8 fs fh ss bg sv) (hn : NSt w B M base1 (64 * m8) L) (hL : LFit L o fh m8) (hPB : base ≤ PB) (hGB : base ≤ GB) (hb1 : base ≤ base1) (hB : base1 ≤ B) (hM : base1 ≤ M) (hbs : base1 ≤ w.heap.size) (hfs : fs ≤ 100000) (hlen : ss.length ≤ 100000) :
    Calls Tryz.prog 109 #[.pointer (some ⟨PB, 0, none⟩), .agg (needsV B M m8).toArray] w fun e w' => e = .returned (.tuple #[]) ∧ (∃ K sv', IsEnd L fh K ∧ PSt w' PB GB base m8 fs fh (ss ++ (helpTo L fh K ++ addTo' fs (listsTo L fh K) bg m8)) (fun q => bg q || !(L.getD q []).isEmpty) sv') ∧ Below base w w' := by
  have HP : Hid (PSt w PB GB base m8 fs fh ss bg sv) := hp
  have HN : Hid (NSt w B M base1 (64 * m8) L) := hn
  have HL : Hid (LFit L o fh m8) := hL
  have p3 := hp.blk.cell_some (k := 3) (v := .int .i64 fh) rfl
  have hplt := hp.blk.lt
  have hm48 := hL.m
  have hfh := hL.hi
  have hfew := hL.few
  clear hp hn hL
  simp only [needsV]
  go_enter Tryz.func109, Tryz.ntmps109
  go_wp2
  clear p3
  go_loopw [4] (fun hv wr => ∃ (k h : Nat) (sv' : Value), hv = .int .i64 h ∧ h = fh + k ∧ PSt wr PB GB base m8 fs fh (ss ++ helpTo L fh k) bg sv' ∧ NSt wr B M base1 (64 * m8 + 128 * m8 * k) (listsTo L fh k) ∧ Blk wr w.heap.size 167 [.slice (some ⟨B, 0, none⟩) m8 m8, .map (some M)] ∧ (∀ i, i < k → 3 ≤ (best (listsTo L fh i)).2 ∧ ∃ p t, IsBest (listsTo L fh i) p t) ∧ total (listsTo L fh k) + 3 * k ≤ total L ∧ Below base w wr) (fun hv _ => 385 + fh - (intOf hv).toNat)
  case atStart =>
    refine ⟨0, fh, sv, rfl, rfl, ?_, ?_, Blk.new w _ _, fun i hi => by omega, Nat.le_refl _, (Below.refl _ _).alloc (by omega) _⟩
    · rw [helpTo, List.append_nil]; exact HP.out.to ((Below.refl _ _).alloc (Nat.le_refl _) _)
    · rw [Nat.mul_zero, Nat.add_zero]; exact HN.out.to ((Below.refl _ _).alloc (Nat.le_refl _) _)
  case round =>
    obtain ⟨k, h, sv1, rfl, hhk, hp, hn, hbox, hbest, htot, hbel⟩ := hrel
    have HHK : Hid (h = fh + k) := hhk
    have hh2 : h ≤ 2000 := by omega
    have hk128 : k ≤ 128 := by omega
    have hok := listsTo_ok HL.out.ok HL.out.lo k
    have hlk : (listsTo L fh k).length = m8 := by rw [listsTo_length]; exact HL.out.len
    have hsk := lists_short fh HL.out.short k
    have HOK : Hid (LOk (listsTo L fh k) o fh k) := hok
    have HSK : Hid (∀ l, l ∈ listsTo L fh k → l.length ≤ 8) := hsk
    have HMN : Hid (Calls Tryz.prog 114 #[.agg #[.slice (some ⟨B, 0, none⟩) m8 m8, .map (some M)]] wr fun e w' => ∃ (p : Nat × Nat) (t : Nat), e = .returned (.tuple #[.agg #[.int .i64 p.1, .int .i64 p.2], .int .i64 t]) ∧ IsBest (listsTo L fh k) p t ∧ Below wr.heap.size wr w') :=
      mostNeeded_any (listsTo L fh k) B M _ m8 wr hn.pairs (fun l hl x hx => by have := hok.inn l hl x hx; have := HL.out.lo; omega) (by omega)
    have b0 := hbox.cell_some (k := 0) (v := .slice (some ⟨B, 0, none⟩) m8 m8) rfl
    have b1 := hbox.cell_some (k := 1) (v := .map (some M)) rfl
    have HP1 : Hid (PSt wr PB GB base m8 fs fh (ss ++ helpTo L fh k) bg sv1) := hp
    have HN1 : Hid (NSt wr B M base1 (64 * m8 + 128 * m8 * k) (listsTo L fh k)) := hn
    have HBOX : Hid (Blk wr w.heap.size 167 [.slice (some ⟨B, 0, none⟩) m8 m8, .map (some M)]) := hbox
    have HBEST : Hid (∀ i, i < k → 3 ≤ (best (listsTo L fh i)).2 ∧ ∃ p t, IsBest (listsTo L fh i) p t) := hbest
    have HTOT : Hid (total (listsTo L fh k) + 3 * k ≤ total L) := htot
    have HBEL : Hid (Below base w wr) := hbel
    have hbsr := hbel.size
    clear hp hn hbox hbest htot hbel hok hsk
    go_wp2_with fail
    refine HMN.out.mono ?_
    rintro e w1 ⟨⟨p1, p2⟩, t, rfl, hib, hw1⟩
    have HIB : Hid (IsBest (listsTo L fh k) (p1, p2) t) := hib
    have HBE : Hid (best (listsTo L fh k) = ((p1, p2), t)) := best_eq hib
    have hP1 := HP1.out.to hw1
    have hN1 := HN1.out.to hw1
    have hX1 := HBOX.out.to hw1
    have hB1 : Below base w w1 := HBEL.out.trans (hw1.mono (by omega))
    have hsz1 := hB1.size
    have HP2 : Hid (PSt (w1.alloc (.cells #[.int .i64 (p1 : Nat), .int .i64 (p2 : Nat)] 176)) PB GB base m8 fs fh (ss ++ helpTo L fh k) bg sv1) := hP1.to ((Below.refl _ _).alloc (Nat.le_refl _) _)
    have HN2 : Hid (NSt (w1.alloc (.cells #[.int .i64 (p1 : Nat), .int .i64 (p2 : Nat)] 176)) B M base1 (64 * m8 + 128 * m8 * k) (listsTo L fh k)) := hN1.to ((Below.refl _ _).alloc (Nat.le_refl _) _)
    have HX2 : Hid (Blk (w1.alloc (.cells #[.int .i64 (p1 : Nat), .int .i64 (p2 : Nat)] 176)) w.heap.size 167 [.slice (some ⟨B, 0, none⟩) m8 m8, .map (some M)]) := hX1.alloc _
    have HB2 : Hid (Below base w (w1.alloc (.cells #[.int .i64 (p1 : Nat), .int .i64 (p2 : Nat)] 176))) := hB1.alloc (by omega) _
    clear hib hP1 hN1 hX1 hB1 b0 b1 HMN
    clear hhk
    by_cases ht : t < 3
    · have HEN : Hid (IsEnd L fh k) := by
        refine ⟨by rw [HBE.out]; exact ht, fun i hi => (HBEST.out i hi).1, fun i hi => ?_⟩
        by_cases e : i = k
        · subst e; exact ⟨_, _, HIB.out⟩
        · exact (HBEST.out i (by omega)).2
      obtain ⟨S0, hS0⟩ : ∃ S0, S0 = ss ++ helpTo L fh k := ⟨_, rfl⟩
      obtain ⟨LK, hLK⟩ : ∃ LK, LK = listsTo L fh k := ⟨_, rfl⟩
      have HLK : Hid (LK = listsTo L fh k) := hLK
      have HS0 : Hid (S0 = ss ++ helpTo L fh k) := hS0
      have hS0l : S0.length ≤ 101000 := by rw [hS0, List.length_append, helpTo_length]; omega
      rw [← hS0] at HP2
      rw [← hLK] at HN2 HOK HSK hlk
      have b20 := HX2.out.cell_some (k := 0) (v := .slice (some ⟨B, 0, none⟩) m8 m8) rfl
      have HTL : Hid (∀ i, i ≤ m8 → (addTo' fs LK bg i).length ≤ 1000) := by
        intro i hi
        rw [addTo_length _ _ _ _ (by omega)]
        have h1 := total_le 8 (LK.take i) (fun l hl => HSK.out l (List.mem_of_mem_take hl))
        have h2 : (LK.take i).length ≤ 48 := by simp; omega
        have h3 : 8 * (LK.take i).length ≤ 8 * 48 := Nat.mul_le_mul_left _ h2
        omega
      have htd : decide ((t : Int) < 3) = true := decide_eq_true (by omega)
      clear hS0 hLK HP1 HN1 HBOX HBEST HBEL HTOT HX2
      go_wp2
      clear b20
      go_loopw [35] (fun iv wr => ∃ (i : Nat) (sv' : Value), i ≤ m8 ∧ iv = .int .i64 i ∧ PSt wr PB GB base m8 fs fh (S0 ++ addTo' fs LK bg i) (bgTo bg LK i) sv' ∧ NSt wr B M base1 (64 * m8 + 128 * m8 * k) LK ∧ Below base w wr) (fun iv _ => m8 - (intOf iv).toNat)
      case atStart =>
        refine ⟨0, sv1, Nat.zero_le _, rfl, ?_, HN2.out, HB2.out⟩
        rw [bgTo_zero, addTo', List.append_nil]; exact HP2.out
      case round =>
        clear HP2 HN2 HB2
        obtain ⟨i, sv3, hi, rfl, hp3, hn3, hb3⟩ := hrel
        by_cases hilt : i < m8
        · have hiL : i < LK.length := by omega
          obtain ⟨v, hv, hown⟩ := hn3.lists.at hiL
          have hl8 := HSK.out _ (at_mem hiL)
          have hlx : ∀ x, x ∈ LK.getD i [] → x < 1000000 := fun x hx => by have := HOK.out.inn _ (at_mem hiL) x hx; have := HL.out.lo; omega
          have HNX : Hid (addTo' fs LK bg (i + 1) = addTo' fs LK bg i ++ addB (fs + i) (LK.getD i []) (bg i)) := rfl
          have HBA : Hid (bgIn bg LK i (LK.getD i []).length = bgTo bg LK (i + 1)) := bgIn_all bg LK i
          have hti := HTL.out i hi
          generalize LK.getD i [] = l at hown hl8 hlx HNX HBA
          have HIA : Hid (IntsAt wr v l) := IntsAt.of_owns hown
          obtain ⟨sa, sc, rfl⟩ := owns_form hown
          have HP3 : Hid (PSt wr PB GB base m8 fs fh (S0 ++ addTo' fs LK bg i) (bgTo bg LK i) sv3) := hp3
          have HN3 : Hid (NSt wr B M base1 (64 * m8 + 128 * m8 * k) LK) := hn3
          have HB3 : Hid (Below base w wr) := hb3
          have HLX : Hid (∀ x, x ∈ l → x < 1000000) := hlx
          clear hp3 hn3 hb3 hown hlx
          go_wp2
          clear hv
          obtain ⟨wo, rfl⟩ : ∃ wo, wo = wr := ⟨_, rfl⟩
          go_loopw [42] (fun cv wq => ∃ (c : Nat) (sv' : Value), c ≤ l.length ∧ cv = .int .i64 c ∧ PSt wq PB GB base m8 fs fh (S0 ++ addTo' fs LK bg i ++ addB (fs + i) (l.take c) (bg i)) (bgIn bg LK i c) sv' ∧ NSt wq B M base1 (64 * m8 + 128 * m8 * k) LK ∧ IntsAt wq (.slice sa l.length sc) l ∧ Below base w wq) (fun cv _ => l.length - (intOf cv).toNat)
          case atStart =>
            refine ⟨0, sv3, Nat.zero_le _, rfl, ?_, HN3.out, HIA.out, HB3.out⟩
            rw [bgIn_zero, List.take_zero, addB, List.append_nil]; exact HP3.out
          case round =>
            clear HP3 HN3 HIA HB3
            obtain ⟨c, sv4, hc, rfl, hp4, hn4, hia4, hb4⟩ := hrel
            by_cases hclt : c < l.length
            · have HIA4 : Hid (IntsAt wr (.slice sa l.length sc) l) := hia4
              obtain ⟨ao5, cap5, he5, hcap5, hx5⟩ := hia4
              injection he5 with he51 he52 he53
              subst he51 he53
              obtain ⟨g, us, rfl, hg, hus⟩ : ∃ g us, sa = some ⟨g, 0, none⟩ ∧ Blk wr g 3 us ∧ ∀ k, (h : k < l.length) → us[k]? = some (.int .i64 (l[k] : Nat)) := by
                rcases hx5 with h | h
                · rw [h] at hclt; simp at hclt
                · exact h
              have hck := hg.cell_some (hus c hclt)
              have HSN : Hid (addB (fs + i) (l.take (c + 1)) (bg i) = addB (fs + i) (l.take c) (bg i) ++ [⟨fs + i, l[c], !bgIn bg LK i c i⟩]) := by
                show _ = _
                rw [take_next hclt, addB_snoc, bgIn_at bg LK i c l (by omega)]
              have HGI : Hid (Blk wr g 3 us) := hg
              have HUS : Hid (∀ k, (h : k < l.length) → us[k]? = some (.int .i64 (l[k] : Nat))) := hus
              generalize l[c] = x at hck HSN
              have HAD : Hid (Calls Tryz.prog 117 #[.pointer (some ⟨PB, 0, none⟩), .int .i64 i, .int .i64 x] wr fun e w' => e = .returned (.tuple #[]) ∧ (∃ sv', PSt w' PB GB base m8 fs fh ((S0 ++ addTo' fs LK bg i ++ addB (fs + i) (l.take c) (bg i)) ++ [⟨fs + i, x, !bgIn bg LK i c i⟩]) (updB (bgIn bg LK i c) i) sv') ∧ TurnedP base wr w') :=
                addToSum_any PB GB base m8 fs fh i x _ _ sv4 wr hp4 hPB hGB hilt hfs (by omega) (by rw [List.length_append, List.length_append, addB_length, List.length_take]; omega)
              have HN4 : Hid (NSt wr B M base1 (64 * m8 + 128 * m8 * k) LK) := hn4
              have HB4 : Hid (Below base w wr) := hb4
              clear hp4 hn4 hb4 hg hus hx5 he52
              go_wp2_with fail
              refine HAD.out.mono ?_
              rintro e w5 ⟨rfl, ⟨sv5, hp5⟩, ht5⟩
              have HP5 : Hid (PSt w5 PB GB base m8 fs fh (S0 ++ addTo' fs LK bg i ++ addB (fs + i) (l.take (c + 1)) (bg i)) (bgIn bg LK i (c + 1)) sv5) := by
                rw [List.append_assoc, ← HSN.out] at hp5
                exact hp5.flagsEq (fun q _ => bgIn_next bg LK i c q)
              have HN5 : Hid (NSt w5 B M base1 (64 * m8 + 128 * m8 * k) LK) := HN4.out.turnedP ht5
              have HI5 : Hid (IntsAt w5 (.slice (some ⟨g, 0, none⟩) l.length sc) l) := ⟨_, _, rfl, hcap5, .inr ⟨g, us, rfl, ht5.blk HGI.out (by decide) (by decide) (by decide), HUS.out⟩⟩
              have HB5 : Hid (Below base w w5) := HB4.out.trans ht5.below
              clear hp5 ht5 HAD
              go_wp2
              go_roundw
              case rel => exact ⟨c + 1, sv5, by omega, by go_num, HP5.out, HN5.out, HI5.out, HB5.out⟩
              case measure => simp [intOf]; omega
            · obtain rfl : c = l.length := by omega
              have HP6 : Hid (PSt wr PB GB base m8 fs fh (S0 ++ addTo' fs LK bg (i + 1)) (bgTo bg LK (i + 1)) sv4) := by
                rw [HBA.out, List.take_length, List.append_assoc, ← HNX.out] at hp4; exact hp4
              have HN6 : Hid (NSt wr B M base1 (64 * m8 + 128 * m8 * k) LK) := hn4
              have HB6 : Hid (Below base w wr) := hb4
              clear hp4 hn4 hia4 hb4
              go_wp2
              go_roundw
              case rel => exact ⟨i + 1, sv4, by omega, by go_num, HP6.out, HN6.out, HB6.out⟩
              case measure => simp [intOf]; omega
        · obtain rfl : i = m8 := by omega
          have HF : Hid (PSt wr PB GB base i fs fh (ss ++ (helpTo L fh k ++ addTo' fs (listsTo L fh k) bg i)) (fun q => bg q || !(L.getD q []).isEmpty) sv3) := by
            have := hp3.flagsEq (bg' := fun q => bg q || !(L.getD q []).isEmpty) (fun q hq => by
              have := bgTo_needs bg L fh k q (by rw [HL.out.len]; exact hq)
              rw [HLK.out, ← HL.out.len]; exact this)
            rw [HS0.out, HLK.out, List.append_assoc] at this
            exact this
          clear hp3 hn3
          go_wp2
          go_end0
          exact ⟨rfl, ⟨k, sv3, HEN.out, HF.out⟩, hb3⟩
    · have hpair := HIB.out.pair (by omega)
      have hh0 := HHK.out
      have HMK : Hid (Calls Tryz.prog 115 #[.pointer (some ⟨PB, 0, none⟩), .int .i64 h, .agg #[.int .i64 p1, .int .i64 p2]] (w1.alloc (.cells #[.int .i64 (p1 : Nat), .int .i64 (p2 : Nat)] 176)) fun e w' => e = .returned (.tuple #[]) ∧ (∃ sv', PSt w' PB GB base m8 fs fh ((ss ++ helpTo L fh k) ++ [⟨h, p1, true⟩, ⟨h, p2, false⟩]) bg sv') ∧ TurnedP base (w1.alloc (.cells #[.int .i64 (p1 : Nat), .int .i64 (p2 : Nat)] 176)) w') :=
        makeHelper_any PB GB base m8 fs fh p1 p2 h (ss ++ helpTo L fh k) bg sv1 _ HP2.out hPB (by rw [List.length_append, helpTo_length]; omega)
      have HSE : Hid ((ss ++ helpTo L fh k) ++ [(⟨h, p1, true⟩ : Stp), ⟨h, p2, false⟩] = ss ++ helpTo L fh (k + 1)) := by
        show _ = _
        rw [helpTo, HBE.out, List.append_assoc, hh0]
      have HLE : Hid (putH (listsTo L fh k) (p1, p2) h = listsTo L fh (k + 1)) := by
        show _ = _
        rw [listsTo, HBE.out, hh0]
      have HTO : Hid (total (listsTo L fh (k + 1)) + 3 * (k + 1) ≤ total L) := by
        have e := total_put hpair.1 h _ HOK.out.up
        rw [HLE.out, hpair.2.1] at e
        have := HTOT.out
        show _ ≤ _
        omega
      have HBB : Hid (∀ i, i < k + 1 → 3 ≤ (best (listsTo L fh i)).2 ∧ ∃ p t, IsBest (listsTo L fh i) p t) := by
        intro i hi
        by_cases e : i = k
        · subst e; rw [HBE.out]; exact ⟨by show 3 ≤ t; omega, _, _, HIB.out⟩
        · exact HBEST.out i (by omega)
      have HKP : Hid (Blk (w1.alloc (.cells #[.int .i64 (p1 : Nat), .int .i64 (p2 : Nat)] 176)) w1.heap.size 176 [.int .i64 p1, .int .i64 p2]) := Blk.new w1 _ _
      have hlt12 := hpair.1
      have HRE : Hid (∀ w2, TurnedP base (w1.alloc (.cells #[.int .i64 (p1 : Nat), .int .i64 (p2 : Nat)] 176)) w2 → Calls Tryz.prog 116 #[.agg #[.slice (some ⟨B, 0, none⟩) m8 m8, .map (some M)], .agg #[.int .i64 p1, .int .i64 p2], .int .i64 h] w2 fun e w' => e = .returned (.tuple #[]) ∧ NSt w' B M base1 (64 * m8 + 128 * m8 * k + 128 * m8) (putH (listsTo L fh k) (p1, p2) h) ∧ Turned base1 w2 w') := by
        intro w2 ht2
        have hb2 := ht2.below.size
        have hmk : 128 * m8 * k ≤ 128 * 48 * 128 := Nat.mul_le_mul (Nat.mul_le_mul_left _ hm48) hk128
        exact replace_any (listsTo L fh k) B M base1 _ m8 p1 p2 h w2 (HN2.out.turnedP ht2) hlk.symm (by omega) hB hM (by simp at hb2; omega) hlt12 (by omega) HOK.out.up (fun l hl x hx => by have := HOK.out.inn l hl x hx; have := HL.out.lo; omega) HSK.out (by omega)
      clear hpair hh0
      go_wp2_with fail
      refine HMK.out.mono ?_
      rintro e w2 ⟨rfl, ⟨sv2, hp2⟩, ht2⟩
      have hx2 := ht2.blk HX2.out (by decide) (by decide) (by decide)
      have hk2 := ht2.blk HKP.out (by decide) (by decide) (by decide)
      have b20 := hx2.cell_some (k := 0) (v := .slice (some ⟨B, 0, none⟩) m8 m8) rfl
      have b21 := hx2.cell_some (k := 1) (v := .map (some M)) rfl
      have k20 := hk2.cell_some (k := 0) (v := .int .i64 p1) rfl
      have k21 := hk2.cell_some (k := 1) (v := .int .i64 p2) rfl
      have HPS2 : Hid (PSt w2 PB GB base m8 fs fh ((ss ++ helpTo L fh k) ++ [⟨h, p1, true⟩, ⟨h, p2, false⟩]) bg sv2) := hp2
      have HXX : Hid (Blk w2 w.heap.size 167 [.slice (some ⟨B, 0, none⟩) m8 m8, .map (some M)]) := hx2
      have HBW2 : Hid (Below base w w2) := HB2.out.trans ht2.below
      have hre := HRE.out w2 ht2
      have HRR : Hid (Calls Tryz.prog 116 #[.agg #[.slice (some ⟨B, 0, none⟩) m8 m8, .map (some M)], .agg #[.int .i64 p1, .int .i64 p2], .int .i64 h] w2 fun e w' => e = .returned (.tuple #[]) ∧ NSt w' B M base1 (64 * m8 + 128 * m8 * k + 128 * m8) (putH (listsTo L fh k) (p1, p2) h) ∧ Turned base1 w2 w') := hre
      clear hp2 ht2 hx2 hk2 hre HRE HMK hlt12
      go_wp2_with fail
      refine HRR.out.mono ?_
      rintro e w3 ⟨rfl, hn3, ht3⟩
      have HPE : Hid (PSt w3 PB GB base m8 fs fh (ss ++ helpTo L fh (k + 1)) bg sv2) := by
        have := HPS2.out.turned ht3
        rw [HSE.out] at this; exact this
      have HNE : Hid (NSt w3 B M base1 (64 * m8 + 128 * m8 * (k + 1)) (listsTo L fh (k + 1))) := by
        rw [HLE.out, Nat.add_assoc, ← Nat.mul_succ] at hn3; exact hn3
      have HXE : Hid (Blk w3 w.heap.size 167 [.slice (some ⟨B, 0, none⟩) m8 m8, .map (some M)]) := ht3.blk HXX.out (by decide) (by decide)
      have HBE3 : Hid (Below base w w3) := HBW2.out.trans (ht3.below.mono hb1)
      have HHE : Hid (h + 1 = fh + (k + 1)) := by have := HHK.out; show _ = _; omega
      clear hn3 ht3 b20 b21 k20 k21 HRR
      go_wp2
      go_roundw
      case rel => exact ⟨k + 1, h + 1, sv2, by go_num, HHE.out, HPE.out, HNE.out, HXE.out, HBB.out, HTO.out, HBE3.out⟩
      case measure => have := HHK.out; simp [intOf]; omega
end Go.Proofs.YtokmllopbfmadaaGreatDoor.Plans

namespace Go.Proofs.YtokmllopbfmadaaGreatDoor.Plans
open Go.RowKit Mem FieldWalks Tab Planes

theorem plan_few_to {rows : List (List Nat)} {n : Nat} : ∀ j, j ≤ n → (∀ i, i < j → IsEnd (needs rows i) (8 * (n + rows.length)) (endOf (needs rows i) (8 * (n + rows.length)))) → (planTo rows n j).length ≤ needsTo rows j
  | 0, _, _ => Nat.le_refl _
  | j + 1, hj, e => by
    have := plan_few_to j (by omega) (fun i hi => e i (by omega))
    have := piece_few (n := n) (j := j) (by omega) (e j (by omega))
    rw [planTo, List.length_append, needsTo]; omega
theorem infoFlag : (Tryz.prog.info? 4).map (fun i => (i.zero, i.size, i.bytes)) = some (some (.bool false), 1, 1) := by kernel_rfl
theorem make_flags (n : Nat) (hn : n ≤ 100000) (w : World) :
    (Instr.makeSlice 141 (.int .i64 (n : Int)) (.int .i64 (n : Int))).run Tryz.prog w = .ok (.slice (some ⟨w.heap.size, 0, none⟩) n n) (w.alloc (.cells (madeCells #[.bool false] n) 4)) :=
  run_make_row' 141 4 (.bool false) 1 Tryz.underlying141 infoFlag rfl .i64 .i64 n (by omega) (by omega) w
theorem needs_short (rows : List (List Nat)) (j : Nat) : ∀ l, l ∈ needs rows j → l.length ≤ 8 := by
  intro l hl
  simp only [needs, List.mem_map] at hl
  obtain ⟨k, _, rfl⟩ := hl
  exact turnIn_le _ _ _ _

set_option maxRecDepth 100000 in
set_option maxHeartbeats 2000000 in
theorem steps_any (rows : List (List Nat)) (n : Nat) (rv : Value) (w : World) (ht : Table w) (hr : RowsAt w rv rows) (hlen : ∀ i, (h : i < rows.length) → rows[i].length = n) (hb : ∀ i, (h : i < rows.length) → Gf.Bytes rows[i]) (hn : n ≤ 100) (hm : rows.length ≤ 6) :
    Calls Tryz.prog 97 #[rv, .int .i64 n] w fun e w' => ∃ v, e = .returned v ∧ w'.ownsRow w.heap.size 98 3 v (planTo rows n n).length (stepCells (planTo rows n n)) ∧ Ends rows n ∧ Below w.heap.size w w' := by
  have HR : Hid (RowsAt w rv rows) := hr
  obtain ⟨rao, rcap, rfl, hrc⟩ := hr
  obtain ⟨m8, hm8⟩ : ∃ m8, m8 = 8 * rows.length := ⟨_, rfl⟩
  obtain ⟨fs, hfs⟩ : ∃ fs, fs = 8 * n := ⟨_, rfl⟩
  obtain ⟨fh, hfh⟩ : ∃ fh, fh = 8 * (n + rows.length) := ⟨_, rfl⟩
  have e8 : 8 * (rows.length : Int) = (m8 : Int) := by omega
  have e9 : 8 * (n : Int) = (fs : Int) := by omega
  have e10 : 8 * ((n : Int) + (rows.length : Int)) = (fh : Int) := by omega
  have hmk := fun w => make_flags m8 (by omega) w
  have HM8 : Hid (m8 = 8 * rows.length) := hm8
  have HFS : Hid (fs = 8 * n) := hfs
  have HFH : Hid (fh = 8 * (n + rows.length)) := hfh
  have HNO : Hid (∀ (j : Nat) (W : World), j < n → Below w.heap.size w W → Calls Tryz.prog 110 #[.slice rao rows.length rcap, .int .i64 j] W fun e w' => ∃ B M, e = .returned (.agg (needsV B M m8).toArray) ∧ NSt w' B M W.heap.size (64 * m8) (needs rows j) ∧ W.heap.size ≤ B ∧ W.heap.size ≤ M ∧ Below W.heap.size W w') := by
    intro j W hj hW
    rw [hm8]
    exact needsOf_any rows n j _ W (table_to ht hW) (HR.out.to hW) hlen hb hn (by omega) hj
  have hf8 : fs ≤ 800 := by omega
  have hm48 : m8 ≤ 48 := by omega
  have hfh8 : fh ≤ 848 := by omega
  clear hrc hlen hb hm8 hfs hfh
  go_enter Tryz.func97, Tryz.ntmps97
  go_wp2
  go_loopw [20] (fun jv wr => ∃ (j : Nat) (sv' : Value), j ≤ n ∧ jv = .int .i64 j ∧ PSt wr (w.heap.size + 1) w.heap.size w.heap.size m8 fs fh (planTo rows n j) (begunTo rows j) sv' ∧ (∀ i, i < j → IsEnd (needs rows i) (8 * (n + rows.length)) (endOf (needs rows i) (8 * (n + rows.length)))) ∧ Below w.heap.size w wr) (fun jv _ => n - (intOf jv).toNat)
  case atStart =>
    refine ⟨0, .slice none 0 0, Nat.zero_le _, rfl, ⟨?_, World.ownsRow_nil _ _ _ _, ?_⟩, fun i hi => by omega, ((Below.refl _ _).alloc (Nat.le_refl _) _).alloc (by simp) _⟩
    · exact Blk.new1 w _ _ _
    · refine ((Blk.new w _ _).alloc _).eq ?_
      rw [toList_madeCells_one]
      simp [flagsV, begunTo, List.map_const']
  case round =>
    obtain ⟨j, sv1, hj, rfl, hp, hends, hbel⟩ := hrel
    by_cases hlt : j < n
    · have hno := HNO.out j wr hlt hbel
      have HP : Hid (PSt wr (w.heap.size + 1) w.heap.size w.heap.size m8 fs fh (planTo rows n j) (begunTo rows j) sv1) := hp
      have HEN : Hid (∀ i, i < j → IsEnd (needs rows i) (8 * (n + rows.length)) (endOf (needs rows i) (8 * (n + rows.length)))) := hends
      have HBEL : Hid (Below w.heap.size w wr) := hbel
      have hsz := hbel.size
      clear hp hends hbel
      go_wp2_with fail
      refine hno.mono ?_
      rintro e w1 ⟨B, M, rfl, hns, hB, hM, hw1⟩
      have hpl : (planTo rows n j).length ≤ 100000 := by
        have h1 := plan_few_to (n := n) j hj HEN.out
        have h2 := needsTo_le rows j
        have h3 : 64 * rows.length * j ≤ 64 * 6 * 100 := Nat.mul_le_mul (Nat.mul_le_mul_left _ hm) (by omega)
        omega
      have hlf : LFit (needs rows j) (8 * j) fh m8 := ⟨needs_ok rows j fh, by have := HFH.out; omega, by rw [needs_length]; exact HM8.out.symm, needs_short rows j, by have := needs_total rows j; omega, hm48, by omega⟩
      have had := addPiece_any (w.heap.size + 1) w.heap.size w.heap.size m8 fs fh B M wr.heap.size (8 * j) (planTo rows n j) (begunTo rows j) sv1 (needs rows j) w1 (HP.out.to hw1) hns hlf (by omega) (Nat.le_refl _) hsz hB hM hw1.size (by omega) hpl
      have HB1 : Hid (Below w.heap.size w w1) := HBEL.out.trans (hw1.mono hsz)
      clear hns hlf hno hw1 hpl
      go_wp2_with fail
      refine had.mono ?_
      rintro e w2 ⟨rfl, ⟨K, sv2, hK, hp2⟩, hb2⟩
      have HE2 : Hid (∀ i, i < j + 1 → IsEnd (needs rows i) (8 * (n + rows.length)) (endOf (needs rows i) (8 * (n + rows.length)))) := by
        intro i hi
        by_cases e : i = j
        · subst e
          rw [HFH.out] at hK
          rw [endOf_eq hK]; exact hK
        · exact HEN.out i (by omega)
      have HP2 : Hid (PSt w2 (w.heap.size + 1) w.heap.size w.heap.size m8 fs fh (planTo rows n (j + 1)) (begunTo rows (j + 1)) sv2) := by
        have e1 : planTo rows n (j + 1) = planTo rows n j ++ (helpTo (needs rows j) fh K ++ addTo' fs (listsTo (needs rows j) fh K) (begunTo rows j) m8) := by
          have hK' := hK
          rw [HFH.out] at hK'
          rw [planTo, pieceSteps, endOf_eq hK', HFH.out, HFS.out, HM8.out]
        show PSt _ _ _ _ _ _ _ _ _ _
        rw [e1]; exact hp2
      have HB2 : Hid (Below w.heap.size w w2) := HB1.out.trans hb2
      clear hK hp2 hb2 had
      go_wp2
      go_roundw
      case rel => exact ⟨j + 1, sv2, by omega, by go_num, HP2.out, HE2.out, HB2.out⟩
      case measure => simp [intOf]; omega
    · obtain rfl : j = n := by omega
      have p0 := hp.blk.cell_some (k := 0) (v := sv1) rfl
      have HO : Hid (wr.ownsRow w.heap.size 98 3 sv1 (planTo rows j j).length (stepCells (planTo rows j j))) := hp.own
      obtain ⟨sa, sc, rfl⟩ := owns_form hp.own
      have HEN : Hid (Ends rows j) := hends
      clear hp hends
      go_wp2
      go_ret
      exact ⟨_, rfl, HO.out, HEN.out, hbel⟩
end Go.Proofs.YtokmllopbfmadaaGreatDoor.Plans

namespace Go.Proofs.YtokmllopbfmadaaGreatDoor.Parts
open Go.RowKit Mem FieldWalks Tab ByTab

/-- A text's bytes. -/
def nums (s : ByteArray) : List Nat := s.data.toList.map UInt8.toNat
theorem nums_length (s : ByteArray) : (nums s).length = s.size := by rw [nums, List.length_map]; rfl
theorem nums_bytes (s : ByteArray) : Gf.Bytes (nums s) := by
  intro x hx; simp [nums] at hx; obtain ⟨u, _, rfl⟩ := hx; exact u.toNat_lt
def cutAt (l : List Nat) (L j : Nat) : List Nat := (List.range L).map fun t => l.getD (j * L + t) 0
def cuts (l : List Nat) (d L : Nat) : List (List Nat) := (List.range d).map (cutAt l L)

/-- copy of a string into the head of a row: as many bytes as both have. -/
theorem run_copy_str {P : Program} (w : World) (dT sT ty elem : TypeId) (g dLen dCap : Nat) (s : ByteArray) (cur : List Value) (t : TypeId)
    (hu : P.underlying dT = some (.slice elem)) (hs : (P.info? elem).map (·.size) = some 1) (hg : Blk w g t cur) (hfit : Nat.min s.size dLen ≤ cur.length) :
    (Builtin.copy_ #[dT, sT] ty #[.slice (some ⟨g, 0, none⟩) dLen dCap, .string s]).run P w =
      .ok (goInt (Nat.min s.size dLen)) (w.setRow g ((bytesV (nums s)).take (Nat.min s.size dLen) ++ cur.drop (Nat.min s.size dLen)).toArray) := by
  have hm : Nat.min s.size dLen ≤ s.size := Nat.min_le_left _ _
  generalize hmm : Nat.min s.size dLen = m at *
  have e : List.take m (List.map (fun b : UInt8 => Value.int IntKind.u8 (b.toNat : Int)) s.data.toList) = (bytesV (nums s)).take m := by simp only [bytesV, nums, List.map_map]; rfl
  have hl : ((bytesV (nums s)).take m).length = m := by simp [nums_length]; omega
  have hst := run_storeCells_at P g 0 t ((bytesV (nums s)).take m) 0 cur.toArray w hg (by rw [hl]; simpa using hfit) (fun v hv => by
    have := List.mem_of_mem_take hv; simp [bytesV] at this; obtain ⟨n, _, rfl⟩ := this; rfl)
  rw [hl] at hst
  simp only [Nat.add_zero, Nat.zero_add, List.take_zero, List.nil_append] at hst
  cases hq : P.info? elem with
  | none => simp [hq] at hs
  | some i =>
    simp [Builtin.copy_, run_underlying hu, Builtin.lenOf, Builtin.firstCells, sizeOf, typeInfo, hq, hmm]
    rw [e, hst]
    simp [Result.andThen]
theorem step_copy_str {P : Program} {ops : Array Oper} {o : Oper} {a : Act} {w : World} {K : Act → World → Prop} {Q : Exit → Act → World → Prop} {E : Prop} (hgd : o.guard = none) (d s : Operand) (dT sT : TypeId)
    (ho : o.op = .call { callee := .builtin .copy, args := #[d, s], argTypes := #[dT, sT] }) (elem : TypeId) (hu : P.underlying dT = some (.slice elem)) (hsz : (P.info? elem).map (·.size) = some 1)
    (g dLen dCap : Nat) (str : ByteArray) (hd : a.eval d = .slice (some ⟨g, 0, none⟩) dLen dCap) (hs : a.eval s = .string str)
    (cur : List Value) (t : TypeId) (hg : Blk w g t cur) (hfit : Nat.min str.size dLen ≤ cur.length) (cs : List Value) (hcs : (bytesV (nums str)).take (Nat.min str.size dLen) ++ cur.drop (Nat.min str.size dLen) = cs)
    (h : ∀ n, K (a.put o.dst (goInt n)) (w.setRow g cs.toArray)) :
    if Region.wanted o (yielded ops a.tmps) = true then Oper.wp P o a w K Q else E := by
  have hw : Region.wanted o (yielded ops a.tmps) = true := by simp [Region.wanted, hgd]
  rw [if_pos hw]
  have hrun := run_copy_str (P := P) w dT sT o.type elem g dLen dCap str cur t hu hsz hg hfit
  rw [hcs] at hrun
  unfold Oper.wp
  simp [execOp, ho, resolve, invoke, builtin, hd, hs, hrun, Result.andThen]
  exact h _

theorem infoByteSize : (Tryz.prog.info? 5).map (·.size) = some 1 := by kernel_rfl
theorem ceil_cast (n d : Nat) (hd : 0 < d) : ((n : Int) + d - 1) / d = (((n + d - 1) / d : Nat) : Int) := by
  rw [Int.natCast_ediv]; congr 1; omega
theorem length_any (d n : Nat) (hd : 0 < d) (hd2 : d ≤ 100) (hn : n ≤ 1000) (w : World) :
    Calls Tryz.prog 85 #[.int .i64 d, .int .i64 n] w fun e w' => e = .returned (.int .i64 ((n + d - 1) / d : Nat)) ∧ w' = w := by
  go_enter Tryz.func85, Tryz.ntmps85
  go_wp2
  go_ret
  refine ⟨?_, rfl⟩
  show Ending.returned (.int .i64 (((n : Int) + d - 1) / d)) = _
  rw [ceil_cast n d hd]

theorem ceil_le (n d : Nat) (hd : 0 < d) : (n + d - 1) / d ≤ n := by
  rcases Nat.eq_zero_or_pos n with h | h
  · subst h; rw [Nat.zero_add, Nat.div_eq_of_lt (by omega)]; omega
  · have : (n + d - 1) / d < n + 1 := by
      rw [Nat.div_lt_iff_lt_mul hd]
      have : (n + 1) * d = n * d + d := by rw [Nat.add_mul]; omega
      have : n * 1 ≤ n * d := Nat.mul_le_mul_left n hd
      omega
    omega

theorem nums_drop (s : ByteArray) (m : Nat) : nums (s.extract m s.size) = (nums s).drop m := by
  simp only [nums]
  rw [show (s.extract m s.size).data = s.data.extract m s.data.size by rw [ByteArray.data_extract]; rfl]
  simp only [Array.toList_extract, List.extract_eq_take_drop, List.map_take, List.map_drop]
  rw [List.take_of_length_le (by simp)]
/-- What the piece holds behind the copy. -/
theorem cut_content (s str : ByteArray) (L k m : Nat) (hm : m = k * L) (hs : nums str = (nums s).drop m) :
    (bytesV (nums str)).take (Nat.min str.size L) ++ (bytesV (List.replicate L 0)).drop (Nat.min str.size L) = bytesV (cutAt (nums s) L k) := by
  have hsz : str.size = (nums s).length - m := by rw [← nums_length, hs, List.length_drop]
  have e : Nat.min str.size L = min ((nums s).length - m) L := by rw [hsz]
  rw [e, hs]
  generalize nums s = l at *
  clear e hsz hs
  apply List.ext_getElem
  · simp [cutAt]; omega
  · intro i h1 h2
    simp only [bytesV_length, cutAt, List.length_map, List.length_range] at h2
    rw [bytesV_getElem]
    simp only [cutAt, List.getElem_map, List.getElem_range, ← hm]
    by_cases hi : i < l.length - m
    · rw [List.getElem_append_left (by simp; omega), List.getElem_take, bytesV_getElem, List.getElem_drop]
      simp [show m + i < l.length by omega]
    · rw [List.getElem_append_right (by simp; omega), List.getElem_drop, bytesV_getElem]
      simp [List.getElem?_eq_none (show l.length ≤ m + i by omega)]

theorem rel_cut (wr w' : World) (d k L : Nat) (f : Nat → List Nat) (hlt : k < d) (hbel : Below w'.heap.size w' wr) (HF : Filled wr w'.heap.size d k f) (hlen : (f k).length = L) :
    Filled ((((wr.setCell ⟨w'.heap.size, k, none⟩ (.slice (some ⟨wr.heap.size, 0, none⟩) L L)).alloc (.cells (madeCells #[.int .u8 0] L) 5)).drew).setRow wr.heap.size (bytesV (f k)).toArray) w'.heap.size d (k + 1) f ∧
    Below w'.heap.size w' ((((wr.setCell ⟨w'.heap.size, k, none⟩ (.slice (some ⟨wr.heap.size, 0, none⟩) L L)).alloc (.cells (madeCells #[.int .u8 0] L) 5)).drew).setRow wr.heap.size (bytesV (f k)).toArray) := by
  have hB := HF.lt
  have hnew := made_bytes (wr.setCell ⟨w'.heap.size, k, none⟩ (.slice (some ⟨wr.heap.size, 0, none⟩) L L)) L
  rw [size_setCell] at hnew
  refine ⟨HF.made hlt (u := .slice (some ⟨wr.heap.size, 0, none⟩) L L) (fun b hb1 hb2 => ?_) ?_ ⟨wr.heap.size, by rw [hlen], ?_⟩, ?_⟩
  · rw [setRow_other _ _ _ _ (by omega), heap_drew, Below.heap_alloc _ _ _ (by rw [size_setCell]; exact hb2), Below.heap_setCell _ _ _ _ hb1]
  · rw [setRow_other _ _ _ _ (by omega), heap_drew, Below.heap_alloc _ _ _ (by rw [size_setCell]; exact hB)]
  · have := Blk.row (w := ((wr.setCell ⟨w'.heap.size, k, none⟩ (.slice (some ⟨wr.heap.size, 0, none⟩) L L)).alloc (.cells (madeCells #[.int .u8 0] L) 5)).drew) hnew (bytesV (f k)).toArray
    rw [List.toList_toArray] at this
    exact this
  · exact below_row (((hbel.setCell (Nat.le_refl _) _).alloc (by rw [size_setCell]; exact hbel.size) _).drew) hbel.size _

set_option maxRecDepth 100000 in
set_option maxHeartbeats 1000000 in
theorem cut_any (d : Nat) (s : ByteArray) (hd : 0 < d) (hd2 : d ≤ 100) (hs : s.size ≤ 1000) (L : Nat) (hL : L = (s.size + d - 1) / d) (w : World) :
    Calls Tryz.prog 74 #[.int .i64 d, .string s] w fun e w' => ∃ v, e = .returned v ∧ RowsC w' v (cuts (nums s) d L) ∧ Below w.heap.size w w' := by
  have hmk := fun w => make_rows d (by omega) w
  have hmb := fun w => make_bytes L (by have := ceil_le s.size d hd; omega) w
  have hLs : L ≤ 1000 := by have := ceil_le s.size d hd; omega
  have HL : Hid (L = (s.size + d - 1) / d) := hL
  clear hL
  go_enter Tryz.func74, Tryz.ntmps74
  go_wp2_with fail
  refine (length_any d s.size hd hd2 hs _).mono ?_
  rintro e w' ⟨rfl, rfl⟩
  rw [← HL.out]
  go_wp2
  go_loopw [17] (fun i wr => ∃ k : Nat, k ≤ d ∧ i = .int .i64 k ∧ Filled wr w'.heap.size d k (cutAt (nums s) L) ∧ Below w'.heap.size w' wr) (fun i _ => d - (intOf i).toNat)
  case atStart => exact ⟨0, Nat.zero_le _, rfl, made_rows _ _ _, (Below.refl _ _).alloc (Nat.le_refl _) _⟩
  case round =>
    obtain ⟨k, hk, rfl, hfl, hbel⟩ := hrel
    by_cases hlt : k < d
    · obtain ⟨⟨v0, hv0⟩, hfr⟩ := (hfl.to ((Below.refl _ _).alloc (Nat.le_refl _) (.cells (madeCells #[.int .u8 0] L) 5))).cell hlt
      have hBlt := hfl.lt
      have HF : Hid (Filled wr w'.heap.size d k (cutAt (nums s) L)) := hfl
      obtain ⟨m, hm⟩ : ∃ m, m = k * L := ⟨_, rfl⟩
      have hm2 : m ≤ 100000 := by rw [hm]; exact Nat.mul_le_mul (by omega : k ≤ 100) hLs
      have em : (k : Int) * (L : Int) = (m : Int) := by rw [hm]; simp
      have HM : Hid (m = k * L) := hm
      have hput := hfl.put hlt (.slice (some ⟨wr.heap.size, 0, none⟩) L L)
      have hnew : Hid (Blk (((wr.setCell ⟨w'.heap.size, k, none⟩ (.slice (some ⟨wr.heap.size, 0, none⟩) L L)).alloc (.cells (madeCells #[.int .u8 0] L) 5)).drew) wr.heap.size 5 (bytesV (List.replicate L 0))) := by
        have := made_bytes (wr.setCell ⟨w'.heap.size, k, none⟩ (.slice (some ⟨wr.heap.size, 0, none⟩) L L)) L
        rw [size_setCell] at this
        exact this
      clear hfl hm
      by_cases hle : m ≤ s.size
      · have hle2 : m ≤ s.size := by omega
        have CC : Hid _ := cut_content s (s.extract m s.size) L k m HM.out (nums_drop s m)
        go_wp2
        go_region_law (refine step_copy_str rfl _ _ 85 9 rfl 5 Tryz.underlying85 (by rw [infoByteSize]) wr.heap.size L L (s.extract m s.size) (by simp [Act.eval]) (by simp [Act.eval]) (bytesV (List.replicate L 0)) 5 hnew.out (by rw [bytesV_length, List.length_replicate]; exact Nat.min_le_right _ _) (bytesV (cutAt (nums s) L k)) CC.out ?_; intro n38)
        go_wp2
        have R := rel_cut wr w' d k L (cutAt (nums s) L) hlt hbel HF.out (by simp [cutAt])
        go_roundw
        case rel => exact ⟨k + 1, by omega, by go_num, R.1, R.2⟩
        case measure => simp [intOf]; omega
      · have hle2 : s.size < m := by omega
        have CC : Hid _ := cut_content s (s.extract s.size s.size) L k m HM.out (by rw [nums_drop, List.drop_of_length_le (by rw [nums_length]; omega), List.drop_of_length_le (by rw [nums_length]; omega)])
        go_wp2
        go_region_law (refine step_copy_str rfl _ _ 85 9 rfl 5 Tryz.underlying85 (by rw [infoByteSize]) wr.heap.size L L (s.extract s.size s.size) (by simp [Act.eval]) (by simp [Act.eval]) (bytesV (List.replicate L 0)) 5 hnew.out (by rw [bytesV_length, List.length_replicate]; exact Nat.min_le_right _ _) (bytesV (cutAt (nums s) L k)) CC.out ?_; intro n38)
        go_wp2
        have R := rel_cut wr w' d k L (cutAt (nums s) L) hlt hbel HF.out (by simp [cutAt])
        go_roundw
        case rel => exact ⟨k + 1, by omega, by go_num, R.1, R.2⟩
        case measure => simp [intOf]; omega
    · obtain rfl : k = d := by omega
      go_wp2
      go_ret
      refine ⟨_, rfl, hfl.rowsC (by simp [cuts]) (fun i hi => ?_), hbel⟩
      simp only [cuts, List.length_map, List.length_range] at hi
      simp [cuts]
end Go.Proofs.YtokmllopbfmadaaGreatDoor.Parts
