import Derived.Test.YtmlnejlhgbonpaaDoorRefGather
namespace Go.Proofs.YtmlnejlhgbonpaaDoor.Ref
open Go.RowKit Mem FieldWalks Tab ByTab Parts
open Gf (Bytes sumTo addTo chosen left_ Fits)

set_option maxRecDepth 100000 in
set_option maxHeartbeats 1000000 in
theorem rGather_ok (d s x n L : Nat) (pieces : List ByteArray) (lost : List Int) (pv lv : Value) (w : World) (hp : StrsAt w pv pieces) (hl : IsC w lv lost) (hd : 1 ≤ d) (hd2 : d ≤ 10) (hs : s ≤ 6) (hx : x ≤ 2) (hn : n ≤ 400) (hL : L = (n + d - 1) / d) (hsz : ∀ p, (h : p < pieces.length) → pieces[p].size < 2 ^ 62)
    (hyes : ShapeOk d s L pieces lost) (hfew : lost.length ≤ s) :
    Calls Tryd.prog 58 #[.int .i64 d, .int .i64 s, .int .i64 x, .int .i64 n, pv, lv] w fun e w' => ∃ v ps, e = .returned (.tuple #[.string (mkS (ps.flatten.take n)), v, .int .i64 0]) ∧
      Fits d L (chosen (left_ lost) d s) (fun p => nums (pieces.getD p ByteArray.empty)) ps ∧ StrsNew w' w.heap.size v (texts ps (sums (facs d s) ps L)) ∧ Below w.heap.size w w' := by
  have hok : okCounts d s = true := okCounts_yes _ _ (by omega)
  have how : okWay x = true := okWay_yes _ (by omega)
  have e1 : decide ((n : Int) < 0) = false := decide_eq_false (by omega)
  have e2 : decide ((400 : Int) < (n : Int)) = false := decide_eq_false (by omega)
  have e3 : decide ((s : Int) < (lost.length : Int)) = false := decide_eq_false (by omega)
  have hLs : L ≤ 400 := by have := ceil_le n d hd; omega
  have hnL : n ≤ d * L := by rw [hL]; exact ceil_mul n d (by omega)
  have HSH : Hid (∀ w', Drew w w' → Calls Tryd.prog 80 #[.int .i64 d, .int .i64 s, .int .i64 n, pv, lv] w' fun e w'' => e = .returned (.bool true) ∧ Drew w w'') := by
    intro w' hw
    refine (shaped_any d s n L pieces lost pv lv w' (hp.to hw.below) (hw.isC hl) (by omega) (by have := hyes.count; omega) hd hd2 hs hn hL hsz).mono ?_
    rintro e w'' ⟨⟨b, rfl, hb⟩, ⟨m, rfl⟩⟩
    rw [hb.2 hyes]
    exact ⟨rfl, hw.more m⟩
  have HRE : Hid (∀ w', Drew w w' → Calls Tryd.prog 81 #[.int .i64 d, pv, lv] w' fun e w'' =>
      ∃ v ps, e = .returned v ∧ RowsAt w'' v ps ∧ Fits d L (chosen (left_ lost) d s) (fun p => nums (pieces.getD p ByteArray.empty)) ps ∧ Below w.heap.size w w'') := by
    intro w' hw
    refine (restored_any d s L pieces lost pv lv w' (hp.to hw.below) (hw.isC hl) hfew hyes hd hd2 hs hLs).mono ?_
    rintro e w'' ⟨v, ps, he, h1, h2, h3⟩
    exact ⟨v, ps, he, h1, h2, hw.below.trans (h3.mono hw.below.size)⟩
  obtain ⟨lao, lex, rfl, _⟩ := hl
  clear hsz hyes hp hL
  go_enter Tryd.func58, Tryd.ntmps58
  go_wp2_with fail
  refine (rCounts_any _ _ _).mono ?_
  rintro e w' ⟨rfl, rfl⟩
  go_wp2_with fail
  refine (rWay_any _ _).mono ?_
  rintro e w' ⟨rfl, rfl⟩
  go_wp2_with fail
  refine (HSH.out _ ⟨0, rfl⟩).mono ?_
  rintro e w2 ⟨rfl, hw2⟩
  go_wp2_with fail
  refine (HRE.out _ hw2).mono ?_
  rintro e w3 ⟨v, ps, rfl, hrows, hfit, hb3⟩
  have hpl := hfit.len
  obtain ⟨b, off, cap, rfl, hblt, hc⟩ := hrows.pos (by omega)
  have HRO : Hid (RowsAt w3 (.slice (some ⟨b, off, none⟩) ps.length cap) ps) := hrows
  have HFI : Hid (Fits d L (chosen (left_ lost) d s) (fun p => nums (pieces.getD p ByteArray.empty)) ps) := hfit
  have HC : Hid (∀ k, (h : k < ps.length) → ∃ u, w3.cell? ⟨b, off + k, none⟩ = some u ∧ BsAt w3 u ps[k]) := hc
  rw [hpl]
  have HPL : Hid (ps.length = d) := hpl
  clear hrows hfit hc hpl HSH HRE
  go_wp2
  go_loop [17, 18] (fun t i => ∃ j : Nat, j ≤ d ∧ i = .int .i64 j ∧ t = .string (mkS (ps.take j).flatten)) (fun _ i => d - (intOf i).toNat)
  case atStart => exact ⟨0, Nat.zero_le _, rfl, rfl⟩
  case round =>
    obtain ⟨j, hj, rfl, rfl⟩ := hrel
    by_cases hjd : j < d
    · have hjl : j < ps.length := by rw [HPL.out]; exact hjd
      obtain ⟨u, hu, hbs⟩ := HC.out j hjl
      have HBS : Hid (BsAt w3 u ps[j]) := hbs
      have HNX : Hid (mkS (ps.take j).flatten ++ mkS ps[j] = mkS (ps.take (j + 1)).flatten) := by show _ = _; rw [mkS_append, ← flatten_next ps j hjl]
      have hA : (mkS (ps.take j).flatten).size ≤ 4000 := by
        rw [mkS_size, flatten_length (ps.take j) L (fun i hi => by rw [List.getElem_take]; exact HFI.out.size i (by simp at hi; omega))]
        have h1 : (ps.take j).length ≤ 10 := by rw [List.length_take]; omega
        exact Nat.le_trans (Nat.mul_le_mul h1 hLs) (by decide)
      have hB : (mkS ps[j]).size ≤ 400 := by rw [mkS_size, HFI.out.size j hjl]; exact hLs
      clear hbs
      go_wp2_with (refine wpList_convert _ rfl 71 9 _ rfl u (.string (mkS ps[j])) rfl (conv_str _ _ _ HBS.out) ?_)
      go_round
      case rel => exact ⟨j + 1, by omega, by go_num, by rw [← HNX.out]⟩
      case measure => simp [intOf]; omega
    · obtain rfl : j = d := by omega
      have hfl : (mkS (ps.take j).flatten).size = j * L := by
        rw [List.take_of_length_le (by have := HPL.out; omega), mkS_size, flatten_length ps L HFI.out.size, HPL.out]
      obtain ⟨T, hT⟩ : ∃ T, T = mkS (ps.take j).flatten := ⟨_, rfl⟩
      rw [← hT] at hfl ⊢
      have HT : Hid (T.extract 0 n = mkS (ps.flatten.take n)) := by
        show _ = _
        rw [hT, mkS_take, show ps.take j = ps from List.take_of_length_le (by have := HPL.out; omega)]
      have hal := all_any ps L s _ w3.drew (HRO.out.to (Below.refl _ _).drew) (by have := HPL.out; omega) (by have := HPL.out; omega) (by omega) HFI.out.size HFI.out.byte (by omega)
      rw [HPL.out] at hal
      have HAL : Hid (Calls Tryd.prog 74 #[.slice (some ⟨b, off, none⟩) j cap, .int .i64 s] w3.drew fun e w' => ∃ v, e = .returned v ∧ StrsNew w' w3.heap.size v (texts ps (sums (facs j s) ps L)) ∧ Below w3.heap.size w3.drew w') := hal
      clear hal hT
      have hnT : n ≤ T.size := by omega
      have hnT2 : (n : Int) ≤ (T.size : Int) := by omega
      have hT4 : T.size ≤ 4000 := by
        rw [hfl]; exact Nat.le_trans (Nat.mul_le_mul hd2 hLs) (by decide)
      clear hfl
      go_wp2_with fail
      go_region_with (go_at_call 74; refine Calls.mono HAL.out ?_; rintro e w4 ⟨v, rfl, hst, hb4⟩)
      all_goals
        go_wp2
        go_ret3
        exact ⟨v, ps, by rw [← HT.out]; rfl, HFI.out, hst.low hb3.size, hb3.drew.trans (hb4.mono hb3.size)⟩
end Go.Proofs.YtmlnejlhgbonpaaDoor.Ref
