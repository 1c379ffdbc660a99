import Derived.Test.YtlnpppdffhibjaaDoorStepsMem
namespace Go.Proofs.YtlnpppdffhibjaaDoor.Plans
open Go.RowKit Mem FieldWalks Tab ByTab Planes

theorem own_but {w w' : World} {S base size n : Nat} {e t : TypeId} {v : Value} {xs us : List Value} (h : w.ownsRow base e size v n xs) (hb : But S w w') (hS : Blk w S t us) (ht : e ≠ t) : w'.ownsRow base e size v n xs := by
  obtain ⟨h1, h2⟩ := h
  refine ⟨h1, ?_⟩
  rcases h2 with h2 | ⟨g, cap, cur, hv, hg, hh, r⟩
  · exact Or.inl h2
  · exact Or.inr ⟨g, cap, cur, hv, hg, by rw [hb.rest g (Blk.type_ne (w := w) (vs := cur.toList) (by unfold Blk; rw [hh]) hS ht) (lt_of_block hh)]; exact hh, r⟩
theorem ints_grown {w w' : World} {base size n : Nat} {e : TypeId} {v u : Value} {xs : List Value} {l : List Nat} (hi : IntsAt w u l) (h : w.ownsRow base e size v n xs) (hg : w.grownBy w' v.ownBlock) (ht : 3 ≠ e) : IntsAt w' u l := by
  obtain ⟨ao, cap, rfl, hx⟩ := hi
  refine ⟨ao, cap, rfl, ?_⟩
  rcases hx with hx | ⟨g, us, rfl, hb, hc⟩
  · exact .inl hx
  · exact .inr ⟨g, us, rfl, grown_keeps h hg hb ht, hc⟩
theorem IntsAt.to {w w' : World} {u : Value} {l : List Nat} (hi : IntsAt w u l) (hb : Below w.heap.size w w') : IntsAt w' u l := by
  obtain ⟨ao, cap, rfl, hx⟩ := hi
  refine ⟨ao, cap, rfl, ?_⟩
  rcases hx with hx | ⟨g, us, rfl, h, hc⟩
  · exact .inl hx
  · exact .inr ⟨g, us, rfl, h.to hb, hc⟩

set_option maxRecDepth 100000 in
set_option maxHeartbeats 1000000 in
theorem stepsOf_any (rows : List (List Nat)) (n : Nat) (rv : Value) (w : World) (ht : Table w) (hr : RowsAt w rv rows) (hlen : ∀ i, (h : i < rows.length) → rows[i].length = n) (hb : ∀ i, (h : i < rows.length) → Gf.Bytes rows[i]) (hn : n ≤ 100) (hm : rows.length ≤ 100) :
    Calls Tryd.prog 96 #[rv, .int .i64 n] w fun e w' => ∃ v, e = .returned v ∧ StepsAt w' v (stepsTo rows n rows.length) ∧ Below w.heap.size w w' := by
  obtain ⟨rao, rcap, rfl, hrc⟩ := hr
  have hmk := fun w => make_cols n (by omega) w
  have HRC : Hid (rows = [] ∨ ∃ b off, rao = some ⟨b, off, none⟩ ∧ b < w.heap.size ∧ ∀ k, (h : k < rows.length) → ∃ u, w.cell? ⟨b, off + k, none⟩ = some u ∧ BsAt w u rows[k]) := hrc
  have HLEN : Hid (∀ i, (h : i < rows.length) → rows[i].length = n) := hlen
  have HBY : Hid (∀ i, (h : i < rows.length) → Gf.Bytes rows[i]) := hb
  clear hrc hlen hb
  go_enter Tryd.func96, Tryd.ntmps96
  go_wp2
  go_loopw [5, 17] (fun t i wr => ∃ j : Nat, j ≤ rows.length ∧ i = .int .i64 j ∧ wr.ownsRow w.heap.size 96 3 t (stepsTo rows n j).length (stepCells (stepsTo rows n j)) ∧ Below w.heap.size w wr) (fun _ i _ => rows.length - (intOf i).toNat)
  case atStart => exact ⟨0, Nat.zero_le _, rfl, World.ownsRow_nil _ _ _ _, Below.refl _ _⟩
  case round =>
    obtain ⟨i, hi, rfl, hown, hbel⟩ := hrel
    by_cases hlt : i < rows.length
    · obtain ⟨b, off, rfl, hblt, hc⟩ : ∃ b off, rao = some ⟨b, off, none⟩ ∧ b < w.heap.size ∧ ∀ k, (h : k < rows.length) → ∃ u, w.cell? ⟨b, off + k, none⟩ = some u ∧ BsAt w u rows[k] := by
        rcases HRC.out with h | h
        · rw [h] at hlt; simp at hlt
        · exact h
      obtain ⟨u, hu, hbs⟩ := hc i hlt
      rw [← hbel.cell (p := ⟨b, off + i, none⟩) hblt] at hu
      have hby := HBY.out i hlt
      have hln := HLEN.out i hlt
      have HNX : Hid (stepsTo rows n (i + 1) = stepsTo rows n i ++ stepsBit rows[i] n i 8) := by show _ = _; rw [stepsTo]; simp [hlt]
      have hle := stepsTo_le rows n i
      generalize rows[i] = row at hbs hby hln HNX
      obtain ⟨ao, cap, rfl, hx⟩ := hbs
      rw [hln] at hu
      have HX : Hid (row = [] ∨ ∃ b off, ao = some ⟨b, off, none⟩ ∧ b < w.heap.size ∧ ∀ k, (h : k < row.length) → w.cell? ⟨b, off + k, none⟩ = some (.int .u8 (row[k] : Nat))) := hx
      have hle2 : (stepsTo rows n i).length ≤ 640000 := by
        have : 8 * n * 8 * i ≤ 8 * 100 * 8 * 100 := Nat.mul_le_mul (Nat.mul_le_mul (Nat.mul_le_mul_left _ hn) (Nat.le_refl _)) (by omega)
        omega
      obtain ⟨S0, hS0⟩ : ∃ S0, S0 = stepsTo rows n i := ⟨_, rfl⟩
      rw [← hS0] at hown HNX hle2
      have HBY2 : Hid (Gf.Bytes row) := hby
      obtain ⟨ta, tc, rfl⟩ := owns_form hown
      have HOWN : Hid (wr.ownsRow w.heap.size 96 3 (.slice ta S0.length tc) S0.length (stepCells S0)) := hown
      have hsz := hbel.size
      obtain ⟨wo, rfl⟩ : ∃ wo, wo = wr := ⟨_, rfl⟩
      clear hc hx hle hS0 hown hby
      go_wp2
      clear hu
      go_loopw [26] (fun jv wq => ∃ j : Nat, j ≤ n ∧ jv = .int .i64 j ∧ Blk wq wo.heap.size 143 (bytesV (colsTo row n j)) ∧ wq.ownsRow w.heap.size 96 3 (.slice ta S0.length tc) S0.length (stepCells S0) ∧ Below w.heap.size w wq) (fun jv _ => n - (intOf jv).toNat)
      case atStart => exact ⟨0, Nat.zero_le _, rfl, made_cols wo n row, HOWN.out.alloc _, hbel.alloc hsz _⟩
      case round =>
        obtain ⟨j, hj, rfl, hcol, hown, hbq⟩ := hrel
        by_cases hjlt : j < n
        · obtain ⟨rb, roff, rfl, hrlt, hrc⟩ : ∃ b off, ao = some ⟨b, off, none⟩ ∧ b < w.heap.size ∧ ∀ k, (h : k < row.length) → w.cell? ⟨b, off + k, none⟩ = some (.int .u8 (row[k] : Nat)) := by
            rcases HX.out with h | h
            · rw [h] at hln; simp at hln; omega
            · exact h
          have hrj := hrc j (by omega)
          rw [← hbq.cell (p := ⟨rb, roff + j, none⟩) hrlt] at hrj
          have hfb := HBY2.out.at j (by omega)
          have hfe : row.getD j 0 = row[j] := by simp [show j < row.length by omega]
          generalize row[j] = f at hrj hfb hfe
          have HFE : Hid (row.getD j 0 = f) := hfe
          have HCOL : Hid (Blk wr wo.heap.size 143 (bytesV (colsTo row n j))) := hcol
          clear hrc hfe hcol
          go_wp2_with fail
          refine (columns_any f hfb _ (table_to ht hbq)).mono ?_
          rintro e w1 ⟨rfl, hw1⟩
          have hcol1 := HCOL.out.to hw1
          have HTH : Hid (w1.there wo.heap.size (j * 8) (bytesV (colsOf f)).toArray.size) := by
            have := there_colsTo hcol1 hjlt
            show w1.there _ _ _
            simpa [colsOf] using this
          have HS : Hid ((Tryd.prog.info? 143).map (·.size) = some (bytesV (colsOf f)).toArray.size) := by show _ = _; rw [infoCols]; simp [colsOf]
          have HN2 : Hid (Blk (w1.setCells wo.heap.size (j * 8) (bytesV (colsOf f))) wo.heap.size 143 (bytesV (colsTo row n (j + 1)))) := by
            have := colsTo_next hcol1
            rw [HFE.out] at this; exact this
          have hbut : But wo.heap.size w1 (w1.setCells wo.heap.size (j * 8) (bytesV (colsOf f))) := but_cells _ _ _ _ _ (But.refl _ _)
          have HO2 : Hid ((w1.setCells wo.heap.size (j * 8) (bytesV (colsOf f))).ownsRow w.heap.size 96 3 (.slice ta S0.length tc) S0.length (stepCells S0)) := own_but (ownsRow_to hown hw1) hbut hcol1 (by decide)
          have HB2 : Hid (Below w.heap.size w (w1.setCells wo.heap.size (j * 8) (bytesV (colsOf f)))) := hbut.below (hbq.trans (hw1.mono hbq.size)) hsz (by have := hbq.size; have := hw1.size; omega)
          clear hbut hcol1 hown hw1 HCOL
          have H1 : Hid ((bytesV (colsOf f)).toArray.all (·.oneCell') = true) := bytesV_one _
          have hw2 : ∃ w2, w1.setCells wo.heap.size (j * 8) (bytesV (colsOf f)).toArray.toList = w2 ∧ w1.setCells wo.heap.size (j * 8) (bytesV (colsOf f)) = w2 := ⟨_, rfl, by rw [List.toList_toArray]⟩
          obtain ⟨w2, hw2, hw2'⟩ := hw2
          rw [hw2'] at HN2 HO2 HB2
          have HW2 : Hid (w1.setCells wo.heap.size (j * 8) (bytesV (colsOf f)).toArray.toList = w2) := hw2
          clear hw2 hw2'
          generalize (bytesV (colsOf f)).toArray = cs at HTH HS H1 HW2 ⊢
          go_wp2_with (refine wpList_store_mid rfl 143 (.tmp 35) (.tmp 34) rfl wo.heap.size (j * 8) cs rfl rfl HTH.out HS.out H1.out ?_; rw [HW2.out])
          go_roundw
          case rel => exact ⟨j + 1, by omega, by go_num, HN2.out, HO2.out, HB2.out⟩
          case measure => simp [intOf]; omega
        · obtain rfl : n = j := by omega
          rw [colsTo_all] at hcol
          have HO3 : Hid (wr.ownsRow w.heap.size 96 3 (.slice ta S0.length tc) (S0 ++ stepsBit row n i 0).length (stepCells (S0 ++ stepsBit row n i 0))) := by
            show wr.ownsRow _ _ _ _ _ _
            rw [stepsBit, List.append_nil]; exact hown
          have HC3 : Hid (Blk wr wo.heap.size 143 (bytesV (colsRow row n))) := hcol
          obtain ⟨wc, rfl⟩ : ∃ wc, wc = wr := ⟨_, rfl⟩
          have HBC : Hid (Below w.heap.size w wc) := hbq
          clear hown hcol hbq hmk hbel
          go_wp2
          go_loopw [5, 37] (fun t bv wq => ∃ b : Nat, b ≤ 8 ∧ bv = .int .i64 b ∧ wq.ownsRow w.heap.size 96 3 t (S0 ++ stepsBit row n i b).length (stepCells (S0 ++ stepsBit row n i b)) ∧ Blk wq wo.heap.size 143 (bytesV (colsRow row n)) ∧ Below w.heap.size w wq) (fun _ bv _ => 8 - (intOf bv).toNat)
          case atStart => exact ⟨0, Nat.zero_le _, rfl, HO3.out, HC3.out, HBC.out⟩
          case round =>
            clear HO3 HC3 HBC
            obtain ⟨b, hb, rfl, hown, hcol, hbq⟩ := hrel
            by_cases hblt : b < 8
            · have HCOL : Hid (Blk wr wo.heap.size 143 (bytesV (colsRow row n))) := hcol
              have HNB : Hid (stepsBit row n i (b + 1) = stepsBit row n i b ++ stepsIn (8 * (n + i) + b) (turnTo row b n) (turnTo row b n).length) := rfl
              have hle1 : (S0 ++ stepsBit row n i b).length ≤ 650000 := by
                have h1 := stepsBit_le row n i b
                have h2 : 8 * n * b ≤ 8 * 100 * 8 := Nat.mul_le_mul (Nat.mul_le_mul_left _ hn) (by omega)
                rw [List.length_append]; omega
              have hHS : Hid (S0 ++ stepsBit row n i (b + 1) = (S0 ++ stepsBit row n i b) ++ stepsIn (8 * (n + i) + b) (turnTo row b n) (turnTo row b n).length) := by
                show _ = _
                rw [HNB.out, List.append_assoc]
              obtain ⟨S1, hS1⟩ : ∃ S1, S1 = S0 ++ stepsBit row n i b := ⟨_, rfl⟩
              rw [← hS1] at hown hle1 hHS
              obtain ⟨sa, sc, rfl⟩ := owns_form hown
              have HOW : Hid (wr.ownsRow w.heap.size 96 3 (.slice sa S1.length sc) S1.length (stepCells S1)) := hown
              have HBQ : Hid (Below w.heap.size w wr) := hbq
              clear hcol hS1 HNB hown hbq
              go_wp2_with fail
              refine (turners_any row n b wo.heap.size _ HCOL.out HBY2.out hn hblt).mono ?_
              rintro e w2 ⟨tv, rfl, hto, hw2⟩
              have htl := turnTo_le row b n
              generalize turnTo row b n = ts at hto htl hHS
              obtain ⟨va, vc, rfl⟩ := owns_form hto
              have HI : Hid (IntsAt w2 (.slice va ts.length vc) ts) := IntsAt.of_owns hto
              have HO4 : Hid (w2.ownsRow w.heap.size 96 3 (.slice sa S1.length sc) (S1 ++ stepsIn (8 * (n + i) + b) ts 0).length (stepCells (S1 ++ stepsIn (8 * (n + i) + b) ts 0))) := by
                show w2.ownsRow _ _ _ _ _ _
                rw [show stepsIn (8 * (n + i) + b) ts 0 = [] from rfl, List.append_nil]; exact ownsRow_to HOW.out hw2
              have HC4 : Hid (Blk w2 wo.heap.size 143 (bytesV (colsRow row n))) := HCOL.out.to hw2
              have HB4 : Hid (Below w.heap.size w w2) := HBQ.out.trans (hw2.mono HBQ.out.size)
              clear hto hw2 HOW HCOL HBQ
              go_wp2
              go_loopw [5, 50] (fun t kv wq => ∃ k : Nat, k ≤ ts.length ∧ kv = .int .i64 k ∧ wq.ownsRow w.heap.size 96 3 t (S1 ++ stepsIn (8 * (n + i) + b) ts k).length (stepCells (S1 ++ stepsIn (8 * (n + i) + b) ts k)) ∧ IntsAt wq (.slice va ts.length vc) ts ∧ Blk wq wo.heap.size 143 (bytesV (colsRow row n)) ∧ Below w.heap.size w wq) (fun _ kv _ => ts.length - (intOf kv).toNat)
              case atStart => exact ⟨0, Nat.zero_le _, rfl, HO4.out, HI.out, HC4.out, HB4.out⟩
              case round =>
                clear HO4 HI HC4 HB4
                obtain ⟨k, hk, rfl, hown, hi4, hcol, hbq⟩ := hrel
                by_cases hklt : k < ts.length
                · have hi5 := hi4
                  obtain ⟨ao5, cap5, he5, hx5⟩ := hi5
                  injection he5 with he51 he52 he53
                  subst he51 he53
                  obtain ⟨g, us, rfl, hg, hus⟩ : ∃ g us, va = some ⟨g, 0, none⟩ ∧ Blk wr g 3 us ∧ ∀ k, (h : k < ts.length) → us[k]? = some (.int .i64 (ts[k] : Nat)) := by
                    rcases hx5 with h | h
                    · rw [h] at hklt; simp at hklt
                    · exact h
                  have hck := hg.cell_some (hus k hklt)
                  have HNX5 : Hid (stepsIn (8 * (n + i) + b) ts (k + 1) = stepsIn (8 * (n + i) + b) ts k ++ [⟨8 * (n + i) + b, ts[k], k == 0⟩]) := stepsIn_next _ _ _ hklt
                  generalize ts[k] = x at hck HNX5
                  have hl5 : (S1 ++ stepsIn (8 * (n + i) + b) ts k).length ≤ 660000 := by rw [List.length_append, stepsIn_length]; omega
                  have HNC : Hid (stepCells (S1 ++ stepsIn (8 * (n + i) + b) ts k) ++ [.int .i64 (8 * ((n : Int) + (i : Int)) + (b : Int)), .int .i64 (x : Int), .bool ((k : Int) == 0)] = stepCells (S1 ++ stepsIn (8 * (n + i) + b) ts (k + 1)) ∧ (S1 ++ stepsIn (8 * (n + i) + b) ts k).length + 1 = (S1 ++ stepsIn (8 * (n + i) + b) ts (k + 1)).length) := by
                    have e : ((8 * (n + i) + b : Nat) : Int) = 8 * ((n : Int) + (i : Int)) + (b : Int) := by omega
                    have e2 : ((k : Int) == 0) = (k == 0) := by cases k <;> rfl
                    rw [HNX5.out, ← List.append_assoc, stepCells_add (S1 ++ stepsIn (8 * (n + i) + b) ts k), e2]
                    refine ⟨?_, by simp [List.length_append]; omega⟩
                    rw [← e]; rfl
                  obtain ⟨S2, hS2⟩ : ∃ S2, S2 = S1 ++ stepsIn (8 * (n + i) + b) ts k := ⟨_, rfl⟩
                  rw [← hS2] at hown hl5 HNC
                  obtain ⟨S3, hS3⟩ : ∃ S3, S3 = S1 ++ stepsIn (8 * (n + i) + b) ts (k + 1) := ⟨_, rfl⟩
                  rw [← hS3] at HNC
                  have HS3 : Hid (S3 = S1 ++ stepsIn (8 * (n + i) + b) ts (k + 1)) := hS3
                  obtain ⟨ua, uc, rfl⟩ := owns_form hown
                  have HCOL : Hid (Blk wr wo.heap.size 143 (bytesV (colsRow row n))) := hcol
                  have HI5 : Hid (IntsAt wr (.slice (some ⟨g, 0, none⟩) ts.length vc) ts) := hi4
                  have hsq := hbq.size
                  clear hg hus hx5 hi4 hcol HNX5 hS2 hS3
                  go_wp2_with (at_builtin; refine wpList_append_row _ rfl _ _ 70 rfl w.heap.size 96 (.agg #[.int .i64 0, .int .i64 0, .bool false]) 3 24 Tryd.underlying70 infoStep rfl (by decide) (by decide) _ _ _ rfl (by exact hown.alloc _) ⟨wr.heap.size, 0, none⟩ 1 [.int .i64 (8 * ((n : Int) + (i : Int)) + (b : Int)), .int .i64 (x : Int), .bool ((k : Int) == 0)] rfl rfl (made_cells wr 96 _) (by simp [Value.oneCell']) (by omega) (by simp; omega) ?_; rw [HNC.out.1, HNC.out.2]; intro v' w' hown' hg hbel')
                  have hk5 := grown_keeps (w := wr.alloc (.cells [.int .i64 (8 * ((n : Int) + (i : Int)) + (b : Int)), .int .i64 (x : Int), .bool ((k : Int) == 0)].toArray 96)) (by exact hown.alloc _) hg (HCOL.out.alloc _) (by decide)
                  have HI6 : Hid (IntsAt w' (.slice (some ⟨g, 0, none⟩) ts.length vc) ts) := ints_grown (w := wr.alloc (.cells [.int .i64 (8 * ((n : Int) + (i : Int)) + (b : Int)), .int .i64 (x : Int), .bool ((k : Int) == 0)].toArray 96)) (HI5.out.to ((Below.refl _ _).alloc (Nat.le_refl _) _)) (by exact hown.alloc _) hg (by decide)
                  have HB6 : Hid (Below w.heap.size w w') := hbel' _ _ (hbq.alloc hsq _) (Nat.le_refl _)
                  have HK6 : Hid (Blk w' wo.heap.size 143 (bytesV (colsRow row n))) := hk5
                  clear hk5 hg hbel'
                  go_roundw
                  case rel => exact ⟨k + 1, by omega, by go_num, by rw [← HS3.out]; exact hown', HI6.out, HK6.out, HB6.out⟩
                  case measure => simp [intOf]; omega
                · obtain rfl : ts.length = k := by omega
                  rw [← hHS.out] at hown
                  go_wp2
                  go_roundw
                  case rel => exact ⟨b + 1, by omega, by go_num, hown, hcol, hbq⟩
                  case measure => simp [intOf]; omega
            · obtain rfl : b = 8 := by omega
              rw [← HNX.out] at hown
              go_wp2
              go_roundw
              case rel => exact ⟨i + 1, by omega, by go_num, hown, hbq⟩
              case measure => simp [intOf]; omega
    · obtain rfl : i = rows.length := by omega
      go_wp2
      go_ret
      exact ⟨_, rfl, StepsAt.of_owns hown, hbel⟩
end Go.Proofs.YtlnpppdffhibjaaDoor.Plans
