import Derived.Test.YtokmllopbfmadaaDoorGPkHead
import Derived.Test.YtokmllopbfmadaaDoorGPkSel
import Derived.Test.YtokmllopbfmadaaDoorGPkHead2
import Derived.Shelf.Strconv.Clone
import Derived.Test.YtokmllopbfmadaaDoorGRefAll
/- The bad frames of a pack, as the program looks for them. -/
namespace Go.Proofs.YtokmllopbfmadaaDoor.Pk
open Go.RowKit Go.Conc Mem FieldWalks Tab ByTab Parts Ref
open Gf (Bytes)
open Plans (But intsV infoInt)

theorem mkc (w : World) : (Instr.makeChan 176 (.int .i64 0)).run Tryd.prog w = .ok (.chan (some w.heap.size)) (w.alloc (.chan 0 #[] false 0 0 false)) := by
  have h : (Tryd.prog.info? 177).map (·.bytes) = some 0 := by kernel_rfl
  obtain ⟨i, hi, hb⟩ := Option.map_eq_some_iff.1 h
  simpa using run_makeChan (P := Tryd.prog) (w := w) Tryd.underlying176 hi .i64 0 (by omega) (by rw [hb]; omega)
theorem zeroUnit (w : World) : (zeroValue 177).run Tryd.prog w = .ok (.agg #[]) w := by kernel_rfl
theorem frame_size {p : ByteArray} (hc : cutOk p) {k : Nat} (hk : k < pD p + pS p) : 10 + (k + 1) * (pL p + 5) ≤ p.size := by
  unfold cutOk at hc
  have : (k + 1) * (pL p + 5) ≤ (pD p + pS p) * (pL p + 5) := Nat.mul_le_mul_right _ hk
  omega
theorem frameAt_size {p : ByteArray} (hc : cutOk p) {k : Nat} (hk : k < pD p + pS p) : (frameAt p k).size = pL p + 5 := by
  have h1 := frame_size hc hk
  unfold frameAt
  rw [ByteArray.size_extract, Nat.min_eq_left h1, Nat.add_mul]
  omega
theorem right_bad {p : ByteArray} (hc : cutOk p) {k : Nat} (hk : k < pD p + pS p) : rightF (p.extract 0 6) (frameAt p k) k = !badAt p k := by
  unfold rightF badAt
  rw [frameAt_size hc hk, show pL p + 5 - 4 = pL p + 1 by omega]
  by_cases h1 : byteAt (frameAt p k) 0 = k
  · by_cases h2 : (frameAt p k).extract (pL p + 1) (pL p + 5) = checkS (p.extract 0 6 ++ (frameAt p k).extract 0 (pL p + 1))
    · simp [h1, h2]
    · simp [h1, h2]
  · simp [h1]
theorem badTo_pre (p : ByteArray) (k m : Nat) (h : k ≤ m) : badTo p m = badTo p k ++ (badTo p m).drop (badTo p k).length := by
  obtain ⟨j, rfl⟩ : ∃ j, m = k + j := ⟨m - k, by omega⟩
  unfold badTo
  rw [List.range_add, List.filter_append]
  simp
theorem badTo_take (p : ByteArray) (k m t : Nat) (h : k ≤ m) (hl : (badTo p k).length = t) : (badTo p m).take t = badTo p k := by
  rw [badTo_pre p k m h, List.take_append_of_le_length (by omega), List.take_of_length_le (by omega)]
theorem intsV_snoc (l : List Nat) (k : Nat) : intsV l ++ [.int .i64 (k : Int)] = intsV (l ++ [k]) := by simp [intsV]
theorem chan_grown {w w' : World} {B : Nat} (h : Below B w w') {C : Nat} (hC : C < B) {o : Obj} (ho : w.heap[C]? = some o) : w'.heap[C]? = some o := by rw [h.block C hC]; exact ho
theorem blk_setChan {w : World} {b : Nat} {t : TypeId} {vs : List Value} (h : Blk w b t vs) (C : Nat) (hne : b ≠ C) (cap : Nat) (buf : Array Value) (cl : Bool) (s r : Nat) (tm : Bool) : Blk (w.setChan C cap buf cl s r tm) b t vs := by
  unfold Blk at *
  simp only [World.setChan]
  rw [Array.getElem?_setIfInBounds_ne (by omega)]; exact h
theorem owns_setChan {w : World} {base size n : Nat} {e : TypeId} {v : Value} {xs : List Value} (h : w.ownsRow base e size v n xs) (C : Nat) (hC : C < base) (cap : Nat) (buf : Array Value) (cl : Bool) (s r : Nat) (tm : Bool) : (w.setChan C cap buf cl s r tm).ownsRow base e size v n xs := by
  obtain ⟨a1, a2⟩ := h
  refine ⟨a1, ?_⟩
  rcases a2 with a2 | ⟨g, cp, cur, hv, hgb, hh, rr⟩
  · exact Or.inl a2
  · refine Or.inr ⟨g, cp, cur, hv, hgb, ?_, rr⟩
    simp only [World.setChan]
    rw [Array.getElem?_setIfInBounds_ne (by omega)]; exact hh
set_option maxRecDepth 100000 in
set_option maxHeartbeats 2000000 in
theorem bad_any (p : ByteArray) (hp : p.size < 4611686018427387904) (h : headOk p) (hc : cutOk p) (most : Nat) (hm : most ≤ 1000) (w : World) :
    Calls Tryd.prog 104 #[headV (pD p) (pS p) (pN p), .string p, .int .i64 most] w fun e w' => ∃ v, e = .returned v ∧ w'.ownsRow w.heap.size 3 1 v ((openBad p).take (most + 1)).length (intsV ((openBad p).take (most + 1))) ∧ Below w.heap.size w w' := by
  have hD := h.2.2.2.1
  have hN := h.2.2.2.2.1
  have hp10 := h.1
  obtain ⟨bb, hbb⟩ : ∃ bb, bb = p.extract 0 6 := ⟨_, rfl⟩
  have hbz : bb.size = 6 := by rw [hbb, ByteArray.size_extract]; omega
  have hLs : pL p ≤ 409 := by unfold pL; exact Nat.le_trans (Nat.div_le_self _ _) (by omega)
  have HFA : Hid (∀ k, k < pD p + pS p → ∀ W, Calls Tryd.prog 129 #[.agg #[.int .i64 (pD p), .int .i64 (pS p), .int .i64 (pN p)], .string p, .int .i64 k] W fun e w' => e = .returned (.string (frameAt p k)) ∧ Below W.heap.size W w') := fun k hk W =>
    frameAt_any (pD p) (pS p) (pN p) (pL p) k p (by omega) (by omega) (by omega) rfl (by omega) hp (frame_size hc hk) W
  have HIR : Hid (∀ k, k < pD p + pS p → ∀ W, Calls Tryd.prog 128 #[.string bb, .string (frameAt p k), .int .i64 k] W fun e w' => e = .returned (.bool (!badAt p k)) ∧ Below W.heap.size W w') := fun k hk W => by
    rw [← right_bad hc hk, ← hbb]
    have := frameAt_size hc hk
    exact isRight_any bb (frameAt p k) k (by omega) (by omega) (by omega) W
  have HCO : Hid (∀ W, Calls Tryd.prog 127 #[.agg #[.int .i64 (pD p), .int .i64 (pS p), .int .i64 (pN p)]] W fun e w' => e = .returned (.int .i64 ((pD p : Int) + (pS p : Int))) ∧ Below W.heap.size W w') := fun W => count_any (pD p) (pS p) (pN p) (by omega) (by omega) W
  have s2 : ∀ W : World, (Instr.slice 9 (.string p) none (some (.int .i64 6)) none).run Tryd.prog W = .ok (.string bb) W := fun W => by rw [hbb]; exact slice_str_to p 6 (by omega) 6 rfl W
  have HOB : Hid (openBad p = badTo p (pD p + pS p)) := rfl
  generalize pD p = D at HFA HIR HCO HOB hD ⊢
  generalize pS p = S at HFA HIR HCO HOB hD ⊢
  generalize pN p = N at HFA HIR HCO hN ⊢
  clear h hc hbb hLs
  have hmk := mkc
  unfold headV
  go_enter Tryd.func104, Tryd.ntmps104
  go_wp2_with fail
  refine Calls.mono (HCO.out _) ?_
  rintro e w3 ⟨rfl, hb3⟩
  have kH : Blk w3 w.heap.size 110 [.int .i64 D, .int .i64 S, .int .i64 N] := ((Blk.new w #[.int .i64 D, .int .i64 S, .int .i64 N] 110).alloc (.chan 0 #[] false 0 0 false)).to hb3
  have kC : w3.heap[w.heap.size + 1]? = some (.chan 0 #[] false 0 0 false) := by
    rw [hb3.block (w.heap.size + 1) (by simp)]
    have := heap_alloc_new (w.alloc (.cells #[.int .i64 D, .int .i64 S, .int .i64 N] 110)) (.chan 0 #[] false 0 0 false)
    rwa [show (w.alloc (.cells #[.int .i64 D, .int .i64 S, .int .i64 N] 110)).heap.size = w.heap.size + 1 by simp] at this
  have kB : Below w.heap.size w w3 := (((Below.refl w.heap.size w).alloc (Nat.le_refl _) (.cells #[.int .i64 D, .int .i64 S, .int .i64 N] 110)).alloc (by simp) (.chan 0 #[] false 0 0 false)).trans (hb3.mono (by simp; omega))
  have kz : w.heap.size + 1 < w3.heap.size := lt_of_block kC
  clear hb3 HCO
  obtain ⟨H, hHe⟩ : ∃ H, H = w.heap.size := ⟨_, rfl⟩
  obtain ⟨B, hB⟩ : ∃ B, B = w3.heap.size := ⟨_, rfl⟩
  obtain ⟨C, hCe⟩ : ∃ C, C = H + 1 := ⟨_, rfl⟩
  have HHE : Hid (H = w.heap.size) := hHe
  have HB : Hid (B = w3.heap.size) := hB
  rw [← hHe] at kH kC kB kz ⊢
  rw [← hCe] at kC kz ⊢
  rw [← hB] at kz
  have hHC : H ≠ C := by omega
  have hHC2 : H < B := by omega
  have hHC3 : H ≤ C := by omega
  clear hB hHe hCe
  go_wp2
  go_loopw [7, 13] (fun v i wr => ∃ (k : Nat) (l : List Nat), k ≤ D + S ∧ i = .int .i64 k ∧ l = badTo p k ∧ l.length ≤ most + 1 ∧ wr.ownsRow B 3 1 v l.length (intsV l) ∧ wr.heap[C]? = some (.chan 0 #[] (decide (l.length = most + 1)) 0 0 false) ∧ Blk wr H 110 [.int .i64 D, .int .i64 S, .int .i64 N] ∧ Below H w wr ∧ B ≤ wr.heap.size) (fun _ i _ => D + S - (intOf i).toNat)
  case atStart => exact ⟨0, [], Nat.zero_le _, rfl, rfl, Nat.zero_le _, World.ownsRow_nil _ _ _ _, by simpa using kC, kH, kB, by rw [HB.out]; exact Nat.le_refl _⟩
  case round =>
    clear kH kC kB
    obtain ⟨k, l, hk, rfl, hl, hlen, hown, hch, hH, hbel, hBs⟩ := hrel
    obtain ⟨va, vc, rfl⟩ := owns_slice hown
    have HL : Hid (l = badTo p k) := hl
    have HOWN : Hid (wr.ownsRow B 3 1 (.slice va l.length vc) l.length (intsV l)) := hown
    have HBEL : Hid (Below H w wr) := hbel
    have HHH : Hid (Blk wr H 110 [.int .i64 D, .int .i64 S, .int .i64 N]) := hH
    clear hl hown hbel hH
    by_cases hlt : k < D + S
    · have hki : decide ((k : Int) < (D : Int) + (S : Int)) = true := decide_eq_true (by omega)
      cases hcl : decide (l.length = most + 1)
      · rw [hcl] at hch
        have hlen2 : l.length ≠ most + 1 := of_decide_eq_false hcl
        clear hcl
        repeat (first | ((with_reducible apply wp_select); (case hop => rfl); (case hg => rfl); (case hx => rfl); (case hz => exact zeroUnit _); (case hc => exact hch)) | go_values | go_skip | go_guarded | go_step | go_upon | go_back)
        have c0 := HHH.out.drew.cell_some (k := 0) rfl
        have c1 := HHH.out.drew.cell_some (k := 1) rfl
        have c2 := HHH.out.drew.cell_some (k := 2) rfl
        have hwlt : H < wr.heap.size := HHH.out.lt
        have HF1 : Hid _ := HFA.out k hlt
        have HI1 : Hid _ := HIR.out k hlt
        go_region_held3 (fun wx => wx.cell? ⟨H, 0, none⟩ = some (.int .i64 (D : Int)) ∧ wx.cell? ⟨H, 1, none⟩ = some (.int .i64 (S : Int)) ∧ wx.cell? ⟨H, 2, none⟩ = some (.int .i64 (N : Int))) (go_keep) (first | (go_at_call 129; refine Calls.mono (HF1.out _) ?_; rintro e w4 ⟨rfl, hb4⟩; have o0 := (hb4.cell (p := ⟨H, 0, none⟩) hwlt).trans c0; have o1 := (hb4.cell (p := ⟨H, 1, none⟩) hwlt).trans c1; have o2 := (hb4.cell (p := ⟨H, 2, none⟩) hwlt).trans c2; have hwlt2 : H < w4.heap.size := Nat.lt_of_lt_of_le hwlt hb4.size) | (go_at_call 128; refine Calls.mono (HI1.out _) ?_; rintro e w5 ⟨rfl, hb5⟩; have q0 := (hb5.cell (p := ⟨H, 0, none⟩) hwlt2).trans o0; have q1 := (hb5.cell (p := ⟨H, 1, none⟩) hwlt2).trans o1; have q2 := (hb5.cell (p := ⟨H, 2, none⟩) hwlt2).trans o2))
        have hCw : C < wr.heap.size := by omega
        have B5 : Below wr.heap.size wr w5 := ((Below.refl wr.heap.size wr).drew.trans hb4).trans (hb5.mono hb4.size)
        have ho5 := ownsRow_to HOWN.out B5
        have hc5 := chan_grown B5 hCw hch
        have hH5 := HHH.out.to B5
        have hb05 := HBEL.out.trans (B5.mono (Nat.le_of_lt hwlt))
        have hs5 : B ≤ w5.heap.size := Nat.le_trans hBs B5.size
        have HO5 : Hid (w5.ownsRow B 3 1 (.slice va l.length vc) l.length (intsV l)) := ho5
        have HC5 : Hid (w5.heap[C]? = some (.chan 0 #[] false 0 0 false)) := hc5
        have HH5 : Hid (Blk w5 H 110 [.int .i64 D, .int .i64 S, .int .i64 N]) := hH5
        have HB5 : Hid (Below H w w5) := hb05
        clear B5 ho5 hc5 hH5 hb05 hb4 hb5 c0 c1 c2 o0 o1 o2 q0 q1 q2 hwlt hwlt2 HF1 HI1 hch HOWN HBEL HHH hBs hCw
        have hll : l.length ≤ 2000 := by omega
        cases hbd : badAt p k
        · have HNX : Hid (l = badTo p (k + 1)) := by
            show _ = _
            rw [badTo_next, hbd, HL.out]; rfl
          go_wp2
          go_roundw
          case rel => exact ⟨k + 1, l, by omega, by go_num, HNX.out, hlen, HO5.out, by rw [decide_eq_false hlen2]; exact HC5.out, HH5.out, HB5.out, hs5⟩
          case measure => simp [intOf]; omega
        · have HNX : Hid (l ++ [k] = badTo p (k + 1)) := by
            show _ = _
            rw [badTo_next, hbd, HL.out]; rfl
          have hkk : k < 1000 := by omega
          cases hfull : decide (l.length = most)
          · have hfn : l.length ≠ most := of_decide_eq_false hfull
            have g1 : ((l.length : Int) == (most : Int)) = false := by simp; omega
            have g2 : ((l.length : Int) + 1 == (most : Int) + 1) = false := by simp; omega
            have g3 : (l.length == most) = false := by simp; omega
            have hn2 : l.length + 1 ≤ most + 1 := by omega
            have hn3 : ¬ (l ++ [k]).length = most + 1 := by simp; omega
            clear hlen2
            go_wp2_with (first | (at_builtin; refine wpList_append_one _ rfl _ _ 45 rfl B 3 (.int .i64 0) 8 Tryd.underlying45 infoInt rfl (by decide) _ l.length (intsV l) rfl (HO5.out.alloc _) ⟨w5.heap.size, 0, none⟩ 1 (.int .i64 k) rfl ((Blk.new w5 _ _).cell_some rfl) rfl (by omega) (by simp; omega) ?_; intro v' w6 ho6 hb6; obtain ⟨va', vc', rfl⟩ := owns_slice ho6))
            have hbB := hb6 B w5 ((Below.refl B w5).alloc hs5 _) (Nat.le_refl _)
            go_roundw
            case rel => exact ⟨k + 1, l ++ [k], by omega, by go_num, HNX.out, by rw [List.length_append]; exact hn2, by rw [← intsV_snoc, List.length_append]; exact ho6, by rw [decide_eq_false hn3]; exact chan_grown hbB kz HC5.out, HH5.out.below hbB hHC2, HB5.out.trans (hbB.mono (Nat.le_of_lt hHC2)), Nat.le_trans hs5 hbB.size⟩
            case measure => simp [intOf]; omega
          · have HFN : Hid (l.length = most) := (of_decide_eq_true hfull : l.length = most)
            have g1 : ((l.length : Int) == (most : Int)) = true := by have := HFN.out; simp; omega
            have g2 : ((l.length : Int) + 1 == (most : Int) + 1) = true := by have := HFN.out; simp; omega
            have g3 : (l.length == most) = true := by have := HFN.out; simp; omega
            clear hlen2
            go_wp2_with (first | (at_builtin; refine wpList_append_one _ rfl _ _ 45 rfl B 3 (.int .i64 0) 8 Tryd.underlying45 infoInt rfl (by decide) _ l.length (intsV l) rfl (HO5.out.alloc _) ⟨w5.heap.size, 0, none⟩ 1 (.int .i64 k) rfl ((Blk.new w5 _ _).cell_some rfl) rfl (by omega) (by simp; omega) ?_; intro v' w6 ho6 hb6; obtain ⟨va', vc', rfl⟩ := owns_slice ho6; have HCL6 : w6.heap[C]? = some (.chan 0 #[] false 0 0 false) := chan_grown (hb6 B w5 ((Below.refl B w5).alloc hs5 _) (Nat.le_refl _)) kz HC5.out; have hclo := fun ats ty => run_close_open (P := Tryd.prog) (w := w6) ats ty HCL6))
            have hbB := hb6 B w5 ((Below.refl B w5).alloc hs5 _) (Nat.le_refl _)
            have hlast : (l ++ [k]).length = most + 1 := by rw [List.length_append, HFN.out]; rfl
            have hC6 : C < w6.heap.size := lt_of_block HCL6
            go_roundw
            case rel => exact ⟨k + 1, l ++ [k], by omega, by go_num, HNX.out, by rw [hlast]; exact Nat.le_refl _, by rw [← intsV_snoc, List.length_append]; exact owns_setChan ho6 C kz 0 #[] true 0 0 false, by rw [decide_eq_true hlast]; exact heap_setChan w6 C 0 #[] true 0 0 false hC6, blk_setChan (HH5.out.below hbB hHC2) C hHC 0 #[] true 0 0 false, below_setChan (HB5.out.trans (hbB.mono (Nat.le_of_lt hHC2))) hHC3 0 #[] true 0 0 false, by rw [Array.size_setIfInBounds]; exact Nat.le_trans hs5 hbB.size⟩
            case measure => simp [intOf]; omega
      · rw [hcl] at hch
        have HLEN2 : Hid (l.length = most + 1) := (of_decide_eq_true hcl : l.length = most + 1)
        clear hcl
        repeat (first | ((with_reducible apply wp_select); (case hop => rfl); (case hg => rfl); (case hx => rfl); (case hz => exact zeroUnit _); (case hc => exact hch)) | go_values | go_skip | go_guarded | go_step | go_upon | go_back)
        go_ret
        have HT : Hid ((openBad p).take (most + 1) = l) := by
          show _ = _
          rw [HOB.out, HL.out]
          exact badTo_take p k (D + S) _ (by omega) (by rw [← HL.out]; exact HLEN2.out)
        exact ⟨_, rfl, by rw [HT.out, ← HHE.out]; exact owns_less HOWN.out (by omega), by rw [← HHE.out]; exact HBEL.out⟩
    · obtain rfl : k = D + S := by omega
      go_wp2
      go_ret
      have HT : Hid ((openBad p).take (most + 1) = l) := by
        show _ = _
        rw [HOB.out, ← HL.out]
        exact List.take_of_length_le hlen
      exact ⟨_, rfl, by rw [HT.out, ← HHE.out]; exact owns_less HOWN.out (by omega), by rw [← HHE.out]; exact HBEL.out⟩
end Go.Proofs.YtokmllopbfmadaaDoor.Pk

/- The pieces of a pack as they stand in their frames. -/
namespace Go.Proofs.YtokmllopbfmadaaDoor.Pk
open Go.RowKit Mem FieldWalks Tab ByTab Parts Ref
open Gf (Bytes)

/-- The numbers of stringslite.Clone and of its types here. -/
def cren : Go.Shelf.Ren := ⟨fun _ => 143, fun t => if t = 37 then 71 else if t = 3 then 3 else if t = 4 then 4 else if t = 5 then 5 else if t = 9 then 9 else if t = 127 then 204 else 0, fun x => x⟩
theorem clays : LaysM.n316 Tryd.prog cren where
  mixed := by kernel_rfl
  f316 := by kernel_rfl
  t0 := by kernel_rfl
  a0 := fun w => by kernel_rfl
  z0 := fun w => by kernel_rfl
  v0 := fun w => by kernel_rfl
  t3 := by kernel_rfl
  a3 := fun w => by kernel_rfl
  z3 := fun w => by kernel_rfl
  v3 := fun w => by kernel_rfl
  t4 := by kernel_rfl
  a4 := fun w => by kernel_rfl
  z4 := fun w => by kernel_rfl
  v4 := fun w => by kernel_rfl
  t9 := by kernel_rfl
  a9 := fun w => by kernel_rfl
  z9 := fun w => by kernel_rfl
  v9 := fun w => by kernel_rfl
  t37 := by kernel_rfl
  a37 := fun w => by kernel_rfl
  z37 := fun w => by kernel_rfl
  v37 := fun w => by kernel_rfl
  t127 := by kernel_rfl
  a127 := fun w => by kernel_rfl
  z127 := fun w => by kernel_rfl
  v127 := fun w => by kernel_rfl
  t5 := by kernel_rfl
  a5 := fun w => by kernel_rfl
  z5 := fun w => by kernel_rfl
  v5 := fun w => by kernel_rfl
  i0 := by kernel_rfl
  i3 := by kernel_rfl
  i4 := by kernel_rfl
  i5 := by kernel_rfl
  i9 := by kernel_rfl
  i37 := by kernel_rfl
  i127 := by kernel_rfl
set_option maxRecDepth 100000 in
theorem clone_any (s : ByteArray) (hs : s.size ≤ 1000000) (w : World) :
    Calls Tryd.prog 130 #[.string s] w fun e w' => e = .returned (.string s) ∧ Below w.heap.size w w' := by
  have h : Calls Tryd.prog 143 #[.string s] w fun e w' => e = .returned (.string s) ∧ Below w.heap.size w w' := Go.Proofs.Any.stringslite_Clone (ρ := cren) clays s w (by omega)
  have H : Hid _ := h
  clear h
  go_enter Tryd.func130, Tryd.ntmps130
  go_wp2_with fail
  refine Calls.mono H.out ?_
  rintro e w' ⟨rfl, hb⟩
  go_wp2
  go_ret
  exact ⟨rfl, hb⟩
set_option maxRecDepth 100000 in
set_option maxHeartbeats 2000000 in
theorem pieces_any (p : ByteArray) (hp : p.size < 4611686018427387904) (h : headOk p) (hc : cutOk p) (w : World) :
    Calls Tryd.prog 105 #[headV (pD p) (pS p) (pN p), .string p] w fun e w' => ∃ b, w.heap.size ≤ b ∧ e = .returned (.slice (some ⟨b, 0, none⟩) (openPieces p).length (openPieces p).length) ∧ Blk w' b 9 (strV (openPieces p)) ∧ Below w.heap.size w w' := by
  have hD := h.2.2.2.1
  have hN := h.2.2.2.2.1
  have hLs : pL p ≤ 409 := by unfold pL; exact Nat.le_trans (Nat.div_le_self _ _) (by omega)
  obtain ⟨T, hT⟩ : ∃ T, T = pD p + pS p := ⟨_, rfl⟩
  have hT2 : T ≤ 16 := by omega
  have HFA : Hid (∀ k, k < T → ∀ W, Calls Tryd.prog 129 #[.agg #[.int .i64 (pD p), .int .i64 (pS p), .int .i64 (pN p)], .string p, .int .i64 k] W fun e w' => e = .returned (.string (frameAt p k)) ∧ Below W.heap.size W w') := fun k hk W =>
    frameAt_any (pD p) (pS p) (pN p) (pL p) k p (by omega) (by omega) (by omega) rfl (by omega) hp (frame_size hc (by omega)) W
  have HFS : Hid (∀ k, k < T → (frameAt p k).size = pL p + 5) := fun k hk => frameAt_size hc (by omega)
  have HCO : Hid (∀ W, Calls Tryd.prog 127 #[.agg #[.int .i64 (pD p), .int .i64 (pS p), .int .i64 (pN p)]] W fun e w' => e = .returned (.int .i64 (T : Int)) ∧ Below W.heap.size W w') := fun W => by
    rw [hT, Int.natCast_add]
    exact count_any (pD p) (pS p) (pN p) (by omega) (by omega) W
  have HOL : Hid ((openPieces p).length = T) := by show _ = _; rw [hT]; simp [openPieces, piecesTo]
  have HOG : Hid (∀ k, (h : k < (openPieces p).length) → (openPieces p)[k] = (frameAt p k).extract 1 (pL p + 1)) := fun k h => by simp [openPieces, piecesTo, pieceAt]
  have hmk := fun w => make_strN T (by omega) w
  generalize openPieces p = P at HOL HOG ⊢
  generalize pL p = L at HFS HOG hLs
  generalize pD p = D at HFA HCO ⊢
  generalize pS p = S at HFA HCO ⊢
  generalize pN p = N at HFA HCO ⊢
  clear h hc hD hN hT
  unfold headV
  go_enter Tryd.func105, Tryd.ntmps105
  go_wp2_with fail
  refine Calls.mono (HCO.out _) ?_
  rintro e w3 ⟨rfl, hb3⟩
  have kH : Blk w3 w.heap.size 110 [.int .i64 D, .int .i64 S, .int .i64 N] := (Blk.new w #[.int .i64 D, .int .i64 S, .int .i64 N] 110).to hb3
  have kB : Below w.heap.size w w3 := ((Below.refl w.heap.size w).alloc (Nat.le_refl _) (.cells #[.int .i64 D, .int .i64 S, .int .i64 N] 110)).trans (hb3.mono (by simp))
  obtain ⟨H, hHe⟩ : ∃ H, H = w.heap.size := ⟨_, rfl⟩
  have HHE : Hid (H = w.heap.size) := hHe
  rw [← hHe] at kH kB ⊢
  have hHC2 : H < w3.heap.size := kH.lt
  have hHne : H ≠ w3.heap.size := by omega
  clear hb3 HCO hHe
  go_wp2
  go_loopw [13] (fun i wr => ∃ k : Nat, k ≤ T ∧ i = .int .i64 k ∧ Blk wr w3.heap.size 9 (strV (mix P (List.replicate T ByteArray.empty) k)) ∧ Blk wr H 110 [.int .i64 D, .int .i64 S, .int .i64 N] ∧ Below H w wr) (fun i _ => T - (intOf i).toNat)
  case atStart =>
    refine ⟨0, Nat.zero_le _, rfl, (Blk.new w3 _ _).eq ?_, kH.alloc _, kB.alloc (Nat.le_of_lt hHC2) _⟩
    rw [toList_madeCells_one, mix_zero]; simp [strV]
  case round =>
    clear kH kB
    obtain ⟨k, hk, rfl, hblk, hH, hbel⟩ := hrel
    by_cases hlt : k < T
    · have hl1 : k < (strV (mix P (List.replicate T ByteArray.empty) k)).length := by simp [strV, mix_length, HOL.out]; omega
      have HB : Hid (Blk wr w3.heap.size 9 (strV (mix P (List.replicate T ByteArray.empty) k))) := hblk
      have HHH : Hid (Blk wr H 110 [.int .i64 D, .int .i64 S, .int .i64 N]) := hH
      have HBEL : Hid (Below H w wr) := hbel
      have c0 := hH.cell_some (k := 0) rfl
      have c1 := hH.cell_some (k := 1) rfl
      have c2 := hH.cell_some (k := 2) rfl
      have HL1 : Hid (k < (strV (mix P (List.replicate T ByteArray.empty) k)).length) := hl1
      have hHw := hH.lt
      have hBw := hblk.lt
      clear hblk hH hbel hl1
      go_wp2_with fail
      refine Calls.mono (HFA.out k hlt _) ?_
      rintro e w4 ⟨rfl, hb4⟩
      have hfs := HFS.out k hlt
      have HOK : Hid (P[k]'(by rw [HOL.out]; exact hlt) = (frameAt p k).extract 1 (L + 1)) := HOG.out k _
      generalize frameAt p k = f at hfs HOK ⊢
      have eL : (f.size : Int) - 4 = ((L + 1 : Nat) : Int) := by omega
      have sl := fun W => slice_str f 1 (L + 1) (by omega) (by omega) 1 ((L + 1 : Nat) : Int) rfl rfl W
      have hcz : (f.extract 1 (L + 1)).size ≤ 1000000 := by rw [ByteArray.size_extract]; omega
      have HCL : Hid _ := clone_any (f.extract 1 (L + 1)) hcz
      have HB4 : Hid (Below wr.heap.size wr w4) := hb4
      clear hb4 c0 c1 c2
      go_wp2_with fail
      refine Calls.mono (HCL.out _) ?_
      rintro e w5 ⟨rfl, hb5⟩
      have B5 : Below wr.heap.size wr w5 := HB4.out.trans (hb5.mono HB4.out.size)
      have HB5 : Hid (Blk w5 w3.heap.size 9 (strV (mix P (List.replicate T ByteArray.empty) k))) := HB.out.to B5
      have HH5 : Hid (Blk w5 H 110 [.int .i64 D, .int .i64 S, .int .i64 N]) := HHH.out.to B5
      have HBE5 : Hid (Below H w w5) := HBEL.out.trans (B5.mono (Nat.le_of_lt hHw))
      have hc1 := HB5.out.cell_some (List.getElem?_eq_getElem HL1.out)
      have hf1 := HB5.out.free k
      generalize (strV (mix P (List.replicate T ByteArray.empty) k))[k] = old at hc1
      clear B5 hb5
      go_wp2
      go_roundw
      case rel =>
        refine ⟨k + 1, by omega, by go_num, ?_, HH5.out.other hHne _, HBE5.out.setCell (Nat.le_of_lt hHC2) _⟩
        refine ((HB5.out.set k _)).eq ?_
        have e := strs_step P T k HOL.out (by omega)
        rw [← e, HOK.out]
      case measure => simp [intOf]; omega
    · obtain rfl : k = T := by omega
      go_wp2
      go_ret
      refine ⟨w3.heap.size, by rw [← HHE.out]; exact Nat.le_of_lt hHC2, by rw [HOL.out]; rfl, hblk.eq ?_, by rw [← HHE.out]; exact hbel⟩
      have e := mix_all (new := P) (old := List.replicate k ByteArray.empty) (by simp [HOL.out])
      simp only [List.length_replicate] at e
      rw [e]
end Go.Proofs.YtokmllopbfmadaaDoor.Pk
