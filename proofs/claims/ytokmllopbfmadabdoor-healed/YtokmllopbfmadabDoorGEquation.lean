import Derived.Test.YtokmllopbfmadabDoorGEqMem
import Derived.Test.YtokmllopbfmadabDoorGPkHead
import Derived.Test.YtokmllopbfmadabDoorGSolve
namespace Go.Proofs.YtokmllopbfmadabDoor.Ref
open Go.RowKit Mem FieldWalks Tab ByTab Parts
open Gf (Bytes sumTo addTo rowOf)
open Plans (But intsV infoInt rowF rowF_length)

/-- Behind a step that writes new blocks alone. -/
theorem but_low {S : Nat} {w w' w'' : World} (h : But S w w') (hb : Below w.heap.size w' w'') : But S w w'' :=
  ⟨hb.os.trans h.os, hb.tape.trans h.tape, hb.output.trans h.output, Nat.le_trans h.size hb.size, fun b h1 h2 => (hb.block b h2).trans (h.rest b h1 h2)⟩
def eqF (d p : Nat) : List Nat := rowF d (rowOf d p)
theorem eqF_length (d p : Nat) : (eqF d p).length = d := rowF_length _ _
theorem eqF_next {w : World} {B d p j : Nat} (h : Blk w B 3 (intsV (mix (eqF d p) (List.replicate d 0) j))) (hj : j < d) :
    w.cell? ⟨B, j, none⟩ = some (.int .i64 0) ∧ w.frozen? ⟨B, j, none⟩ = false ∧ Blk (w.setCell ⟨B, j, none⟩ (.int .i64 (rowOf d p j : Nat))) B 3 (intsV (mix (eqF d p) (List.replicate d 0) (j + 1))) := by
  have hle : (eqF d p).length = (List.replicate d 0).length := by simp [eqF]
  refine ⟨h.cell_some ?_, h.free j, (h.set j _).eq ?_⟩
  · have := mix_at (new := eqF d p) (old := List.replicate d 0) (k := j) hle (by simpa using hj)
    simp [intsV, this]
  · have := mix_set (new := eqF d p) (old := List.replicate d 0) (k := j) hle (by simpa using hj)
    rw [← this]
    simp [intsV, List.map_set, eqF, rowF]
theorem eqF_skip {w : World} {B d p j : Nat} (h : Blk w B 3 (intsV (mix (eqF d p) (List.replicate d 0) j))) (hj : j < d) (h0 : rowOf d p j = 0) : Blk w B 3 (intsV (mix (eqF d p) (List.replicate d 0) (j + 1))) := by
  refine h.eq ?_
  have hle : (eqF d p).length = (List.replicate d 0).length := by simp [eqF]
  have e := mix_set (new := eqF d p) (old := List.replicate d 0) (k := j) hle (by simpa using hj)
  rw [← e]
  congr 1
  apply List.ext_getElem?
  intro i
  by_cases hi : j = i
  · subst hi
    have hl : j < (mix (eqF d p) (List.replicate d 0) j).length := by rw [mix_length hle]; simpa using hj
    rw [mix_at hle (by simpa using hj), List.getElem?_set_self hl]
    simp [eqF, rowF, h0]
  · rw [List.getElem?_set_ne hi]

end Go.Proofs.YtokmllopbfmadabDoor.Ref

/- Rows of a call's own, two of them that grow in turn. -/
namespace Go.Proofs.YtokmllopbfmadabDoor.Ref
open Go.RowKit Mem FieldWalks Tab ByTab Parts
open Plans (But intsV infoInt)

theorem step_append_g {P : Program} {w : World} {ops : Array Oper} {o : Oper} {a : Act} {K : Act → World → Prop} {Q : Exit → Act → World → Prop} {E : Prop}
    (hgd : o.guard = none) (s x : Operand) (t : TypeId) (hop : o.op = Op.call { callee := Callee.builtin Builtin.append, args := #[s, x], argTypes := #[t, t] })
    (base : Nat) (e : TypeId) (z : Value) (bytes : Nat) (ht : P.underlying t = some (.slice e)) (hinfo : (P.info? e).map (fun i => (i.zero, i.size, i.bytes)) = some (some z, 1, bytes)) (hz : z.cells.size = 1) (hby : bytes ≤ 1000)
    (v : Value) (n : Nat) (xs : List Value) (hs : a.eval s = v) (hown : w.ownsRow base e 1 v n xs) (ad : Addr) (c : Nat) (u : Value) (hx : a.eval x = .slice (some ad) 1 c) (hu : w.cell? ad = some u) (h1 : u.oneCell' = true) (hn : n ≤ 100000) (hbase : base ≤ w.heap.size)
    (hK : ∀ v' w', w'.ownsRow base e 1 v' (n + 1) (xs ++ [u]) → w.grownBy w' v.ownBlock → K (a.put o.dst v') w') :
    if Region.wanted o (yielded ops a.tmps) = true then Oper.wp P o a w K Q else E := by
  have hw : Region.wanted o (yielded ops a.tmps) = true := by simp [Region.wanted, hgd]
  rw [if_pos hw]
  obtain ⟨i0, hi, hz0, hz1, hz2⟩ := info_parts hinfo
  have b2 : (n + 1) * bytes ≤ 140737488355328 := by
    have : (n + 1) * bytes ≤ 100001 * 1000 := Nat.mul_le_mul (by omega) hby
    omega
  have hu' : ∀ (j : Nat) (y : Value), [u][j]? = some y → w.cell? (ad.add j) = some y := by
    intro j y hj
    match j with
    | 0 =>
      simp at hj; subst hj
      rw [show ad.add 0 = ad from rfl]; exact hu
    | j + 1 => simp at hj
  obtain ⟨v', w', hrun, ho, hg, _⟩ := run_append_own (P := P) w base t o.type e i0 z 1 bytes ht hi hz0 hz1 hz2 hz (by decide) v n xs hown ad 1 c [u] rfl hu' (by simpa using h1) (by unfold maxLen; omega) b2 hbase
  unfold Oper.wp
  simp [execOp, hop, resolve, invoke, builtin, hs, hx, hrun, Result.andThen]
  exact hK v' w' ho hg
/-- A row of another type stays while one grows. -/
theorem owns_grown {w w' : World} {base base2 size size2 n n2 : Nat} {e e2 : TypeId} {v v2 : Value} {xs xs2 : List Value} (h : w.ownsRow base e size v n xs) (hg : w.grownBy w' v.ownBlock) (h2 : w.ownsRow base2 e2 size2 v2 n2 xs2) (ht : e2 ≠ e) : w'.ownsRow base2 e2 size2 v2 n2 xs2 := by
  obtain ⟨a1, a2⟩ := h2
  refine ⟨a1, ?_⟩
  rcases a2 with a2 | ⟨g, cap, cur, hv, hgb, hh, r⟩
  · exact Or.inl a2
  · have hb : Blk w g e2 cur.toList := by unfold Blk; rw [hh]
    have := Plans.grown_keeps h hg hb ht
    unfold Blk at this
    exact Or.inr ⟨g, cap, cur, hv, hgb, this, r⟩
theorem owns_less {w : World} {base base' size n : Nat} {e : TypeId} {v : Value} {xs : List Value} (h : w.ownsRow base e size v n xs) (hb : base' ≤ base) : w.ownsRow base' e size v n xs := by
  obtain ⟨a1, a2⟩ := h
  refine ⟨a1, ?_⟩
  rcases a2 with a2 | ⟨g, cap, cur, hv, hgb, r⟩
  · exact Or.inl a2
  · exact Or.inr ⟨g, cap, cur, hv, Nat.le_trans hb hgb, r⟩
end Go.Proofs.YtokmllopbfmadabDoor.Ref

/- The bad frames of a pack, as the program looks for them. -/
namespace Go.Proofs.YtokmllopbfmadabDoor.Pk
open Go.RowKit Go.Conc Mem FieldWalks Tab ByTab Parts Ref
open Gf (Bytes)
open Plans (But intsV infoInt)

theorem mkc (w : World) : (Instr.makeChan 76 (.int .i64 0)).run Tryd.prog w = .ok (.chan (some w.heap.size)) (w.alloc (.chan 0 #[] false 0 0 false)) := by
  have h : (Tryd.prog.info? 77).map (·.bytes) = some 0 := by kernel_rfl
  obtain ⟨i, hi, hb⟩ := Option.map_eq_some_iff.1 h
  simpa using run_makeChan (P := Tryd.prog) (w := w) Tryd.underlying76 hi .i64 0 (by omega) (by rw [hb]; omega)
theorem zeroUnit (w : World) : (zeroValue 77).run Tryd.prog w = .ok (.agg #[]) w := by kernel_rfl
theorem frame_size {p : ByteArray} (hc : cutOk p) {k : Nat} (hk : k < pD p + pS p) : 10 + (k + 1) * (pL p + 5) ≤ p.size := by
  unfold cutOk at hc
  have : (k + 1) * (pL p + 5) ≤ (pD p + pS p) * (pL p + 5) := Nat.mul_le_mul_right _ hk
  omega
theorem frameAt_size {p : ByteArray} (hc : cutOk p) {k : Nat} (hk : k < pD p + pS p) : (frameAt p k).size = pL p + 5 := by
  have h1 := frame_size hc hk
  unfold frameAt
  rw [ByteArray.size_extract, Nat.min_eq_left h1, Nat.add_mul]
  omega
theorem right_bad {p : ByteArray} (hc : cutOk p) {k : Nat} (hk : k < pD p + pS p) : rightF (p.extract 0 6) (frameAt p k) k = !badAt p k := by
  unfold rightF badAt
  rw [frameAt_size hc hk, show pL p + 5 - 4 = pL p + 1 by omega]
  by_cases h1 : byteAt (frameAt p k) 0 = k
  · by_cases h2 : (frameAt p k).extract (pL p + 1) (pL p + 5) = checkS (p.extract 0 6 ++ (frameAt p k).extract 0 (pL p + 1))
    · simp [h1, h2]
    · simp [h1, h2]
  · simp [h1]
theorem badTo_pre (p : ByteArray) (k m : Nat) (h : k ≤ m) : badTo p m = badTo p k ++ (badTo p m).drop (badTo p k).length := by
  obtain ⟨j, rfl⟩ : ∃ j, m = k + j := ⟨m - k, by omega⟩
  unfold badTo
  rw [List.range_add, List.filter_append]
  simp
theorem badTo_take (p : ByteArray) (k m t : Nat) (h : k ≤ m) (hl : (badTo p k).length = t) : (badTo p m).take t = badTo p k := by
  rw [badTo_pre p k m h, List.take_append_of_le_length (by omega), List.take_of_length_le (by omega)]
theorem intsV_snoc (l : List Nat) (k : Nat) : intsV l ++ [.int .i64 (k : Int)] = intsV (l ++ [k]) := by simp [intsV]
theorem chan_grown {w w' : World} {B : Nat} (h : Below B w w') {C : Nat} (hC : C < B) {o : Obj} (ho : w.heap[C]? = some o) : w'.heap[C]? = some o := by rw [h.block C hC]; exact ho
theorem blk_setChan {w : World} {b : Nat} {t : TypeId} {vs : List Value} (h : Blk w b t vs) (C : Nat) (hne : b ≠ C) (cap : Nat) (buf : Array Value) (cl : Bool) (s r : Nat) (tm : Bool) : Blk (w.setChan C cap buf cl s r tm) b t vs := by
  unfold Blk at *
  simp only [World.setChan]
  rw [Array.getElem?_setIfInBounds_ne (by omega)]; exact h
theorem owns_setChan {w : World} {base size n : Nat} {e : TypeId} {v : Value} {xs : List Value} (h : w.ownsRow base e size v n xs) (C : Nat) (hC : C < base) (cap : Nat) (buf : Array Value) (cl : Bool) (s r : Nat) (tm : Bool) : (w.setChan C cap buf cl s r tm).ownsRow base e size v n xs := by
  obtain ⟨a1, a2⟩ := h
  refine ⟨a1, ?_⟩
  rcases a2 with a2 | ⟨g, cp, cur, hv, hgb, hh, rr⟩
  · exact Or.inl a2
  · refine Or.inr ⟨g, cp, cur, hv, hgb, ?_, rr⟩
    simp only [World.setChan]
    rw [Array.getElem?_setIfInBounds_ne (by omega)]; exact hh
set_option maxRecDepth 100000 in
set_option maxHeartbeats 2000000 in
theorem bad_any (p : ByteArray) (hp : p.size < 4611686018427387904) (h : headOk p) (hc : cutOk p) (most : Nat) (hm : most ≤ 1000) (w : World) :
    Calls Tryd.prog 20 #[headV (pD p) (pS p) (pN p), .string p, .int .i64 most] w fun e w' => ∃ v, e = .returned v ∧ w'.ownsRow w.heap.size 3 1 v ((openBad p).take (most + 1)).length (intsV ((openBad p).take (most + 1))) ∧ Below w.heap.size w w' := by
  have hD := h.2.2.2.1
  have hN := h.2.2.2.2.1
  have hp10 := h.1
  obtain ⟨bb, hbb⟩ : ∃ bb, bb = p.extract 0 6 := ⟨_, rfl⟩
  have hbz : bb.size = 6 := by rw [hbb, ByteArray.size_extract]; omega
  have hLs : pL p ≤ 409 := by unfold pL; exact Nat.le_trans (Nat.div_le_self _ _) (by omega)
  have HFA : Hid (∀ k, k < pD p + pS p → ∀ W, Calls Tryd.prog 35 #[.agg #[.int .i64 (pD p), .int .i64 (pS p), .int .i64 (pN p)], .string p, .int .i64 k] W fun e w' => e = .returned (.string (frameAt p k)) ∧ Below W.heap.size W w') := fun k hk W =>
    frameAt_any (pD p) (pS p) (pN p) (pL p) k p (by omega) (by omega) (by omega) rfl (by omega) hp (frame_size hc hk) W
  have HIR : Hid (∀ k, k < pD p + pS p → ∀ W, Calls Tryd.prog 34 #[.string bb, .string (frameAt p k), .int .i64 k] W fun e w' => e = .returned (.bool (!badAt p k)) ∧ Below W.heap.size W w') := fun k hk W => by
    rw [← right_bad hc hk, ← hbb]
    have := frameAt_size hc hk
    exact isRight_any bb (frameAt p k) k (by omega) (by omega) (by omega) W
  have HCO : Hid (∀ W, Calls Tryd.prog 33 #[.agg #[.int .i64 (pD p), .int .i64 (pS p), .int .i64 (pN p)]] W fun e w' => e = .returned (.int .i64 ((pD p : Int) + (pS p : Int))) ∧ Below W.heap.size W w') := fun W => count_any (pD p) (pS p) (pN p) (by omega) (by omega) W
  have s2 : ∀ W : World, (Instr.slice 9 (.string p) none (some (.int .i64 6)) none).run Tryd.prog W = .ok (.string bb) W := fun W => by rw [hbb]; exact slice_str_to p 6 (by omega) 6 rfl W
  have HOB : Hid (openBad p = badTo p (pD p + pS p)) := rfl
  generalize pD p = D at HFA HIR HCO HOB hD ⊢
  generalize pS p = S at HFA HIR HCO HOB hD ⊢
  generalize pN p = N at HFA HIR HCO hN ⊢
  clear h hc hbb hLs
  have hmk := mkc
  unfold headV
  go_enter Tryd.func20, Tryd.ntmps20
  go_wp2_with fail
  refine Calls.mono (HCO.out _) ?_
  rintro e w3 ⟨rfl, hb3⟩
  have kH : Blk w3 w.heap.size 37 [.int .i64 D, .int .i64 S, .int .i64 N] := ((Blk.new w #[.int .i64 D, .int .i64 S, .int .i64 N] 37).alloc (.chan 0 #[] false 0 0 false)).to hb3
  have kC : w3.heap[w.heap.size + 1]? = some (.chan 0 #[] false 0 0 false) := by
    rw [hb3.block (w.heap.size + 1) (by simp)]
    have := heap_alloc_new (w.alloc (.cells #[.int .i64 D, .int .i64 S, .int .i64 N] 37)) (.chan 0 #[] false 0 0 false)
    rwa [show (w.alloc (.cells #[.int .i64 D, .int .i64 S, .int .i64 N] 37)).heap.size = w.heap.size + 1 by simp] at this
  have kB : Below w.heap.size w w3 := (((Below.refl w.heap.size w).alloc (Nat.le_refl _) (.cells #[.int .i64 D, .int .i64 S, .int .i64 N] 37)).alloc (by simp) (.chan 0 #[] false 0 0 false)).trans (hb3.mono (by simp; omega))
  have kz : w.heap.size + 1 < w3.heap.size := lt_of_block kC
  clear hb3 HCO
  obtain ⟨H, hHe⟩ : ∃ H, H = w.heap.size := ⟨_, rfl⟩
  obtain ⟨B, hB⟩ : ∃ B, B = w3.heap.size := ⟨_, rfl⟩
  obtain ⟨C, hCe⟩ : ∃ C, C = H + 1 := ⟨_, rfl⟩
  have HHE : Hid (H = w.heap.size) := hHe
  have HB : Hid (B = w3.heap.size) := hB
  rw [← hHe] at kH kC kB kz ⊢
  rw [← hCe] at kC kz ⊢
  rw [← hB] at kz
  have hHC : H ≠ C := by omega
  have hHC2 : H < B := by omega
  have hHC3 : H ≤ C := by omega
  clear hB hHe hCe
  go_wp2
  go_loopw [7, 13] (fun v i wr => ∃ (k : Nat) (l : List Nat), k ≤ D + S ∧ i = .int .i64 k ∧ l = badTo p k ∧ l.length ≤ most + 1 ∧ wr.ownsRow B 3 1 v l.length (intsV l) ∧ wr.heap[C]? = some (.chan 0 #[] (decide (l.length = most + 1)) 0 0 false) ∧ Blk wr H 37 [.int .i64 D, .int .i64 S, .int .i64 N] ∧ Below H w wr ∧ B ≤ wr.heap.size) (fun _ i _ => D + S - (intOf i).toNat)
  case atStart => exact ⟨0, [], Nat.zero_le _, rfl, rfl, Nat.zero_le _, World.ownsRow_nil _ _ _ _, by simpa using kC, kH, kB, by rw [HB.out]; exact Nat.le_refl _⟩
  case round =>
    clear kH kC kB
    obtain ⟨k, l, hk, rfl, hl, hlen, hown, hch, hH, hbel, hBs⟩ := hrel
    obtain ⟨va, vc, rfl⟩ := owns_slice hown
    have HL : Hid (l = badTo p k) := hl
    have HOWN : Hid (wr.ownsRow B 3 1 (.slice va l.length vc) l.length (intsV l)) := hown
    have HBEL : Hid (Below H w wr) := hbel
    have HHH : Hid (Blk wr H 37 [.int .i64 D, .int .i64 S, .int .i64 N]) := hH
    clear hl hown hbel hH
    by_cases hlt : k < D + S
    · have hki : decide ((k : Int) < (D : Int) + (S : Int)) = true := decide_eq_true (by omega)
      cases hcl : decide (l.length = most + 1)
      · rw [hcl] at hch
        have hlen2 : l.length ≠ most + 1 := of_decide_eq_false hcl
        clear hcl
        repeat (first | ((with_reducible apply wp_select); (case hop => rfl); (case hg => rfl); (case hx => rfl); (case hz => exact zeroUnit _); (case hc => exact hch)) | go_values | go_skip | go_guarded | go_step | go_upon | go_back)
        have c0 := HHH.out.drew.cell_some (k := 0) rfl
        have c1 := HHH.out.drew.cell_some (k := 1) rfl
        have c2 := HHH.out.drew.cell_some (k := 2) rfl
        have hwlt : H < wr.heap.size := HHH.out.lt
        have HF1 : Hid _ := HFA.out k hlt
        have HI1 : Hid _ := HIR.out k hlt
        go_region_held3 (fun wx => wx.cell? ⟨H, 0, none⟩ = some (.int .i64 (D : Int)) ∧ wx.cell? ⟨H, 1, none⟩ = some (.int .i64 (S : Int)) ∧ wx.cell? ⟨H, 2, none⟩ = some (.int .i64 (N : Int))) (go_keep) (first | (go_at_call 35; refine Calls.mono (HF1.out _) ?_; rintro e w4 ⟨rfl, hb4⟩; have o0 := (hb4.cell (p := ⟨H, 0, none⟩) hwlt).trans c0; have o1 := (hb4.cell (p := ⟨H, 1, none⟩) hwlt).trans c1; have o2 := (hb4.cell (p := ⟨H, 2, none⟩) hwlt).trans c2; have hwlt2 : H < w4.heap.size := Nat.lt_of_lt_of_le hwlt hb4.size) | (go_at_call 34; refine Calls.mono (HI1.out _) ?_; rintro e w5 ⟨rfl, hb5⟩; have q0 := (hb5.cell (p := ⟨H, 0, none⟩) hwlt2).trans o0; have q1 := (hb5.cell (p := ⟨H, 1, none⟩) hwlt2).trans o1; have q2 := (hb5.cell (p := ⟨H, 2, none⟩) hwlt2).trans o2))
        have hCw : C < wr.heap.size := by omega
        have B5 : Below wr.heap.size wr w5 := ((Below.refl wr.heap.size wr).drew.trans hb4).trans (hb5.mono hb4.size)
        have ho5 := ownsRow_to HOWN.out B5
        have hc5 := chan_grown B5 hCw hch
        have hH5 := HHH.out.to B5
        have hb05 := HBEL.out.trans (B5.mono (Nat.le_of_lt hwlt))
        have hs5 : B ≤ w5.heap.size := Nat.le_trans hBs B5.size
        have HO5 : Hid (w5.ownsRow B 3 1 (.slice va l.length vc) l.length (intsV l)) := ho5
        have HC5 : Hid (w5.heap[C]? = some (.chan 0 #[] false 0 0 false)) := hc5
        have HH5 : Hid (Blk w5 H 37 [.int .i64 D, .int .i64 S, .int .i64 N]) := hH5
        have HB5 : Hid (Below H w w5) := hb05
        clear B5 ho5 hc5 hH5 hb05 hb4 hb5 c0 c1 c2 o0 o1 o2 q0 q1 q2 hwlt hwlt2 HF1 HI1 hch HOWN HBEL HHH hBs hCw
        have hll : l.length ≤ 2000 := by omega
        cases hbd : badAt p k
        · have HNX : Hid (l = badTo p (k + 1)) := by
            show _ = _
            rw [badTo_next, hbd, HL.out]; rfl
          go_wp2
          go_roundw
          case rel => exact ⟨k + 1, l, by omega, by go_num, HNX.out, hlen, HO5.out, by rw [decide_eq_false hlen2]; exact HC5.out, HH5.out, HB5.out, hs5⟩
          case measure => simp [intOf]; omega
        · have HNX : Hid (l ++ [k] = badTo p (k + 1)) := by
            show _ = _
            rw [badTo_next, hbd, HL.out]; rfl
          have hkk : k < 1000 := by omega
          cases hfull : decide (l.length = most)
          · have hfn : l.length ≠ most := of_decide_eq_false hfull
            have g1 : ((l.length : Int) == (most : Int)) = false := by simp; omega
            have g2 : ((l.length : Int) + 1 == (most : Int) + 1) = false := by simp; omega
            have g3 : (l.length == most) = false := by simp; omega
            have hn2 : l.length + 1 ≤ most + 1 := by omega
            have hn3 : ¬ (l ++ [k]).length = most + 1 := by simp; omega
            clear hlen2
            go_wp2_with (first | (at_builtin; refine wpList_append_one _ rfl _ _ 32 rfl B 3 (.int .i64 0) 8 Tryd.underlying32 infoInt rfl (by decide) _ l.length (intsV l) rfl (HO5.out.alloc _) ⟨w5.heap.size, 0, none⟩ 1 (.int .i64 k) rfl ((Blk.new w5 _ _).cell_some rfl) rfl (by omega) (by simp; omega) ?_; intro v' w6 ho6 hb6; obtain ⟨va', vc', rfl⟩ := owns_slice ho6))
            have hbB := hb6 B w5 ((Below.refl B w5).alloc hs5 _) (Nat.le_refl _)
            go_roundw
            case rel => exact ⟨k + 1, l ++ [k], by omega, by go_num, HNX.out, by rw [List.length_append]; exact hn2, by rw [← intsV_snoc, List.length_append]; exact ho6, by rw [decide_eq_false hn3]; exact chan_grown hbB kz HC5.out, HH5.out.below hbB hHC2, HB5.out.trans (hbB.mono (Nat.le_of_lt hHC2)), Nat.le_trans hs5 hbB.size⟩
            case measure => simp [intOf]; omega
          · have HFN : Hid (l.length = most) := (of_decide_eq_true hfull : l.length = most)
            have g1 : ((l.length : Int) == (most : Int)) = true := by have := HFN.out; simp; omega
            have g2 : ((l.length : Int) + 1 == (most : Int) + 1) = true := by have := HFN.out; simp; omega
            have g3 : (l.length == most) = true := by have := HFN.out; simp; omega
            clear hlen2
            go_wp2_with (first | (at_builtin; refine wpList_append_one _ rfl _ _ 32 rfl B 3 (.int .i64 0) 8 Tryd.underlying32 infoInt rfl (by decide) _ l.length (intsV l) rfl (HO5.out.alloc _) ⟨w5.heap.size, 0, none⟩ 1 (.int .i64 k) rfl ((Blk.new w5 _ _).cell_some rfl) rfl (by omega) (by simp; omega) ?_; intro v' w6 ho6 hb6; obtain ⟨va', vc', rfl⟩ := owns_slice ho6; have HCL6 : w6.heap[C]? = some (.chan 0 #[] false 0 0 false) := chan_grown (hb6 B w5 ((Below.refl B w5).alloc hs5 _) (Nat.le_refl _)) kz HC5.out; have hclo := fun ats ty => run_close_open (P := Tryd.prog) (w := w6) ats ty HCL6))
            have hbB := hb6 B w5 ((Below.refl B w5).alloc hs5 _) (Nat.le_refl _)
            have hlast : (l ++ [k]).length = most + 1 := by rw [List.length_append, HFN.out]; rfl
            have hC6 : C < w6.heap.size := lt_of_block HCL6
            go_roundw
            case rel => exact ⟨k + 1, l ++ [k], by omega, by go_num, HNX.out, by rw [hlast]; exact Nat.le_refl _, by rw [← intsV_snoc, List.length_append]; exact owns_setChan ho6 C kz 0 #[] true 0 0 false, by rw [decide_eq_true hlast]; exact heap_setChan w6 C 0 #[] true 0 0 false hC6, blk_setChan (HH5.out.below hbB hHC2) C hHC 0 #[] true 0 0 false, below_setChan (HB5.out.trans (hbB.mono (Nat.le_of_lt hHC2))) hHC3 0 #[] true 0 0 false, by rw [Array.size_setIfInBounds]; exact Nat.le_trans hs5 hbB.size⟩
            case measure => simp [intOf]; omega
      · rw [hcl] at hch
        have HLEN2 : Hid (l.length = most + 1) := (of_decide_eq_true hcl : l.length = most + 1)
        clear hcl
        repeat (first | ((with_reducible apply wp_select); (case hop => rfl); (case hg => rfl); (case hx => rfl); (case hz => exact zeroUnit _); (case hc => exact hch)) | go_values | go_skip | go_guarded | go_step | go_upon | go_back)
        go_ret
        have HT : Hid ((openBad p).take (most + 1) = l) := by
          show _ = _
          rw [HOB.out, HL.out]
          exact badTo_take p k (D + S) _ (by omega) (by rw [← HL.out]; exact HLEN2.out)
        exact ⟨_, rfl, by rw [HT.out, ← HHE.out]; exact owns_less HOWN.out (by omega), by rw [← HHE.out]; exact HBEL.out⟩
    · obtain rfl : k = D + S := by omega
      go_wp2
      go_ret
      have HT : Hid ((openBad p).take (most + 1) = l) := by
        show _ = _
        rw [HOB.out, ← HL.out]
        exact List.take_of_length_le hlen
      exact ⟨_, rfl, by rw [HT.out, ← HHE.out]; exact owns_less HOWN.out (by omega), by rw [← HHE.out]; exact HBEL.out⟩
end Go.Proofs.YtokmllopbfmadabDoor.Pk
