import Derived.WalkSpells
import Derived.Test.YtokmllopbfmadaaDoorGParts
import Derived.Test.YtokmllopbfmadaaDoorGNDelete3
namespace Go.Proofs.YtokmllopbfmadaaDoor.Ref
open Go.RowKit Mem FieldWalks Tab ByTab Parts
open Gf (Bytes sumTo addTo)

set_option maxRecDepth 100000 in
theorem factor_any (d i j : Nat) (hd : d ≤ 100) (hi : i ≤ 100) (hj : j < d) (w : World) :
    Calls Tryd.prog 95 #[.int .i64 d, .int .i64 i, .int .i64 j] w fun e w' => e = .returned (.int .i64 (Gf.inv ((d + i) ^^^ j) : Nat)) ∧ w' = w := by
  obtain ⟨x, hx⟩ : ∃ x, x = (d + i) ^^^ j := ⟨_, rfl⟩
  have hxb : x < 256 := by rw [hx]; exact Gf.xor_lt (by omega) (by omega)
  have hx0 : x ≠ 0 := by
    intro h0; rw [hx] at h0
    have e : (d + i) ^^^ (d + i) = (d + i) ^^^ j := by rw [Nat.xor_self, h0]
    have := congrArg ((d + i) ^^^ ·) e
    simp only [Gf.xcl] at this; omega
  have ex : bits .xor .i64 ((d : Int) + (i : Int)) (j : Int) = (x : Int) := by
    rw [show (d : Int) + (i : Int) = ((d + i : Nat) : Int) by omega, Gf.i64_xor _ _ (by omega) (by omega), ← hx]
  have H0 : Hid (x ≠ 0) := hx0
  rw [← hx]
  clear hx hx0
  go_enter Tryd.func95, Tryd.ntmps95
  go_wp2_with fail
  refine (over_any x hxb H0.out _).mono ?_
  rintro e w' ⟨rfl, rfl⟩
  go_wp2
  go_ret
  exact ⟨rfl, rfl⟩
theorem size_any (d n : Nat) (hd : 0 < d) (hd2 : d ≤ 100) (hn : n ≤ 1000) (w : World) :
    Calls Tryd.prog 84 #[.int .i64 d, .int .i64 n] w fun e w' => e = .returned (.int .i64 ((n + d - 1) / d : Nat)) ∧ w' = w := by
  go_enter Tryd.func84, Tryd.ntmps84
  go_wp2
  go_ret
  refine ⟨?_, rfl⟩
  show Ending.returned (.int .i64 (((n : Int) + d - 1) / d)) = _
  rw [ceil_cast n d hd]

/-- The slice v reads as these strings; they lie in blocks from B on. -/
def StrsNew (w : World) (B : Nat) (v : Value) (ss : List ByteArray) : Prop :=
  ∃ ao cap, v = .slice ao ss.length cap ∧ (ss = [] ∨ ∃ b off, ao = some ⟨b, off, none⟩ ∧ B ≤ b ∧ b < w.heap.size ∧ ∀ k, (h : k < ss.length) → w.cell? ⟨b, off + k, none⟩ = some (.string ss[k]))
theorem StrsNew.at {w : World} {B : Nat} {v : Value} {ss : List ByteArray} (h : StrsNew w B v ss) : StrsAt w v ss := by
  obtain ⟨ao, cap, rfl, h⟩ := h
  refine ⟨ao, cap, rfl, ?_⟩
  rcases h with h | ⟨b, off, rfl, _, h1, h2⟩
  · exact .inl h
  · exact .inr ⟨b, off, rfl, h1, h2⟩
theorem StrsNew.low {w : World} {B C : Nat} {v : Value} {ss : List ByteArray} (h : StrsNew w B v ss) (hC : C ≤ B) : StrsNew w C v ss := by
  obtain ⟨ao, cap, rfl, h⟩ := h
  refine ⟨ao, cap, rfl, ?_⟩
  rcases h with h | ⟨b, off, rfl, h0, h1, h2⟩
  · exact .inl h
  · exact .inr ⟨b, off, rfl, Nat.le_trans hC h0, h1, h2⟩
theorem StrsNew.of_owns {w : World} {base : Nat} {t : TypeId} {v : Value} {n : Nat} {ss : List ByteArray} (h : w.ownsRow base t 1 v n (ss.map Value.string)) : StrsNew w base v ss := by
  obtain ⟨hl, h2⟩ := h
  simp only [List.length_map, Nat.mul_one] at hl
  rcases h2 with ⟨rfl, h0⟩ | ⟨g, cap, cur, rfl, hg, hh, _, _, _, ht⟩
  · exact ⟨none, 0, by rw [hl, h0], .inl (List.eq_nil_of_length_eq_zero (by omega))⟩
  · refine ⟨_, cap, by rw [hl], .inr ⟨g, 0, rfl, hg, lt_of_block hh, fun k hk => ?_⟩⟩
    rw [Nat.zero_add, cell_of_row w g k cur t (0, 0) hh]
    rw [Nat.mul_one] at ht
    have : (cur.toList.take n)[k]? = some (.string ss[k]) := by rw [ht]; simp [hk]
    rw [List.getElem?_take] at this
    split at this
    · simpa using this
    · cases this
def strsTo (ls : List (List Nat)) (k : Nat) : List Value := ((ls.take k).map mkS).map Value.string
theorem strsTo_next (ls : List (List Nat)) (k : Nat) (hk : k < ls.length) : strsTo ls k ++ [.string (mkS ls[k])] = strsTo ls (k + 1) := by
  unfold strsTo
  rw [List.take_add_one, List.getElem?_eq_getElem hk, List.map_append, List.map_append]; rfl
theorem next_data (ps qs : List (List Nat)) (k : Nat) (hk : k < ps.length) : strsTo (ps ++ qs) k ++ [.string (mkS ps[k])] = strsTo (ps ++ qs) (k + 1) := by
  rw [← strsTo_next (ps ++ qs) k (by simp; omega), List.getElem_append_left hk]
theorem next_spare (ps qs : List (List Nat)) (i : Nat) (hi : i < qs.length) : strsTo (ps ++ qs) (ps.length + i) ++ [.string (mkS qs[i])] = strsTo (ps ++ qs) (ps.length + (i + 1)) := by
  rw [← Nat.add_assoc, ← strsTo_next (ps ++ qs) (ps.length + i) (by simp; omega), List.getElem_append_right (by omega)]
  simp

theorem facRow_bytes (d i : Nat) (h : d + i < 256) : Bytes (facRow d i) := by
  intro x hx
  simp only [facRow, List.mem_map, List.mem_range] at hx
  obtain ⟨j, hj, rfl⟩ := hx
  exact Gf.inv_lt _ (Gf.xor_lt h (by omega))

set_option maxRecDepth 100000 in
set_option maxHeartbeats 2000000 in
theorem all_any (ps : List (List Nat)) (L s : Nat) (pv : Value) (w : World) (hp : RowsAt w pv ps) (hne : 0 < ps.length) (hn : ps.length ≤ 100) (hs : s ≤ 100)
    (hl : ∀ j, (h : j < ps.length) → ps[j].length = L) (hb : ∀ j, (h : j < ps.length) → Bytes ps[j]) (hL : L ≤ 1000) :
    Calls Tryd.prog 85 #[pv, .int .i64 s] w fun e w' => ∃ v, e = .returned v ∧ StrsNew w' w.heap.size v (texts ps (sums (facs ps.length s) ps L)) ∧ Below w.heap.size w w' := by
  obtain ⟨pb, poff, pcap, rfl, hplt, hpc⟩ := hp.pos hne
  have HPC : Hid (∀ k, (h : k < ps.length) → ∃ u, w.cell? ⟨pb, poff + k, none⟩ = some u ∧ BsAt w u ps[k]) := hpc
  obtain ⟨qs, hqs⟩ : ∃ qs, qs = sums (facs ps.length s) ps L := ⟨_, rfl⟩
  have HQS : Hid (qs = sums (facs ps.length s) ps L) := hqs
  rw [← hqs]
  clear hpc hp hqs
  go_enter Tryd.func85, Tryd.ntmps85
  go_wp2
  go_loopw [6, 7] (fun t i wr => ∃ k : Nat, k ≤ ps.length ∧ i = .int .i64 k ∧ wr.ownsRow w.heap.size 9 1 t k (strsTo (ps ++ qs) k) ∧ Below w.heap.size w wr) (fun _ i _ => ps.length - (intOf i).toNat)
  case atStart => exact ⟨0, Nat.zero_le _, rfl, World.ownsRow_nil _ _ _ _, Below.refl _ _⟩
  case round =>
    obtain ⟨k, hk, rfl, hown, hbel⟩ := hrel
    by_cases hlt : k < ps.length
    · obtain ⟨u, hu, hbs⟩ := HPC.out k hlt
      rw [← hbel.cell (p := ⟨pb, poff + k, none⟩) hplt] at hu
      have HBS : Hid (BsAt wr u ps[k]) := hbs.to hbel
      have hsz := hbel.size
      clear hbs
      have HNX : Hid (strsTo (ps ++ qs) k ++ [.string (mkS ps[k])] = strsTo (ps ++ qs) (k + 1)) := next_data ps qs k hlt
      go_wp2_with (first | (at_builtin; refine wpList_append_one _ rfl _ _ 38 rfl w.heap.size 9 (.string ByteArray.empty) 16 Tryd.underlying38 infoStr rfl (by decide) _ k _ rfl (hown.alloc _) ⟨wr.heap.size, 0, none⟩ 1 (.string (mkS ps[k])) rfl ((Blk.new wr _ _).cell_some rfl) rfl (by omega) (by simp; omega) ?_; rw [HNX.out]; intro v' w' hown' hbel') | refine wpList_convert _ rfl 71 9 _ rfl u (.string (mkS ps[k])) rfl (conv_str _ _ _ HBS.out) ?_)
      go_roundw
      case rel => exact ⟨k + 1, by omega, by go_num, hown', hbel' _ _ (hbel.alloc hsz _) (Nat.le_refl _)⟩
      case measure => simp [intOf]; omega
    · obtain rfl : k = ps.length := by omega
      obtain ⟨wo, rfl⟩ : ∃ wo, wo = wr := ⟨_, rfl⟩
      go_wp2
      obtain ⟨u0, hu0, ao0, cap0, rfl, hx0⟩ := HPC.out 0 hne
      rw [hl 0 hne, Nat.add_zero] at hu0
      have HU0 : Hid (w.cell? ⟨pb, poff, none⟩ = some (.slice ao0 L cap0)) := hu0
      have hmk := fun w => make_bytes L (by omega) w
      clear hu0 hx0
      go_loopw [6, 8] (fun t i wr => ∃ k : Nat, k ≤ s ∧ i = .int .i64 k ∧ wr.ownsRow w.heap.size 9 1 t (ps.length + k) (strsTo (ps ++ qs) (ps.length + k)) ∧ Below w.heap.size w wr) (fun _ i _ => s - (intOf i).toNat)
      case atStart => exact ⟨0, Nat.zero_le _, rfl, hown, hbel⟩
      case round =>
        clear hown hbel
        obtain ⟨k, hk, rfl, hown, hbel⟩ := hrel
        obtain ⟨wi, rfl⟩ : ∃ wi, wi = wr := ⟨_, rfl⟩
        by_cases hlt : k < s
        · have hu0 := HU0.out
          rw [← hbel.cell (p := ⟨pb, poff, none⟩) hplt] at hu0
          have hszi := hbel.size
          go_wp2
          clear hu0
          go_loopw [10] (fun jv wq => ∃ j : Nat, j ≤ ps.length ∧ jv = .int .i64 j ∧ Blk wq wi.heap.size 5 (bytesV (sumTo (facRow ps.length k) ps L j)) ∧ Below wi.heap.size wi wq) (fun jv _ => ps.length - (intOf jv).toNat)
          case atStart => exact ⟨0, Nat.zero_le _, rfl, made_bytes wi L, (Below.refl _ _).alloc (Nat.le_refl _) _⟩
          case round =>
            obtain ⟨j, hj, rfl, hblk, hbq⟩ := hrel
            obtain ⟨wj, rfl⟩ : ∃ wj, wj = wr := ⟨_, rfl⟩
            by_cases hjlt : j < ps.length
            · go_wp2_with fail
              refine (factor_any ps.length k j hn (by omega) hjlt _).mono ?_
              rintro e w' ⟨rfl, rfl⟩
              obtain ⟨F, hF⟩ : ∃ F, F = Gf.inv ((ps.length + k) ^^^ j) := ⟨_, rfl⟩
              have hFb : F < 256 := by rw [hF]; exact Gf.inv_lt _ (Gf.xor_lt (by omega) (by omega))
              have HF : Hid (F = Gf.inv ((ps.length + k) ^^^ j)) := hF
              rw [← hF]
              clear hF
              go_wp2
              have hfr : (facRow ps.length k)[j]'(by rw [facRow_length]; exact hjlt) = F := by rw [HF.out]; simp [facRow]
              obtain ⟨u, hu, ao, cap, rfl, hx⟩ := HPC.out j hjlt
              rw [hl j hjlt] at hu
              have HU : Hid (w.cell? ⟨pb, poff + j, none⟩ = some (.slice ao L cap)) := hu
              have HX : Hid (ps[j] = [] ∨ ∃ b off, ao = some ⟨b, off, none⟩ ∧ b < w.heap.size ∧ ∀ k, (h : k < ps[j].length) → w.cell? ⟨b, off + k, none⟩ = some (.int .u8 (ps[j][k] : Nat))) := hx
              have HFR : Hid ((facRow ps.length k)[j]'(by rw [facRow_length]; exact hjlt) = F) := hfr
              clear hu hx hfr
              go_loopw [12] (fun tv wt => ∃ t : Nat, t ≤ L ∧ tv = .int .i64 t ∧ Blk wt wi.heap.size 5 (bytesV (mix (sumTo (facRow ps.length k) ps L (j + 1)) (sumTo (facRow ps.length k) ps L j) t)) ∧ Below wi.heap.size wi wt) (fun tv _ => L - (intOf tv).toNat)
              case atStart => exact ⟨0, Nat.zero_le _, rfl, by rw [mix_zero]; exact hblk, hbq⟩
              case round =>
                clear hblk hbq
                obtain ⟨t, ht, rfl, hblk, hbq⟩ := hrel
                by_cases htlt : t < L
                · have hbw : Below w.heap.size w wr := hbel.trans (hbq.mono hszi)
                  obtain ⟨o, x, b, off, rfl, ho, hxb, hcx, hcs, hset⟩ := round_facts (facRow ps.length k) ps L j t F w wr wi.heap.size ao hjlt (by rw [facRow_length]; exact Nat.le_refl _) hl (facRow_bytes _ _ (by omega)) hb HFR.out HX.out htlt hbw hblk
                  have hu := HU.out
                  rw [← hbw.cell (p := ⟨pb, poff + j, none⟩) hplt] at hu
                  have hfs := hblk.free t
                  have EV : Hid (bits .xor .i64 (o : Int) ((Gf.times F x : Nat) : Int) % 256 = bits .xor .u8 (o : Int) ((Gf.times F x : Nat) : Int)) := by
                    have hl1 := Gf.times_lt F x hFb
                    show _ = _
                    rw [Gf.i64_xor _ _ (by omega) (by omega), u8_xor_nat _ _ ho hl1]
                    rw [← IntKind.wrap_u8']; exact byte_conv _ (Gf.xor_lt ho hl1)
                  have hwx : IntKind.i64.wrap (x : Int) = x := by rw [IntKind.wrap_i64]; omega
                  have hwo : IntKind.i64.wrap (o : Int) = o := by rw [IntKind.wrap_i64]; omega
                  have HSET : Hid _ := hset
                  have HB : Hid (Blk wr wi.heap.size 5 (bytesV (mix (sumTo (facRow ps.length k) ps L (j + 1)) (sumTo (facRow ps.length k) ps L j) t))) := hblk
                  clear hset hblk
                  go_wp2_with fail
                  go_region_with (go_at_call 51; refine (times_any F x hFb hxb _).mono ?_; rintro e w2 ⟨rfl, rfl⟩)
                  all_goals
                    go_wp2
                    go_roundw
                    case rel =>
                      refine ⟨t + 1, by omega, by go_num, ?_, (hbq.setCell (Nat.le_refl _) _).drew⟩
                      refine (HB.out.set t _).drew.eq ?_
                      rw [EV.out]
                      exact HSET.out
                    case measure => simp [intOf]; omega
                · obtain rfl : t = L := by omega
                  go_wp2
                  have R : Blk wr wi.heap.size 5 (bytesV (sumTo (facRow ps.length k) ps t (j + 1))) := by
                    refine hblk.eq ?_
                    have l0 : (sumTo (facRow ps.length k) ps t j).length = t := Gf.sumTo_length _ ps t hl _ (by omega)
                    have l1 : (sumTo (facRow ps.length k) ps t (j + 1)).length = t := Gf.sumTo_length _ ps t hl _ (by omega)
                    have e := mix_all (show (sumTo (facRow ps.length k) ps t (j + 1)).length = (sumTo (facRow ps.length k) ps t j).length by omega)
                    rw [l0] at e
                    rw [e]
                  go_roundw
                  case rel => exact ⟨j + 1, by omega, by go_num, R, hbq⟩
                  case measure => simp [intOf]; omega
            · obtain rfl : j = ps.length := by omega
              have hkq : k < qs.length := by rw [HQS.out]; simp [sums, facs]; exact hlt
              have hqk : qs[k]'hkq = sumTo (facRow ps.length k) ps L ps.length := by simp [HQS.out, sums, facs]
              have HNX : Hid (strsTo (ps ++ qs) (ps.length + k) ++ [.string (mkS qs[k])] = strsTo (ps ++ qs) (ps.length + (k + 1))) := next_spare ps qs k hkq
              have hlen : (sumTo (facRow ps.length k) ps L ps.length).length = L := Gf.sumTo_length _ ps L hl _ (Nat.le_refl _)
              have HBS : Hid (BsAt wj (.slice (some ⟨wi.heap.size, 0, none⟩) L L) qs[k]) := by
                show BsAt _ _ _
                rw [hqk]
                exact BsAt.of_blk hblk _ _ hlen.symm
              have hownj := ownsRow_to hown hbq
              have hszj := hbq.size
              have hbelj : Below w.heap.size w wj := hbel.trans (hbq.mono hszi)
              clear hqk hlen hblk hown
              go_wp2_with (first | (at_builtin; refine wpList_append_one _ rfl _ _ 38 rfl w.heap.size 9 (.string ByteArray.empty) 16 Tryd.underlying38 infoStr rfl (by decide) _ (ps.length + k) _ rfl (hownj.alloc _) ⟨wj.heap.size, 0, none⟩ 1 (.string (mkS qs[k])) rfl ((Blk.new wj _ _).cell_some rfl) rfl (by omega) (by simp; omega) ?_; rw [HNX.out]; intro v' w' hown' hbel') | refine wpList_convert _ rfl 71 9 _ rfl (.slice (some ⟨wi.heap.size, 0, none⟩) L L) (.string (mkS qs[k])) rfl (conv_str _ _ _ HBS.out) ?_)
              go_roundw
              case rel => exact ⟨k + 1, by omega, by go_num, hown', hbel' _ _ (hbelj.alloc (by omega) _) (Nat.le_refl _)⟩
              case measure => simp [intOf]; omega
        · obtain rfl : k = s := by omega
          go_wp2
          go_ret
          refine ⟨_, rfl, StrsNew.of_owns (base := w.heap.size) (t := 9) (n := ps.length + k) ?_, hbel⟩
          have hq : qs.length = k := by rw [HQS.out]; simp [sums, facs]
          have e : strsTo (ps ++ qs) (ps.length + k) = (texts ps qs).map Value.string := by
            unfold strsTo texts
            rw [List.take_of_length_le (by simp; omega)]
          rw [← e]
          exact hown
end Go.Proofs.YtokmllopbfmadaaDoor.Ref

namespace Go.Proofs.YtokmllopbfmadaaDoor.Ref
open Go.RowKit Mem FieldWalks Tab ByTab Parts
open Gf (Bytes sumTo addTo)

/-- The data rows while they are being filled: the first j are whole. -/
def Data (w : World) (D d L j : Nat) (l : List Nat) : Prop :=
  ∃ us : List Value, us.length = d ∧ Blk w D 71 us ∧ (∀ k, k < j → ∃ u, us[k]? = some u ∧ w.ownsRow 0 5 1 u L (bytesV (cutAt l L k))) ∧ ∀ k, j ≤ k → k < d → us[k]? = some (.slice none 0 0)
theorem Data.start (w : World) (d L : Nat) (l : List Nat) : Data (w.alloc (.cells (madeCells #[.slice none 0 0] d) 71)) w.heap.size d L 0 l := by
  refine ⟨List.replicate d (.slice none 0 0), by simp, (Blk.new w _ _).eq (toList_madeCells_one _ d), fun k hk => by omega, fun k _ hk => by simp [hk]⟩
theorem Data.rows {w : World} {D d L : Nat} {l : List Nat} (h : Data w D d L d l) : RowsAt w (.slice (some ⟨D, 0, none⟩) d d) (cuts l d L) := by
  obtain ⟨us, hl, hB, hf, _⟩ := h
  refine ⟨_, d, by rw [show (cuts l d L).length = d by simp [cuts]], .inr ⟨D, 0, rfl, hB.lt, fun k hk => ?_⟩⟩
  simp only [cuts, List.length_map, List.length_range] at hk
  obtain ⟨u, hu, ho⟩ := hf k hk
  refine ⟨u, by rw [Nat.zero_add]; exact hB.cell_some hu, ?_⟩
  have e : (cuts l d L)[k]'(by simpa [cuts] using hk) = cutAt l L k := by simp [cuts]
  rw [e]
  refine BsAt.of_owns (base := 0) (t := 5) ?_
  rw [show (cutAt l L k).length = L by simp [cutAt]]
  exact ho
theorem Data.laid {w W : World} {D d L j : Nat} {l : List Nat} {v : Value} (h : Data w D d L j l) (hj : j < d) (hl : Laid w W D j v) (ho : W.ownsRow 0 5 1 v L (bytesV (cutAt l L j))) : Data W D d L (j + 1) l := by
  obtain ⟨us, hlen, hB, hf, hn⟩ := h
  refine ⟨us.set j v, by simpa using hlen, hl.row.trans (hB.set j v), fun k hk => ?_, fun k h1 h2 => ?_⟩
  · by_cases e : k = j
    · subst e; exact ⟨v, by simp [show k < us.length by omega], ho⟩
    · obtain ⟨u, hu, hou⟩ := hf k (by omega)
      exact ⟨u, by rw [List.getElem?_set_ne (by omega)]; exact hu, ownsRow_laid hou hl hB (by decide)⟩
  · rw [List.getElem?_set_ne (by omega)]; exact hn k (by omega) h2
theorem Data.first {w : World} {D d L j : Nat} {l : List Nat} (h : Data w D d L j l) (hj : j < d) : Laid w w D j (.slice none 0 0) := by
  obtain ⟨us, hlen, hB, hf, hn⟩ := h
  refine ⟨Nat.le_refl _, fun _ _ _ => rfl, ?_⟩
  have := hn j (Nat.le_refl _) hj
  have e : us.set j (.slice none 0 0) = us := by
    apply List.ext_getElem?
    intro k
    by_cases hk : k = j
    · subst hk; rw [this]; simp [show k < us.length by omega]
    · rw [List.getElem?_set_ne (by omega)]
  have := hB.set j (.slice none 0 0)
  rw [e] at this
  exact hB.trans this.symm
theorem Data.blk {w : World} {D d L j : Nat} {l : List Nat} (h : Data w D d L j l) : ∃ us : List Value, us.length = d ∧ Blk w D 71 us := by
  obtain ⟨us, hlen, hB, _⟩ := h; exact ⟨us, hlen, hB⟩
theorem Laid.cell' {w W : World} {D d i : Nat} {v : Value} {us : List Value} (h : Laid w W D i v) (hB : Blk w D 71 us) (hl : us.length = d) (hi : i < d) : W.cell? ⟨D, i, none⟩ = some v ∧ W.frozen? ⟨D, i, none⟩ = false := by
  have e : Blk W D 71 (us.set i v) := h.row.trans (hB.set i v)
  exact ⟨e.cell_some (by simp [show i < us.length by omega]), e.free i⟩
/-- The first t bytes of a piece. -/
def upTo (l : List Nat) (L j t : Nat) : List Value := (bytesV (cutAt l L j)).take t
theorem upTo_next (l : List Nat) (L j t : Nat) (ht : t < L) : upTo l L j t ++ [.int .u8 ((l.getD (j * L + t) 0 : Nat) : Int)] = upTo l L j (t + 1) := by
  have hlen : t < (bytesV (cutAt l L j)).length := by simp [cutAt]; exact ht
  unfold upTo
  rw [List.take_add_one, List.getElem?_eq_getElem hlen, bytesV_getElem]
  simp [cutAt]

theorem owns_slice {w : World} {base : Nat} {e : TypeId} {v : Value} {n : Nat} {xs : List Value} (h : w.ownsRow base e 1 v n xs) : ∃ ao c, v = .slice ao n c := by
  rcases h.2 with ⟨rfl, rfl⟩ | ⟨g, cap, cur, rfl, _⟩
  · exact ⟨_, _, rfl⟩
  · exact ⟨_, _, rfl⟩
theorem cuts_bytes (l : List Nat) (d L i : Nat) (hb : Bytes l) (hi : i < (cuts l d L).length) : Bytes (cuts l d L)[i] := by
  intro x hx
  simp [cuts, cutAt] at hx
  obtain ⟨t, _, rfl⟩ := hx
  exact hb.getD _
theorem nums_get (s : ByteArray) (q : Nat) (h : q < s.size) : (nums s).getD q 0 = (s[q]'h).toNat := by
  have hl : q < (nums s).length := by rw [nums_length]; exact h
  rw [List.getD_eq_getElem?_getD, List.getElem?_eq_getElem hl, Option.getD_some]
  simp only [nums, List.getElem_map, Array.getElem_toList]
  rfl

set_option maxRecDepth 100000 in
set_option maxHeartbeats 2000000 in
theorem rSpread_ok (d s x : Nat) (str : ByteArray) (L : Nat) (hd : 1 ≤ d) (hd2 : d ≤ 10) (hs : s ≤ 6) (hx : x ≤ 2) (hn : str.size ≤ 400) (hL : L = (str.size + d - 1) / d) (w : World) :
    Calls Tryd.prog 57 #[.int .i64 d, .int .i64 s, .int .i64 x, .string str] w fun e w' =>
      ∃ v, e = .returned (.tuple #[v, .int .i64 0]) ∧ StrsAt w' v (texts (cuts (nums str) d L) (sums (facs d s) (cuts (nums str) d L) L)) ∧ Below w.heap.size w w' := by
  have hok : okCounts d s = true := okCounts_yes _ _ (by omega)
  have how : okWay x = true := okWay_yes _ (by omega)
  have hLs : L ≤ 400 := by have := ceil_le str.size d hd; omega
  have hmk := fun w => make_rows d (by omega) w
  have hdec : decide ((400 : Int) < (str.size : Int)) = false := by simp; omega
  have HL : Hid (L = (str.size + d - 1) / d) := hL
  clear hL
  go_enter Tryd.func57, Tryd.ntmps57
  go_wp2_with fail
  refine (rCounts_any _ _ _).mono ?_
  rintro e w' ⟨rfl, rfl⟩
  go_wp2_with fail
  refine (rWay_any _ _).mono ?_
  rintro e w' ⟨rfl, rfl⟩
  go_wp2_with fail
  refine (size_any d str.size hd (by omega) (by omega) _).mono ?_
  rintro e w' ⟨rfl, rfl⟩
  rw [← HL.out]
  go_wp2
  go_loopw [13] (fun jv wr => ∃ j : Nat, j ≤ d ∧ jv = .int .i64 j ∧ Data wr w'.heap.size d L j (nums str) ∧ Below w'.heap.size w' wr) (fun jv _ => d - (intOf jv).toNat)
  case atStart => exact ⟨0, Nat.zero_le _, rfl, Data.start w' d L _, (Below.refl _ _).alloc (Nat.le_refl _) _⟩
  case round =>
    obtain ⟨j, hj, rfl, hdat, hbel⟩ := hrel
    obtain ⟨wi, rfl⟩ : ∃ wi, wi = wr := ⟨_, rfl⟩
    by_cases hjlt : j < d
    · obtain ⟨us, husl, husB⟩ := hdat.blk
      have hDlt := husB.lt
      have hszi := hbel.size
      have HD : Hid (Data wi w'.heap.size d L j (nums str)) := hdat
      have HFI : Hid (Laid wi wi w'.heap.size j (.slice none 0 0)) := hdat.first hjlt
      have HUB : Hid (Blk wi w'.heap.size 71 us) := husB
      obtain ⟨m, hm⟩ : ∃ m, m = j * L := ⟨_, rfl⟩
      have hm2 : m ≤ 4000 := by rw [hm]; exact Nat.mul_le_mul (by omega : j ≤ 10) hLs
      have em : (j : Int) * (L : Int) = (m : Int) := by rw [hm]; simp
      have HM : Hid (m = j * L) := hm
      clear hdat husB hm
      go_wp2
      go_loopw [14] (fun tv wq => ∃ (t : Nat) (v : Value), t ≤ L ∧ tv = .int .i64 t ∧ Laid wi wq w'.heap.size j v ∧ wq.ownsRow wi.heap.size 5 1 v t (upTo (nums str) L j t) ∧ Below w'.heap.size w' wq) (fun tv _ => L - (intOf tv).toNat)
      case atStart => exact ⟨0, _, Nat.zero_le _, rfl, HFI.out, World.ownsRow_nil _ _ _ _, hbel⟩
      case round =>
        obtain ⟨t, v, ht, rfl, hlaid, hown, hbq⟩ := hrel
        have hszq := hlaid.size
        have hDr : w'.heap.size < wr.heap.size := by omega
        have hDn : w'.heap.size ≠ wr.heap.size := by omega
        by_cases htlt : t < L
        · obtain ⟨hc1, hf1⟩ := Laid.cell' hlaid HUB.out husl hjlt
          by_cases hin : m + t < str.size
          · obtain ⟨q, hq⟩ : ∃ q, q = m + t := ⟨_, rfl⟩
            have hqs : q < str.size := by omega
            have eq : (m : Int) + (t : Int) = (q : Int) := by omega
            have hch : (nums str).getD q 0 = (str[q]'hqs).toNat := nums_get str q hqs
            have HNX : Hid (upTo (nums str) L j t ++ [.int .u8 ((str[q]'hqs).toNat : Int)] = upTo (nums str) L j (t + 1)) := by
              show _ = _
              rw [← hch, hq, HM.out]; exact upTo_next _ _ _ _ htlt
            clear hch hq hin
            have hwm : IntKind.i64.wrap (m : Int) = m := by rw [IntKind.wrap_i64]; omega
            have hwq : IntKind.i64.wrap (q : Int) = (q : Int) := by rw [IntKind.wrap_i64]; omega
            have hdq : decide ((q : Int) < (str.size : Int)) = true := by simp; omega
            go_wp2_with fail
            go_region_law (refine step_append_one rfl _ _ 71 rfl wi.heap.size 5 (.int .u8 0) 1 Tryd.underlying71 infoByte rfl (by decide) v t _ (by simp [Act.eval]) (by exact (hown.alloc _).drew) ⟨wr.heap.size, 0, none⟩ 1 (.int .u8 ((str[q]'hqs).toNat : Int)) (by simp [Act.eval]) (by exact (Blk.new wr _ _).cell_some rfl) rfl (by omega) (by simp; omega) ?_; rw [HNX.out]; intro v' w2 hown' hbel'; obtain ⟨va, vc, rfl⟩ := owns_slice hown'; have hb2 := hbel' wi.heap.size wr ((Below.refl _ _).alloc hszq _).drew (Nat.le_refl _); have c2 := (hb2.cell (p := ⟨w'.heap.size, j, none⟩) (by exact hDlt)).trans hc1; have f2 := (hb2.frozen (p := ⟨w'.heap.size, j, none⟩) (by exact hDlt)).trans hf1)
            all_goals
              go_wp2
              go_roundw
              case rel => exact ⟨t + 1, _, by omega, by go_num, hlaid.again hb2 HUB.out, ownsRow_setCell_below hown' (by exact hDlt) _, (hbq.trans (hb2.mono hszi)).setCell (Nat.le_refl _) _⟩
              case measure => simp [intOf]; omega
          · have HNX : Hid (upTo (nums str) L j t ++ [.int .u8 0] = upTo (nums str) L j (t + 1)) := by
              show _ = _
              rw [← upTo_next _ _ _ _ htlt, ← HM.out]
              rw [show (nums str).getD (m + t) 0 = 0 by simp [List.getElem?_eq_none (show (nums str).length ≤ m + t by rw [nums_length]; omega)]]
              rfl
            obtain ⟨va0, vc0, rfl⟩ := owns_slice hown
            go_wp2_with (at_builtin; refine wpList_append_one _ rfl _ _ 71 rfl wi.heap.size 5 (.int .u8 0) 1 Tryd.underlying71 infoByte rfl (by decide) _ t _ rfl (by exact hown.alloc _) ⟨wr.heap.size, 0, none⟩ 1 (.int .u8 0) rfl (by exact (Blk.new wr _ _).cell_some rfl) rfl (by omega) (by simp; omega) ?_; rw [HNX.out]; intro v' w2 hown' hbel'; obtain ⟨va, vc, rfl⟩ := owns_slice hown'; have hb2 := hbel' wi.heap.size wr ((Below.refl _ _).alloc hszq _) (Nat.le_refl _); have c2 := (hb2.cell (p := ⟨w'.heap.size, j, none⟩) (by exact hDlt)).trans hc1; have f2 := (hb2.frozen (p := ⟨w'.heap.size, j, none⟩) (by exact hDlt)).trans hf1)
            all_goals
              go_wp2
              go_roundw
              case rel => exact ⟨t + 1, _, by omega, by go_num, hlaid.again hb2 HUB.out, ownsRow_setCell_below hown' (by exact hDlt) _, (hbq.trans (hb2.mono hszi)).setCell (Nat.le_refl _) _⟩
              case measure => simp [intOf]; omega
        · obtain rfl : t = L := by omega
          have ho0 : wr.ownsRow 0 5 1 v t (bytesV (cutAt (nums str) t j)) := by
            have e : upTo (nums str) t j t = bytesV (cutAt (nums str) t j) := List.take_of_length_le (by simp [cutAt])
            rw [e] at hown
            obtain ⟨h1, h2⟩ := hown
            refine ⟨h1, ?_⟩
            rcases h2 with h2 | ⟨g, cap, cur, hv, hg, r⟩
            · exact Or.inl h2
            · exact Or.inr ⟨g, cap, cur, hv, Nat.zero_le _, r⟩
          have R := HD.out.laid hjlt hlaid ho0
          go_wp2
          go_roundw
          case rel => exact ⟨j + 1, by omega, by go_num, R, hbq⟩
          case measure => simp [intOf]; omega
    · obtain rfl : j = d := by omega
      have hrows := hdat.rows
      have hcl : (cuts (nums str) j L).length = j := by simp [cuts]
      have hal := all_any (cuts (nums str) j L) L s _ wi hrows (by omega) (by omega) (by omega) (fun i hi => by simp [cuts, cutAt]) (fun i hi => cuts_bytes _ _ _ _ (nums_bytes _) _) (by omega)
      rw [hcl] at hal
      clear hdat hrows hcl
      go_wp2_with fail
      refine Calls.mono hal ?_
      rintro e w2 ⟨v, rfl, hst, hb2⟩
      go_wp2
      go_ret2
      exact ⟨v, rfl, hst.at, hbel.trans (hb2.mono hbel.size)⟩
end Go.Proofs.YtokmllopbfmadaaDoor.Ref

namespace Go.Proofs.YtokmllopbfmadaaDoor.Parts
open Go.RowKit Mem FieldWalks Tab ByTab

theorem make_strN (n : Nat) (hp : n ≤ 1000) (w : World) :
    (Instr.makeSlice 38 (.int .i64 (n : Int)) (.int .i64 (n : Int))).run Tryd.prog w = .ok (.slice (some ⟨w.heap.size, 0, none⟩) n n) (w.alloc (.cells (madeCells #[.string ByteArray.empty] n) 9)) := by
  obtain ⟨i, hi, hz0, hz1, hz2⟩ := info_parts infoStr
  have := run_make (P := Tryd.prog) w 38 9 i (.string ByteArray.empty) Tryd.underlying38 hi hz0 .i64 .i64 (n : Int) (n : Int) (by omega) (by omega) (by rw [hz2]; omega) (by omega)
  rw [hz1, show ((n : Int)).toNat = n by omega, Nat.mul_one] at this
  exact this

set_option maxRecDepth 100000 in
set_option maxHeartbeats 1000000 in
theorem asTexts_any (ps : List (List Nat)) (pv : Value) (w : World) (hp : RowsAt w pv ps) (hlp : ps.length ≤ 100) :
    Calls Tryd.prog 94 #[pv] w fun e w' => ∃ b, w.heap.size ≤ b ∧ e = .returned (.slice (some ⟨b, 0, none⟩) ps.length ps.length) ∧ Blk w' b 9 (strV (ps.map mkS)) ∧ Below w.heap.size w w' := by
  obtain ⟨pao, pcap, rfl, hpc⟩ := hp
  have hmk := fun w => make_strN ps.length (by omega) w
  have HPC : Hid (ps = [] ∨ ∃ b off, pao = some ⟨b, off, none⟩ ∧ b < w.heap.size ∧ ∀ k, (h : k < ps.length) → ∃ u, w.cell? ⟨b, off + k, none⟩ = some u ∧ BsAt w u ps[k]) := hpc
  have HTL : Hid ((ps.map mkS).length = ps.length) := List.length_map mkS
  clear hpc
  go_enter Tryd.func94, Tryd.ntmps94
  go_wp2
  go_loopw [11] (fun i wr => ∃ k : Nat, k ≤ ps.length ∧ i = .int .i64 k ∧ Blk wr w.heap.size 9 (strV (mix (ps.map mkS) (List.replicate ps.length ByteArray.empty) k)) ∧ Below w.heap.size w wr) (fun i _ => ps.length - (intOf i).toNat)
  case atStart =>
    refine ⟨0, Nat.zero_le _, rfl, (Blk.new w _ _).eq ?_, (Below.refl _ _).alloc (Nat.le_refl _) _⟩
    rw [toList_madeCells_one, mix_zero]; simp [strV]
  case round =>
    obtain ⟨k, hk, rfl, hblk, hbel⟩ := hrel
    by_cases hlt : k < ps.length
    · obtain ⟨b, off, rfl, hb, hc⟩ : ∃ b off, pao = some ⟨b, off, none⟩ ∧ b < w.heap.size ∧ ∀ k, (h : k < ps.length) → ∃ u, w.cell? ⟨b, off + k, none⟩ = some u ∧ BsAt w u ps[k] := by
        rcases HPC.out with h | h
        · rw [h] at hlt; simp at hlt
        · exact h
      obtain ⟨u, hu, hbs⟩ := hc k hlt
      rw [← hbel.cell (p := ⟨b, off + k, none⟩) hb] at hu
      have HBS : Hid (BsAt wr u ps[k]) := hbs.to hbel
      have hl1 : k < (strV (mix (ps.map mkS) (List.replicate ps.length ByteArray.empty) k)).length := by simp [strV, mix_length, HTL.out]; omega
      have hc1 := hblk.cell_some (List.getElem?_eq_getElem hl1)
      have hf1 := hblk.free k
      generalize (strV (mix (ps.map mkS) (List.replicate ps.length ByteArray.empty) k))[k] = old at hc1
      have HB : Hid (Blk wr w.heap.size 9 (strV (mix (ps.map mkS) (List.replicate ps.length ByteArray.empty) k))) := hblk
      have hBlt := hblk.lt
      clear hc hbs hblk hl1
      go_wp2_with (refine wpList_convert _ rfl 71 9 _ rfl u (.string (mkS ps[k])) rfl (conv_str _ _ _ HBS.out) ?_)
      go_roundw
      case rel =>
        refine ⟨k + 1, by omega, by go_num, ?_, ?_⟩
        · refine ((HB.out.set k _)).eq ?_
          have e := strs_step (ps.map mkS) ps.length k HTL.out (by omega)
          rw [← e]
          simp
        · exact hbel.setCell (Nat.le_refl _) _
      case measure => simp [intOf]; omega
    · obtain rfl : k = ps.length := by omega
      go_wp2
      go_ret
      refine ⟨w.heap.size, Nat.le_refl _, rfl, hblk.eq ?_, hbel⟩
      have e := mix_all (new := ps.map mkS) (old := List.replicate ps.length ByteArray.empty) (by simp)
      simp only [List.length_replicate] at e
      rw [e]
end Go.Proofs.YtokmllopbfmadaaDoor.Parts
