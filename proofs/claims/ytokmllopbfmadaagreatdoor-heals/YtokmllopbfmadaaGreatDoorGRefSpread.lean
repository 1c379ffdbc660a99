import Derived.Test.YtokmllopbfmadaaGreatDoorGFactors
import Derived.Test.YtokmllopbfmadaaGreatDoorGNDelete
import Derived.Lib.AppendZeros
namespace Go.Proofs.YtokmllopbfmadaaGreatDoor.Ref
open Go.RowKit Mem FieldWalks Tab ByTab Parts
open Gf (Bytes sumTo addTo)

/-- The data rows while they are being filled: the first j are whole. -/
def Data (w : World) (D d L j : Nat) (l : List Nat) : Prop :=
  ∃ us : List Value, us.length = d ∧ Blk w D 85 us ∧ (∀ k, k < j → ∃ u, us[k]? = some u ∧ w.ownsRow 0 5 1 u L (bytesV (cutAt l L k))) ∧ ∀ k, j ≤ k → k < d → us[k]? = some (.slice none 0 0)
theorem Data.start (w : World) (d L : Nat) (l : List Nat) : Data (w.alloc (.cells (madeCells #[.slice none 0 0] d) 85)) w.heap.size d L 0 l := by
  refine ⟨List.replicate d (.slice none 0 0), by simp, (Blk.new w _ _).eq (toList_madeCells_one _ d), fun k hk => by omega, fun k _ hk => by simp [hk]⟩
theorem Data.rows {w : World} {D d L : Nat} {l : List Nat} (h : Data w D d L d l) : RowsAt w (.slice (some ⟨D, 0, none⟩) d d) (cuts l d L) := by
  obtain ⟨us, hl, hB, hf, _⟩ := h
  refine ⟨_, d, by rw [show (cuts l d L).length = d by simp [cuts]], .inr ⟨D, 0, rfl, hB.lt, fun k hk => ?_⟩⟩
  simp only [cuts, List.length_map, List.length_range] at hk
  obtain ⟨u, hu, ho⟩ := hf k hk
  refine ⟨u, by rw [Nat.zero_add]; exact hB.cell_some hu, ?_⟩
  have e : (cuts l d L)[k]'(by simpa [cuts] using hk) = cutAt l L k := by simp [cuts]
  rw [e]
  refine BsAt.of_owns (base := 0) (t := 5) ?_
  rw [show (cutAt l L k).length = L by simp [cutAt]]
  exact ho
theorem Data.laid {w W : World} {D d L j : Nat} {l : List Nat} {v : Value} (h : Data w D d L j l) (hj : j < d) (hl : Laid w W D j v) (ho : W.ownsRow 0 5 1 v L (bytesV (cutAt l L j))) : Data W D d L (j + 1) l := by
  obtain ⟨us, hlen, hB, hf, hn⟩ := h
  refine ⟨us.set j v, by simpa using hlen, hl.row.trans (hB.set j v), fun k hk => ?_, fun k h1 h2 => ?_⟩
  · by_cases e : k = j
    · subst e; exact ⟨v, by simp [show k < us.length by omega], ho⟩
    · obtain ⟨u, hu, hou⟩ := hf k (by omega)
      exact ⟨u, by rw [List.getElem?_set_ne (by omega)]; exact hu, ownsRow_laid hou hl hB (by decide)⟩
  · rw [List.getElem?_set_ne (by omega)]; exact hn k (by omega) h2
theorem Data.first {w : World} {D d L j : Nat} {l : List Nat} (h : Data w D d L j l) (hj : j < d) : Laid w w D j (.slice none 0 0) := by
  obtain ⟨us, hlen, hB, hf, hn⟩ := h
  refine ⟨Nat.le_refl _, fun _ _ _ => rfl, ?_⟩
  have := hn j (Nat.le_refl _) hj
  have e : us.set j (.slice none 0 0) = us := by
    apply List.ext_getElem?
    intro k
    by_cases hk : k = j
    · subst hk; rw [this]; simp [show k < us.length by omega]
    · rw [List.getElem?_set_ne (by omega)]
  have := hB.set j (.slice none 0 0)
  rw [e] at this
  exact hB.trans this.symm
theorem Data.blk {w : World} {D d L j : Nat} {l : List Nat} (h : Data w D d L j l) : ∃ us : List Value, us.length = d ∧ Blk w D 85 us := by
  obtain ⟨us, hlen, hB, _⟩ := h; exact ⟨us, hlen, hB⟩
theorem Laid.cell' {w W : World} {D d i : Nat} {v : Value} {us : List Value} (h : Laid w W D i v) (hB : Blk w D 85 us) (hl : us.length = d) (hi : i < d) : W.cell? ⟨D, i, none⟩ = some v ∧ W.frozen? ⟨D, i, none⟩ = false := by
  have e : Blk W D 85 (us.set i v) := h.row.trans (hB.set i v)
  exact ⟨e.cell_some (by simp [show i < us.length by omega]), e.free i⟩
/-- The first t bytes of a piece. -/
def upTo (l : List Nat) (L j t : Nat) : List Value := (bytesV (cutAt l L j)).take t
theorem upTo_next (l : List Nat) (L j t : Nat) (ht : t < L) : upTo l L j t ++ [.int .u8 ((l.getD (j * L + t) 0 : Nat) : Int)] = upTo l L j (t + 1) := by
  have hlen : t < (bytesV (cutAt l L j)).length := by simp [cutAt]; exact ht
  unfold upTo
  rw [List.take_add_one, List.getElem?_eq_getElem hlen, bytesV_getElem]
  simp [cutAt]

theorem owns_slice {w : World} {base : Nat} {e : TypeId} {v : Value} {n : Nat} {xs : List Value} (h : w.ownsRow base e 1 v n xs) : ∃ ao c, v = .slice ao n c := by
  rcases h.2 with ⟨rfl, rfl⟩ | ⟨g, cap, cur, rfl, _⟩
  · exact ⟨_, _, rfl⟩
  · exact ⟨_, _, rfl⟩
theorem cuts_bytes (l : List Nat) (d L i : Nat) (hb : Bytes l) (hi : i < (cuts l d L).length) : Bytes (cuts l d L)[i] := by
  intro x hx
  simp [cuts, cutAt] at hx
  obtain ⟨t, _, rfl⟩ := hx
  exact hb.getD _
theorem nums_get (s : ByteArray) (q : Nat) (h : q < s.size) : (nums s).getD q 0 = (s[q]'h).toNat := by
  have hl : q < (nums s).length := by rw [nums_length]; exact h
  rw [List.getD_eq_getElem?_getD, List.getElem?_eq_getElem hl, Option.getD_some]
  simp only [nums, List.getElem_map, Array.getElem_toList]
  rfl

set_option maxRecDepth 100000 in
set_option maxHeartbeats 2000000 in
theorem rSpread_ok (d s x : Nat) (str : ByteArray) (L : Nat) (hd : 1 ≤ d) (hd2 : d ≤ 10) (hs : s ≤ 6) (hx : x ≤ 2) (hn : str.size ≤ 400) (hL : L = (str.size + d - 1) / d) (w : World) :
    Calls Tryz.prog 27 #[.int .i64 d, .int .i64 s, .int .i64 x, .string str] w fun e w' =>
      ∃ v, e = .returned (.tuple #[v, .int .i64 0]) ∧ StrsAt w' v (texts (cuts (nums str) d L) (sums (facs d s) (cuts (nums str) d L) L)) ∧ Below w.heap.size w w' := by
  have hok : okCounts d s = true := okCounts_yes _ _ (by omega)
  have how : okWay x = true := okWay_yes _ (by omega)
  have hLs : L ≤ 400 := by have := ceil_le str.size d hd; omega
  have hmk := fun w => make_rows d (by omega) w
  have hdec : decide ((400 : Int) < (str.size : Int)) = false := by simp; omega
  have HL : Hid (L = (str.size + d - 1) / d) := hL
  clear hL
  go_enter Tryz.func27, Tryz.ntmps27
  go_wp2_with fail
  refine (rCounts_any _ _ _).mono ?_
  rintro e w' ⟨rfl, rfl⟩
  go_wp2_with fail
  refine (rWay_any _ _).mono ?_
  rintro e w' ⟨rfl, rfl⟩
  go_wp2_with fail
  refine (size_any d str.size hd (by omega) (by omega) _).mono ?_
  rintro e w' ⟨rfl, rfl⟩
  rw [← HL.out]
  go_wp2
  go_loopw [13] (fun jv wr => ∃ j : Nat, j ≤ d ∧ jv = .int .i64 j ∧ Data wr w'.heap.size d L j (nums str) ∧ Below w'.heap.size w' wr) (fun jv _ => d - (intOf jv).toNat)
  case atStart => exact ⟨0, Nat.zero_le _, rfl, Data.start w' d L _, (Below.refl _ _).alloc (Nat.le_refl _) _⟩
  case round =>
    obtain ⟨j, hj, rfl, hdat, hbel⟩ := hrel
    obtain ⟨wi, rfl⟩ : ∃ wi, wi = wr := ⟨_, rfl⟩
    by_cases hjlt : j < d
    · obtain ⟨us, husl, husB⟩ := hdat.blk
      have hDlt := husB.lt
      have hszi := hbel.size
      have HD : Hid (Data wi w'.heap.size d L j (nums str)) := hdat
      have HFI : Hid (Laid wi wi w'.heap.size j (.slice none 0 0)) := hdat.first hjlt
      have HUB : Hid (Blk wi w'.heap.size 85 us) := husB
      obtain ⟨m, hm⟩ : ∃ m, m = j * L := ⟨_, rfl⟩
      have hm2 : m ≤ 4000 := by rw [hm]; exact Nat.mul_le_mul (by omega : j ≤ 10) hLs
      have em : (j : Int) * (L : Int) = (m : Int) := by rw [hm]; simp
      have HM : Hid (m = j * L) := hm
      clear hdat husB hm
      go_wp2
      go_loopw [14] (fun tv wq => ∃ (t : Nat) (v : Value), t ≤ L ∧ tv = .int .i64 t ∧ Laid wi wq w'.heap.size j v ∧ wq.ownsRow wi.heap.size 5 1 v t (upTo (nums str) L j t) ∧ Below w'.heap.size w' wq) (fun tv _ => L - (intOf tv).toNat)
      case atStart => exact ⟨0, _, Nat.zero_le _, rfl, HFI.out, World.ownsRow_nil _ _ _ _, hbel⟩
      case round =>
        obtain ⟨t, v, ht, rfl, hlaid, hown, hbq⟩ := hrel
        have hszq := hlaid.size
        have hDr : w'.heap.size < wr.heap.size := by omega
        have hDn : w'.heap.size ≠ wr.heap.size := by omega
        by_cases htlt : t < L
        · obtain ⟨hc1, hf1⟩ := Laid.cell' hlaid HUB.out husl hjlt
          by_cases hin : m + t < str.size
          · obtain ⟨q, hq⟩ : ∃ q, q = m + t := ⟨_, rfl⟩
            have hqs : q < str.size := by omega
            have eq : (m : Int) + (t : Int) = (q : Int) := by omega
            have hch : (nums str).getD q 0 = (str[q]'hqs).toNat := nums_get str q hqs
            have HNX : Hid (upTo (nums str) L j t ++ [.int .u8 ((str[q]'hqs).toNat : Int)] = upTo (nums str) L j (t + 1)) := by
              show _ = _
              rw [← hch, hq, HM.out]; exact upTo_next _ _ _ _ htlt
            clear hch hq hin
            have hwm : IntKind.i64.wrap (m : Int) = m := by rw [IntKind.wrap_i64]; omega
            have hwq : IntKind.i64.wrap (q : Int) = (q : Int) := by rw [IntKind.wrap_i64]; omega
            have hdq : decide ((q : Int) < (str.size : Int)) = true := by simp; omega
            go_wp2_with fail
            go_region_law (refine step_append_one rfl _ _ 85 rfl wi.heap.size 5 (.int .u8 0) 1 Tryz.underlying85 infoByte rfl (by decide) v t _ (by simp [Act.eval]) (by exact (hown.alloc _).drew) ⟨wr.heap.size, 0, none⟩ 1 (.int .u8 ((str[q]'hqs).toNat : Int)) (by simp [Act.eval]) (by exact (Blk.new wr _ _).cell_some rfl) rfl (by omega) (by simp; omega) ?_; rw [HNX.out]; intro v' w2 hown' hbel'; obtain ⟨va, vc, rfl⟩ := owns_slice hown'; have hb2 := hbel' wi.heap.size wr ((Below.refl _ _).alloc hszq _).drew (Nat.le_refl _); have c2 := (hb2.cell (p := ⟨w'.heap.size, j, none⟩) (by exact hDlt)).trans hc1; have f2 := (hb2.frozen (p := ⟨w'.heap.size, j, none⟩) (by exact hDlt)).trans hf1)
            all_goals
              go_wp2
              go_roundw
              case rel => exact ⟨t + 1, _, by omega, by go_num, hlaid.again hb2 HUB.out, ownsRow_setCell_below hown' (by exact hDlt) _, (hbq.trans (hb2.mono hszi)).setCell (Nat.le_refl _) _⟩
              case measure => simp [intOf]; omega
          · have HNX : Hid (upTo (nums str) L j t ++ [.int .u8 0] = upTo (nums str) L j (t + 1)) := by
              show _ = _
              rw [← upTo_next _ _ _ _ htlt, ← HM.out]
              rw [show (nums str).getD (m + t) 0 = 0 by simp [List.getElem?_eq_none (show (nums str).length ≤ m + t by rw [nums_length]; omega)]]
              rfl
            obtain ⟨va0, vc0, rfl⟩ := owns_slice hown
            go_wp2_with (at_builtin; refine wpList_append_one _ rfl _ _ 85 rfl wi.heap.size 5 (.int .u8 0) 1 Tryz.underlying85 infoByte rfl (by decide) _ t _ rfl (by exact hown.alloc _) ⟨wr.heap.size, 0, none⟩ 1 (.int .u8 0) rfl (by exact (Blk.new wr _ _).cell_some rfl) rfl (by omega) (by simp; omega) ?_; rw [HNX.out]; intro v' w2 hown' hbel'; obtain ⟨va, vc, rfl⟩ := owns_slice hown'; have hb2 := hbel' wi.heap.size wr ((Below.refl _ _).alloc hszq _) (Nat.le_refl _); have c2 := (hb2.cell (p := ⟨w'.heap.size, j, none⟩) (by exact hDlt)).trans hc1; have f2 := (hb2.frozen (p := ⟨w'.heap.size, j, none⟩) (by exact hDlt)).trans hf1)
            all_goals
              go_wp2
              go_roundw
              case rel => exact ⟨t + 1, _, by omega, by go_num, hlaid.again hb2 HUB.out, ownsRow_setCell_below hown' (by exact hDlt) _, (hbq.trans (hb2.mono hszi)).setCell (Nat.le_refl _) _⟩
              case measure => simp [intOf]; omega
        · obtain rfl : t = L := by omega
          have ho0 : wr.ownsRow 0 5 1 v t (bytesV (cutAt (nums str) t j)) := by
            have e : upTo (nums str) t j t = bytesV (cutAt (nums str) t j) := List.take_of_length_le (by simp [cutAt])
            rw [e] at hown
            obtain ⟨h1, h2⟩ := hown
            refine ⟨h1, ?_⟩
            rcases h2 with h2 | ⟨g, cap, cur, hv, hg, r⟩
            · exact Or.inl h2
            · exact Or.inr ⟨g, cap, cur, hv, Nat.zero_le _, r⟩
          have R := HD.out.laid hjlt hlaid ho0
          go_wp2
          go_roundw
          case rel => exact ⟨j + 1, by omega, by go_num, R, hbq⟩
          case measure => simp [intOf]; omega
    · obtain rfl : j = d := by omega
      have hrows := hdat.rows
      have hcl : (cuts (nums str) j L).length = j := by simp [cuts]
      have hal := all_any (cuts (nums str) j L) L s _ wi hrows (by omega) (by omega) (by omega) (fun i hi => by simp [cuts, cutAt]) (fun i hi => cuts_bytes _ _ _ _ (nums_bytes _) _) (by omega)
      rw [hcl] at hal
      clear hdat hrows hcl
      go_wp2_with fail
      refine Calls.mono hal ?_
      rintro e w2 ⟨v, rfl, hst, hb2⟩
      go_wp2
      go_ret2
      exact ⟨v, rfl, hst.at, hbel.trans (hb2.mono hbel.size)⟩
end Go.Proofs.YtokmllopbfmadaaGreatDoor.Ref

namespace Go.Proofs.YtokmllopbfmadaaGreatDoor.Parts
open Go.RowKit Mem FieldWalks Tab ByTab

theorem make_strN (n : Nat) (hp : n ≤ 1000) (w : World) :
    (Instr.makeSlice 48 (.int .i64 (n : Int)) (.int .i64 (n : Int))).run Tryz.prog w = .ok (.slice (some ⟨w.heap.size, 0, none⟩) n n) (w.alloc (.cells (madeCells #[.string ByteArray.empty] n) 9)) := by
  obtain ⟨i, hi, hz0, hz1, hz2⟩ := info_parts infoStr
  have := run_make (P := Tryz.prog) w 48 9 i (.string ByteArray.empty) Tryz.underlying48 hi hz0 .i64 .i64 (n : Int) (n : Int) (by omega) (by omega) (by rw [hz2]; omega) (by omega)
  rw [hz1, show ((n : Int)).toNat = n by omega, Nat.mul_one] at this
  exact this

set_option maxRecDepth 100000 in
set_option maxHeartbeats 1000000 in
theorem asTexts_any (ps : List (List Nat)) (pv : Value) (w : World) (hp : RowsAt w pv ps) (hlp : ps.length ≤ 100) :
    Calls Tryz.prog 46 #[pv] w fun e w' => ∃ b, w.heap.size ≤ b ∧ e = .returned (.slice (some ⟨b, 0, none⟩) ps.length ps.length) ∧ Blk w' b 9 (strV (ps.map mkS)) ∧ Below w.heap.size w w' := by
  obtain ⟨pao, pcap, rfl, hpc⟩ := hp
  have hmk := fun w => make_strN ps.length (by omega) w
  have HPC : Hid (ps = [] ∨ ∃ b off, pao = some ⟨b, off, none⟩ ∧ b < w.heap.size ∧ ∀ k, (h : k < ps.length) → ∃ u, w.cell? ⟨b, off + k, none⟩ = some u ∧ BsAt w u ps[k]) := hpc
  have HTL : Hid ((ps.map mkS).length = ps.length) := List.length_map mkS
  clear hpc
  go_enter Tryz.func46, Tryz.ntmps46
  go_wp2
  go_loopw [11] (fun i wr => ∃ k : Nat, k ≤ ps.length ∧ i = .int .i64 k ∧ Blk wr w.heap.size 9 (strV (mix (ps.map mkS) (List.replicate ps.length ByteArray.empty) k)) ∧ Below w.heap.size w wr) (fun i _ => ps.length - (intOf i).toNat)
  case atStart =>
    refine ⟨0, Nat.zero_le _, rfl, (Blk.new w _ _).eq ?_, (Below.refl _ _).alloc (Nat.le_refl _) _⟩
    rw [toList_madeCells_one, mix_zero]; simp [strV]
  case round =>
    obtain ⟨k, hk, rfl, hblk, hbel⟩ := hrel
    by_cases hlt : k < ps.length
    · obtain ⟨b, off, rfl, hb, hc⟩ : ∃ b off, pao = some ⟨b, off, none⟩ ∧ b < w.heap.size ∧ ∀ k, (h : k < ps.length) → ∃ u, w.cell? ⟨b, off + k, none⟩ = some u ∧ BsAt w u ps[k] := by
        rcases HPC.out with h | h
        · rw [h] at hlt; simp at hlt
        · exact h
      obtain ⟨u, hu, hbs⟩ := hc k hlt
      rw [← hbel.cell (p := ⟨b, off + k, none⟩) hb] at hu
      have HBS : Hid (BsAt wr u ps[k]) := hbs.to hbel
      have hl1 : k < (strV (mix (ps.map mkS) (List.replicate ps.length ByteArray.empty) k)).length := by simp [strV, mix_length, HTL.out]; omega
      have hc1 := hblk.cell_some (List.getElem?_eq_getElem hl1)
      have hf1 := hblk.free k
      generalize (strV (mix (ps.map mkS) (List.replicate ps.length ByteArray.empty) k))[k] = old at hc1
      have HB : Hid (Blk wr w.heap.size 9 (strV (mix (ps.map mkS) (List.replicate ps.length ByteArray.empty) k))) := hblk
      have hBlt := hblk.lt
      clear hc hbs hblk hl1
      go_wp2_with (refine wpList_convert _ rfl 85 9 _ rfl u (.string (mkS ps[k])) rfl (conv_str _ _ _ HBS.out) ?_)
      go_roundw
      case rel =>
        refine ⟨k + 1, by omega, by go_num, ?_, ?_⟩
        · refine ((HB.out.set k _)).eq ?_
          have e := strs_step (ps.map mkS) ps.length k HTL.out (by omega)
          rw [← e]
          simp
        · exact hbel.setCell (Nat.le_refl _) _
      case measure => simp [intOf]; omega
    · obtain rfl : k = ps.length := by omega
      go_wp2
      go_ret
      refine ⟨w.heap.size, Nat.le_refl _, rfl, hblk.eq ?_, hbel⟩
      have e := mix_all (new := ps.map mkS) (old := List.replicate ps.length ByteArray.empty) (by simp)
      simp only [List.length_replicate] at e
      rw [e]
end Go.Proofs.YtokmllopbfmadaaGreatDoor.Parts

namespace Go.Proofs.YtokmllopbfmadaaGreatDoor.Parts
open Go.RowKit Mem FieldWalks Tab ByTab

theorem infoRow8 : (Tryz.prog.info? 85).map (fun i => (i.zero, i.size, i.bytes)) = some (some (.slice none 0 0), 1, 24) := by kernel_rfl

set_option maxRecDepth 100000 in
theorem grow_any (n : Nat) (hn : n ≤ 200) (w : World) :
    Calls Tryz.prog 92 #[.slice none 0 0, .int .i64 n] w fun e w' => ∃ v, e = .returned v ∧ w'.ownsRow w.heap.size 85 1 v 0 [] ∧ Below w.heap.size w w' := by
  by_cases h0 : n = 0
  · subst h0
    go_enter Tryz.func92, Tryz.ntmps92
    go_wp2
    go_ret
    exact ⟨_, rfl, World.ownsRow_nil _ _ _ _, Below.refl _ _⟩
  · obtain ⟨i0, hi, hz0, hz1, hz2⟩ := info_parts infoRow8
    have hr := Lib.run_append_nil_zeros (P := Tryz.prog) w 89 3 89 85 i0 (.slice none 0 0) .i64 .i64 Tryz.underlying89 Tryz.underlying3 hi hz0 n (by omega) (by omega) (by omega) (by rw [hz2]; omega)
    have hge := grownCap_ge w n 0 85
    have hle := grownCap_le_maxLen w n 0 85 (by unfold maxLen; omega)
    generalize grownCap w n 0 85 = cap at hr hge hle
    have HLE : Hid (cap ≤ maxLen) := hle
    clear hle hi hz0 hz1 hz2
    go_enter Tryz.func92, Tryz.ntmps92
    go_wp2_with (at_builtin; refine Lib.wpList_append_run _ rfl _ _ _ _ rfl _ _ rfl rfl _ _ hr ?_)
    go_ret
    refine ⟨_, rfl, ⟨rfl, .inr ⟨w.heap.size, cap, _, rfl, Nat.le_refl _, heap_alloc_new w.drew _, Nat.zero_le _, HLE.out, ?_, ?_⟩⟩, (Below.refl _ _).drew.alloc (Nat.le_refl _) _⟩
    · simp only [Array.size_append, size_zeroCells]
      simp; omega
    · simp

/-- The slice v reads as these lists of rows. -/
def RowssAt (w : World) (v : Value) (R : List (List (List Nat))) : Prop :=
  ∃ b cap, v = .slice (some ⟨b, 0, none⟩) R.length cap ∧ b < w.heap.size ∧ ∀ k, (h : k < R.length) → ∃ u, w.cell? ⟨b, k, none⟩ = some u ∧ RowsAt w u R[k]

theorem run_loadCells_none' {P : Program} (w : World) (a : Addr) : (loadCells a 0).run P w = .ok #[] w := run_loadCells_list (P := P) w a [] (fun j u hu => by simp at hu)
theorem run_append_empty {P : Program} (w : World) (base : Nat) (t ty e : TypeId) (i : TypeInfo) (size : Nat) (ht : P.underlying t = some (.slice e)) (hi : P.info? e = some i)
    (v : Value) (n : Nat) (xs : List Value) (hown : w.ownsRow base e size v n xs) (ao : Option Addr) (c : Nat) :
    (Builtin.append_ #[t, t] ty #[v, .slice ao 0 c]).run P w = .ok v w := by
  rcases hown.2 with ⟨rfl, rfl⟩ | ⟨g, cap, cur, rfl, _, _, hnc, _⟩ <;> cases ao
  · simp [Builtin.append_, run_underlying ht, sizeOf, typeInfo, hi, Builtin.lenOf, Builtin.firstCells]
  · simp [Builtin.append_, run_underlying ht, sizeOf, typeInfo, hi, Builtin.lenOf, Builtin.firstCells, run_loadCells_none']
  · simp [Builtin.append_, run_underlying ht, sizeOf, typeInfo, hi, Builtin.lenOf, Builtin.firstCells, hnc, storeCells]
  · simp [Builtin.append_, run_underlying ht, sizeOf, typeInfo, hi, Builtin.lenOf, Builtin.firstCells, hnc, storeCells, run_loadCells_none']

theorem flat_next {α : Type} (R : List (List α)) (k : Nat) (h : k < R.length) : (R.take (k + 1)).flatten = (R.take k).flatten ++ R[k] := by
  rw [List.take_add_one, List.getElem?_eq_getElem h, List.flatten_append]; simp
theorem flat_le {α : Type} (R : List (List α)) (k : Nat) : (R.take k).flatten.length ≤ R.flatten.length := by
  have e : R.flatten = (R.take k).flatten ++ (R.drop k).flatten := by rw [← List.flatten_append, List.take_append_drop]
  rw [e, List.length_append]; omega

/-- The cells of rows. -/
theorem rows_cells {w : World} {b off : Nat} {rows : List (List Nat)} (h : ∀ k, (h : k < rows.length) → ∃ u, w.cell? ⟨b, off + k, none⟩ = some u ∧ BsAt w u rows[k]) :
    ∃ us : List Value, us.length = rows.length ∧ (∀ k u, us[k]? = some u → w.cell? ⟨b, off + k, none⟩ = some u) ∧ ∀ k, (h : k < rows.length) → ∃ u, us[k]? = some u ∧ BsAt w u rows[k] := by
  induction rows generalizing off with
  | nil => exact ⟨[], rfl, fun k u hu => by simp at hu, fun k hk => by simp at hk⟩
  | cons r rows ih =>
    obtain ⟨u0, hu0, hb0⟩ := h 0 (by simp)
    obtain ⟨us, hl, hc, hr⟩ := ih (off := off + 1) (fun k hk => by
      obtain ⟨u, hu, hb⟩ := h (k + 1) (by simpa using hk)
      exact ⟨u, by rw [show off + 1 + k = off + (k + 1) by omega]; exact hu, by simpa using hb⟩)
    refine ⟨u0 :: us, by simp [hl], fun k u hu => ?_, fun k hk => ?_⟩
    · cases k with
      | zero => simp at hu; subst hu; exact hu0
      | succ k => rw [show off + (k + 1) = off + 1 + k by omega]; exact hc k u (by simpa using hu)
    · cases k with
      | zero => exact ⟨u0, rfl, by simpa using hb0⟩
      | succ k => simpa using hr k (by simpa using hk)
theorem one_of_bs {w : World} {u : Value} {l : List Nat} (h : BsAt w u l) : u.oneCell' = true := by
  obtain ⟨ao, cap, rfl, _⟩ := h; rfl

/-- Values that read as rows. -/
def ReadAs (w : World) (us : List Value) (rows : List (List Nat)) : Prop := us.length = rows.length ∧ ∀ k, (h : k < rows.length) → ∃ u, us[k]? = some u ∧ BsAt w u rows[k]
theorem ReadAs.append {w : World} {us vs : List Value} {a b : List (List Nat)} (h : ReadAs w us a) (k : ReadAs w vs b) : ReadAs w (us ++ vs) (a ++ b) := by
  refine ⟨by simp [h.1, k.1], fun i hi => ?_⟩
  by_cases hl : i < a.length
  · obtain ⟨u, hu, hb⟩ := h.2 i hl
    refine ⟨u, by rw [List.getElem?_append_left (by rw [h.1]; exact hl)]; exact hu, by rw [List.getElem_append_left hl]; exact hb⟩
  · obtain ⟨u, hu, hb⟩ := k.2 (i - a.length) (by simp at hi; omega)
    refine ⟨u, by rw [List.getElem?_append_right (by rw [h.1]; omega), h.1]; exact hu, by rw [List.getElem_append_right (by omega)]; exact hb⟩
theorem ReadAs.rows {w w' : World} {base : Nat} {v : Value} {us : List Value} {rows : List (List Nat)} (h : ReadAs w us rows) (ho : w'.ownsRow base 85 1 v rows.length us) (hb : Below w.heap.size w w') : RowsAt w' v rows := by
  obtain ⟨hl, h2⟩ := ho
  rcases h2 with ⟨rfl, h0⟩ | ⟨g, cap, cur, rfl, hg, hh, _, _, _, ht⟩
  · exact ⟨none, 0, by rw [h0], .inl (List.eq_nil_of_length_eq_zero h0)⟩
  · refine ⟨_, cap, rfl, .inr ⟨g, 0, rfl, lt_of_block hh, fun k hk => ?_⟩⟩
    obtain ⟨u, hu, hbs⟩ := h.2 k hk
    refine ⟨u, ?_, hbs.to hb⟩
    rw [Nat.zero_add, cell_of_row w' g k cur 85 (0, 0) hh]
    rw [Nat.mul_one] at ht
    rw [← ht, List.getElem?_take_of_lt hk] at hu
    simpa using hu

set_option maxRecDepth 100000 in
set_option maxHeartbeats 1000000 in
theorem concat_any (R : List (List (List Nat))) (v : Value) (w : World) (hv : RowssAt w v R) (hR : R.length ≤ 100) (hF : R.flatten.length ≤ 200) :
    Calls Tryz.prog 81 #[v] w fun e w' => ∃ v', e = .returned v' ∧ RowsAt w' v' R.flatten ∧ Below w.heap.size w w' := by
  obtain ⟨b, cap, rfl, hb, hc⟩ := hv
  have HC : Hid (∀ k, (h : k < R.length) → ∃ u, w.cell? ⟨b, k, none⟩ = some u ∧ RowsAt w u R[k]) := hc
  have HF : Hid (R.flatten.length ≤ 200) := hF
  obtain ⟨i0, hi, hz0, hz1, hz2⟩ := info_parts infoRow8
  have HI : Hid (Tryz.prog.info? 85 = some i0 ∧ i0.zero = some (.slice none 0 0) ∧ i0.size = 1 ∧ i0.bytes = 24) := ⟨hi, hz0, hz1, hz2⟩
  clear hc hF hi hz0 hz1 hz2
  go_enter Tryz.func81, Tryz.ntmps81
  go_wp2
  go_loop [3, 11] (fun t i => ∃ k n : Nat, k ≤ R.length ∧ i = .int .i64 k ∧ t = .int .i64 n ∧ n = (R.take k).flatten.length) (fun _ i => R.length - (intOf i).toNat)
  case atStart => exact ⟨0, 0, Nat.zero_le _, rfl, rfl, by simp⟩
  case round =>
    obtain ⟨k, n, hk, rfl, rfl, hn⟩ := hrel
    have hn2 : n ≤ 200 := by rw [hn]; exact Nat.le_trans (flat_le R k) HF.out
    have HN : Hid (n = (R.take k).flatten.length) := hn
    clear hn
    by_cases hlt : k < R.length
    · obtain ⟨u, hu, ao, c, rfl, hr⟩ := HC.out k hlt
      have hm : n + R[k].length ≤ 200 := by
        have := flat_le R (k + 1)
        rw [flat_next R k hlt, List.length_append, ← HN.out] at this
        exact Nat.le_trans this HF.out
      have HM : Hid (n + R[k].length = (R.take (k + 1)).flatten.length) := by
        show _ = _
        rw [flat_next R k hlt, List.length_append, ← HN.out]
      clear hr
      generalize R[k].length = m at hu hm HM
      go_wp2
      go_round
      case rel => exact ⟨k + 1, n + m, by omega, by go_num, by go_num, HM.out⟩
      case measure => simp [intOf]; omega
    · obtain rfl : k = R.length := by omega
      go_wp2_with fail
      refine (grow_any n hn2 w).mono ?_
      rintro e w1 ⟨v1, rfl, hown1, hb1⟩
      go_wp2
      go_loopw [6, 27] (fun t i wr => ∃ k us, k ≤ R.length ∧ i = .int .i64 (k : Nat) ∧ wr.ownsRow w.heap.size 85 1 t us.length us ∧ ReadAs w us (R.take k).flatten ∧ Below w.heap.size w wr) (fun _ i _ => R.length - (intOf i).toNat)
      case atStart => exact ⟨0, [], Nat.zero_le _, rfl, hown1, ⟨by simp, fun k hk => by simp at hk⟩, hb1⟩
      case round =>
        clear hown1 hb1
        obtain ⟨k, us, hk, rfl, hown, hread, hbel⟩ := hrel
        by_cases hlt : k < R.length
        · obtain ⟨u, hu, ao, c, rfl, hr⟩ := HC.out k hlt
          rw [← hbel.cell (p := ⟨b, k, none⟩) hb] at hu
          have HOWN : Hid (wr.ownsRow w.heap.size 85 1 u6 us.length us) := hown
          have hul : us.length + R[k].length ≤ 200 := by
            have := flat_le R (k + 1)
            rw [flat_next R k hlt, List.length_append, ← hread.1] at this
            exact Nat.le_trans this HF.out
          have HREAD : Hid (ReadAs w us (R.take k).flatten) := hread
          have HFN : Hid ((R.take (k + 1)).flatten = (R.take k).flatten ++ R[k]) := flat_next R k hlt
          clear hown hread
          by_cases h0 : R[k] = []
          · have hrun := run_append_empty (P := Tryz.prog) wr w.heap.size 89 89 85 i0 1 Tryz.underlying89 HI.out.1 u6 us.length us HOWN.out ao c
            rw [h0, List.length_nil] at hu
            have HFN2 : Hid ((R.take (k + 1)).flatten = (R.take k).flatten) := by rw [HFN.out, h0]; exact List.append_nil _
            clear hr HFN h0 hul
            go_wp2_with (at_builtin; refine Lib.wpList_append_run _ rfl _ _ _ _ rfl _ _ rfl rfl _ _ hrun ?_)
            go_roundw
            case rel => exact ⟨k + 1, us, by omega, by go_num, HOWN.out, by rw [HFN2.out]; exact HREAD.out, hbel⟩
            case measure => simp [intOf]; omega
          · obtain ⟨rb, off, rfl, hrb, hrc⟩ : ∃ b off, ao = some ⟨b, off, none⟩ ∧ b < w.heap.size ∧ ∀ j, (h : j < R[k].length) → ∃ u, w.cell? ⟨b, off + j, none⟩ = some u ∧ BsAt w u R[k][j] := by
              rcases hr with h | h
              · exact absurd h h0
              · exact h
            obtain ⟨vs, hvl, hvc, hvr⟩ := rows_cells hrc
            have HNEW : Hid (∀ j u, vs[j]? = some u → wr.cell? ((⟨rb, off, none⟩ : Addr).add j) = some u) := fun j u hu => by
              rw [Addr.add_lit, hbel.cell (p := ⟨rb, off + j, none⟩) hrb]; exact hvc j u hu
            have HONE : Hid (∀ u ∈ vs, u.oneCell' = true) := fun u hu => by
              obtain ⟨j, hj, e⟩ := List.mem_iff_getElem.1 hu
              obtain ⟨u', hu', hb'⟩ := hvr j (by omega)
              rw [List.getElem?_eq_getElem hj, Option.some.injEq] at hu'
              rw [← e, hu']; exact one_of_bs hb'
            have HVR : Hid (ReadAs w vs R[k]) := ⟨hvl, hvr⟩
            have HVL : Hid (vs.length = R[k].length * 1) := by rw [Nat.mul_one]; exact hvl
            clear hr hrc hvl hvc hvr h0
            generalize R[k] = rk at hu hul HFN HVR HVL
            have hsz := hbel.size
            go_wp2_with ((at_builtin; refine wpList_append_own _ rfl _ _ 89 rfl w.heap.size 85 i0 (.slice none 0 0) 1 24 Tryz.underlying89 HI.out.1 HI.out.2.1 HI.out.2.2.1 HI.out.2.2.2 rfl (by decide) u6 us.length us rfl HOWN.out ⟨rb, off, none⟩ rk.length c vs rfl HVL.out HNEW.out HONE.out (by unfold maxLen; omega) (by omega) hsz ?_); intro v' w2 hown2 hg2 _)
            have hb2 := below_grown hbel HOWN.out hg2 hsz (Nat.le_refl _)
            have HO2 : Hid (w2.ownsRow w.heap.size 85 1 v' (us ++ vs).length (us ++ vs)) := by
              rw [List.length_append, HVR.out.1]; exact hown2
            clear hown2 hg2
            go_wp2
            go_roundw
            case rel => exact ⟨k + 1, us ++ vs, by omega, by go_num, HO2.out, by rw [HFN.out]; exact HREAD.out.append HVR.out, hb2⟩
            case measure => simp [intOf]; omega
        · obtain rfl : k = R.length := by omega
          rw [List.take_length] at hread
          have HOWN : Hid (wr.ownsRow w.heap.size 85 1 u6 us.length us) := hown
          have HREAD : Hid (ReadAs w us R.flatten) := hread
          clear hown hread
          go_wp2
          go_ret
          refine ⟨_, rfl, ?_, hbel⟩
          have h1 := HOWN.out
          have h2 := HREAD.out
          rw [h2.1] at h1
          exact h2.rows h1 hbel
end Go.Proofs.YtokmllopbfmadaaGreatDoor.Parts
