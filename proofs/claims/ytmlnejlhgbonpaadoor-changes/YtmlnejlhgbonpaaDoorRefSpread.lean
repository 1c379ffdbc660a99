import Derived.Test.YtmlnejlhgbonpaaDoorRefAll
import Derived.Test.YtmlnejlhgbonpaaDoorMem2
namespace Go.Proofs.YtmlnejlhgbonpaaDoor.Ref
open Go.RowKit Mem FieldWalks Tab ByTab Parts
open Gf (Bytes sumTo addTo)

/-- The data rows while they are being filled: the first j are whole. -/
def Data (w : World) (D d L j : Nat) (l : List Nat) : Prop :=
  ∃ us : List Value, us.length = d ∧ Blk w D 71 us ∧ (∀ k, k < j → ∃ u, us[k]? = some u ∧ w.ownsRow 0 5 1 u L (bytesV (cutAt l L k))) ∧ ∀ k, j ≤ k → k < d → us[k]? = some (.slice none 0 0)
theorem Data.start (w : World) (d L : Nat) (l : List Nat) : Data (w.alloc (.cells (madeCells #[.slice none 0 0] d) 71)) w.heap.size d L 0 l := by
  refine ⟨List.replicate d (.slice none 0 0), by simp, (Blk.new w _ _).eq (toList_madeCells_one _ d), fun k hk => by omega, fun k _ hk => by simp [hk]⟩
theorem Data.rows {w : World} {D d L : Nat} {l : List Nat} (h : Data w D d L d l) : RowsAt w (.slice (some ⟨D, 0, none⟩) d d) (cuts l d L) := by
  obtain ⟨us, hl, hB, hf, _⟩ := h
  refine ⟨_, d, by rw [show (cuts l d L).length = d by simp [cuts]], .inr ⟨D, 0, rfl, hB.lt, fun k hk => ?_⟩⟩
  simp only [cuts, List.length_map, List.length_range] at hk
  obtain ⟨u, hu, ho⟩ := hf k hk
  refine ⟨u, by rw [Nat.zero_add]; exact hB.cell_some hu, ?_⟩
  have e : (cuts l d L)[k]'(by simpa [cuts] using hk) = cutAt l L k := by simp [cuts]
  rw [e]
  refine BsAt.of_owns (base := 0) (t := 5) ?_
  rw [show (cutAt l L k).length = L by simp [cutAt]]
  exact ho
theorem Data.laid {w W : World} {D d L j : Nat} {l : List Nat} {v : Value} (h : Data w D d L j l) (hj : j < d) (hl : Laid w W D j v) (ho : W.ownsRow 0 5 1 v L (bytesV (cutAt l L j))) : Data W D d L (j + 1) l := by
  obtain ⟨us, hlen, hB, hf, hn⟩ := h
  refine ⟨us.set j v, by simpa using hlen, hl.row.trans (hB.set j v), fun k hk => ?_, fun k h1 h2 => ?_⟩
  · by_cases e : k = j
    · subst e; exact ⟨v, by simp [show k < us.length by omega], ho⟩
    · obtain ⟨u, hu, hou⟩ := hf k (by omega)
      exact ⟨u, by rw [List.getElem?_set_ne (by omega)]; exact hu, ownsRow_laid hou hl hB (by decide)⟩
  · rw [List.getElem?_set_ne (by omega)]; exact hn k (by omega) h2
theorem Data.first {w : World} {D d L j : Nat} {l : List Nat} (h : Data w D d L j l) (hj : j < d) : Laid w w D j (.slice none 0 0) := by
  obtain ⟨us, hlen, hB, hf, hn⟩ := h
  refine ⟨Nat.le_refl _, fun _ _ _ => rfl, ?_⟩
  have := hn j (Nat.le_refl _) hj
  have e : us.set j (.slice none 0 0) = us := by
    apply List.ext_getElem?
    intro k
    by_cases hk : k = j
    · subst hk; rw [this]; simp [show k < us.length by omega]
    · rw [List.getElem?_set_ne (by omega)]
  have := hB.set j (.slice none 0 0)
  rw [e] at this
  exact hB.trans this.symm
theorem Data.blk {w : World} {D d L j : Nat} {l : List Nat} (h : Data w D d L j l) : ∃ us : List Value, us.length = d ∧ Blk w D 71 us := by
  obtain ⟨us, hlen, hB, _⟩ := h; exact ⟨us, hlen, hB⟩
theorem Laid.cell' {w W : World} {D d i : Nat} {v : Value} {us : List Value} (h : Laid w W D i v) (hB : Blk w D 71 us) (hl : us.length = d) (hi : i < d) : W.cell? ⟨D, i, none⟩ = some v ∧ W.frozen? ⟨D, i, none⟩ = false := by
  have e : Blk W D 71 (us.set i v) := h.row.trans (hB.set i v)
  exact ⟨e.cell_some (by simp [show i < us.length by omega]), e.free i⟩
/-- The first t bytes of a piece. -/
def upTo (l : List Nat) (L j t : Nat) : List Value := (bytesV (cutAt l L j)).take t
theorem upTo_next (l : List Nat) (L j t : Nat) (ht : t < L) : upTo l L j t ++ [.int .u8 ((l.getD (j * L + t) 0 : Nat) : Int)] = upTo l L j (t + 1) := by
  have hlen : t < (bytesV (cutAt l L j)).length := by simp [cutAt]; exact ht
  unfold upTo
  rw [List.take_add_one, List.getElem?_eq_getElem hlen, bytesV_getElem]
  simp [cutAt]

theorem owns_slice {w : World} {base : Nat} {e : TypeId} {v : Value} {n : Nat} {xs : List Value} (h : w.ownsRow base e 1 v n xs) : ∃ ao c, v = .slice ao n c := by
  rcases h.2 with ⟨rfl, rfl⟩ | ⟨g, cap, cur, rfl, _⟩
  · exact ⟨_, _, rfl⟩
  · exact ⟨_, _, rfl⟩
theorem cuts_bytes (l : List Nat) (d L i : Nat) (hb : Bytes l) (hi : i < (cuts l d L).length) : Bytes (cuts l d L)[i] := by
  intro x hx
  simp [cuts, cutAt] at hx
  obtain ⟨t, _, rfl⟩ := hx
  exact hb.getD _
theorem nums_get (s : ByteArray) (q : Nat) (h : q < s.size) : (nums s).getD q 0 = (s[q]'h).toNat := by
  have hl : q < (nums s).length := by rw [nums_length]; exact h
  rw [List.getD_eq_getElem?_getD, List.getElem?_eq_getElem hl, Option.getD_some]
  simp only [nums, List.getElem_map, Array.getElem_toList]
  rfl

set_option maxRecDepth 100000 in
set_option maxHeartbeats 2000000 in
theorem rSpread_ok (d s x : Nat) (str : ByteArray) (L : Nat) (hd : 1 ≤ d) (hd2 : d ≤ 10) (hs : s ≤ 6) (hx : x ≤ 2) (hn : str.size ≤ 400) (hL : L = (str.size + d - 1) / d) (w : World) :
    Calls Tryd.prog 52 #[.int .i64 d, .int .i64 s, .int .i64 x, .string str] w fun e w' =>
      ∃ v, e = .returned (.tuple #[v, .int .i64 0]) ∧ StrsAt w' v (texts (cuts (nums str) d L) (sums (facs d s) (cuts (nums str) d L) L)) ∧ Below w.heap.size w w' := by
  have hok : okCounts d s = true := okCounts_yes _ _ (by omega)
  have how : okWay x = true := okWay_yes _ (by omega)
  have hLs : L ≤ 400 := by have := ceil_le str.size d hd; omega
  have hmk := fun w => make_rows d (by omega) w
  have hdec : decide ((400 : Int) < (str.size : Int)) = false := by simp; omega
  have HL : Hid (L = (str.size + d - 1) / d) := hL
  clear hL
  go_enter Tryd.func52, Tryd.ntmps52
  go_wp2_with fail
  refine (rCounts_any _ _ _).mono ?_
  rintro e w' ⟨rfl, rfl⟩
  go_wp2_with fail
  refine (rWay_any _ _).mono ?_
  rintro e w' ⟨rfl, rfl⟩
  go_wp2_with fail
  refine (size_any d str.size hd (by omega) (by omega) _).mono ?_
  rintro e w' ⟨rfl, rfl⟩
  rw [← HL.out]
  go_wp2
  go_loopw [13] (fun jv wr => ∃ j : Nat, j ≤ d ∧ jv = .int .i64 j ∧ Data wr w'.heap.size d L j (nums str) ∧ Below w'.heap.size w' wr) (fun jv _ => d - (intOf jv).toNat)
  case atStart => exact ⟨0, Nat.zero_le _, rfl, Data.start w' d L _, (Below.refl _ _).alloc (Nat.le_refl _) _⟩
  case round =>
    obtain ⟨j, hj, rfl, hdat, hbel⟩ := hrel
    obtain ⟨wi, rfl⟩ : ∃ wi, wi = wr := ⟨_, rfl⟩
    by_cases hjlt : j < d
    · obtain ⟨us, husl, husB⟩ := hdat.blk
      have hDlt := husB.lt
      have hszi := hbel.size
      have HD : Hid (Data wi w'.heap.size d L j (nums str)) := hdat
      have HFI : Hid (Laid wi wi w'.heap.size j (.slice none 0 0)) := hdat.first hjlt
      have HUB : Hid (Blk wi w'.heap.size 71 us) := husB
      obtain ⟨m, hm⟩ : ∃ m, m = j * L := ⟨_, rfl⟩
      have hm2 : m ≤ 4000 := by rw [hm]; exact Nat.mul_le_mul (by omega : j ≤ 10) hLs
      have em : (j : Int) * (L : Int) = (m : Int) := by rw [hm]; simp
      have HM : Hid (m = j * L) := hm
      clear hdat husB hm
      go_wp2
      go_loopw [14] (fun tv wq => ∃ (t : Nat) (v : Value), t ≤ L ∧ tv = .int .i64 t ∧ Laid wi wq w'.heap.size j v ∧ wq.ownsRow wi.heap.size 5 1 v t (upTo (nums str) L j t) ∧ Below w'.heap.size w' wq) (fun tv _ => L - (intOf tv).toNat)
      case atStart => exact ⟨0, _, Nat.zero_le _, rfl, HFI.out, World.ownsRow_nil _ _ _ _, hbel⟩
      case round =>
        obtain ⟨t, v, ht, rfl, hlaid, hown, hbq⟩ := hrel
        have hszq := hlaid.size
        have hDr : w'.heap.size < wr.heap.size := by omega
        have hDn : w'.heap.size ≠ wr.heap.size := by omega
        by_cases htlt : t < L
        · obtain ⟨hc1, hf1⟩ := Laid.cell' hlaid HUB.out husl hjlt
          by_cases hin : m + t < str.size
          · obtain ⟨q, hq⟩ : ∃ q, q = m + t := ⟨_, rfl⟩
            have hqs : q < str.size := by omega
            have eq : (m : Int) + (t : Int) = (q : Int) := by omega
            have hch : (nums str).getD q 0 = (str[q]'hqs).toNat := nums_get str q hqs
            have HNX : Hid (upTo (nums str) L j t ++ [.int .u8 ((str[q]'hqs).toNat : Int)] = upTo (nums str) L j (t + 1)) := by
              show _ = _
              rw [← hch, hq, HM.out]; exact upTo_next _ _ _ _ htlt
            clear hch hq hin
            have hwm : IntKind.i64.wrap (m : Int) = m := by rw [IntKind.wrap_i64]; omega
            have hwq : IntKind.i64.wrap (q : Int) = (q : Int) := by rw [IntKind.wrap_i64]; omega
            have hdq : decide ((q : Int) < (str.size : Int)) = true := by simp; omega
            go_wp2_with fail
            go_region_law (refine step_append_one rfl _ _ 71 rfl wi.heap.size 5 (.int .u8 0) 1 Tryd.underlying71 infoByte rfl (by decide) v t _ (by simp [Act.eval]) (by exact (hown.alloc _).drew) ⟨wr.heap.size, 0, none⟩ 1 (.int .u8 ((str[q]'hqs).toNat : Int)) (by simp [Act.eval]) (by exact (Blk.new wr _ _).cell_some rfl) rfl (by omega) (by simp; omega) ?_; rw [HNX.out]; intro v' w2 hown' hbel'; obtain ⟨va, vc, rfl⟩ := owns_slice hown'; have hb2 := hbel' wi.heap.size wr ((Below.refl _ _).alloc hszq _).drew (Nat.le_refl _); have c2 := (hb2.cell (p := ⟨w'.heap.size, j, none⟩) (by exact hDlt)).trans hc1; have f2 := (hb2.frozen (p := ⟨w'.heap.size, j, none⟩) (by exact hDlt)).trans hf1)
            all_goals
              go_wp2
              go_roundw
              case rel => exact ⟨t + 1, _, by omega, by go_num, hlaid.again hb2 HUB.out, ownsRow_setCell_below hown' (by exact hDlt) _, (hbq.trans (hb2.mono hszi)).setCell (Nat.le_refl _) _⟩
              case measure => simp [intOf]; omega
          · have HNX : Hid (upTo (nums str) L j t ++ [.int .u8 0] = upTo (nums str) L j (t + 1)) := by
              show _ = _
              rw [← upTo_next _ _ _ _ htlt, ← HM.out]
              rw [show (nums str).getD (m + t) 0 = 0 by simp [List.getElem?_eq_none (show (nums str).length ≤ m + t by rw [nums_length]; omega)]]
              rfl
            obtain ⟨va0, vc0, rfl⟩ := owns_slice hown
            go_wp2_with (at_builtin; refine wpList_append_one _ rfl _ _ 71 rfl wi.heap.size 5 (.int .u8 0) 1 Tryd.underlying71 infoByte rfl (by decide) _ t _ rfl (by exact hown.alloc _) ⟨wr.heap.size, 0, none⟩ 1 (.int .u8 0) rfl (by exact (Blk.new wr _ _).cell_some rfl) rfl (by omega) (by simp; omega) ?_; rw [HNX.out]; intro v' w2 hown' hbel'; obtain ⟨va, vc, rfl⟩ := owns_slice hown'; have hb2 := hbel' wi.heap.size wr ((Below.refl _ _).alloc hszq _) (Nat.le_refl _); have c2 := (hb2.cell (p := ⟨w'.heap.size, j, none⟩) (by exact hDlt)).trans hc1; have f2 := (hb2.frozen (p := ⟨w'.heap.size, j, none⟩) (by exact hDlt)).trans hf1)
            all_goals
              go_wp2
              go_roundw
              case rel => exact ⟨t + 1, _, by omega, by go_num, hlaid.again hb2 HUB.out, ownsRow_setCell_below hown' (by exact hDlt) _, (hbq.trans (hb2.mono hszi)).setCell (Nat.le_refl _) _⟩
              case measure => simp [intOf]; omega
        · obtain rfl : t = L := by omega
          have ho0 : wr.ownsRow 0 5 1 v t (bytesV (cutAt (nums str) t j)) := by
            have e : upTo (nums str) t j t = bytesV (cutAt (nums str) t j) := List.take_of_length_le (by simp [cutAt])
            rw [e] at hown
            obtain ⟨h1, h2⟩ := hown
            refine ⟨h1, ?_⟩
            rcases h2 with h2 | ⟨g, cap, cur, hv, hg, r⟩
            · exact Or.inl h2
            · exact Or.inr ⟨g, cap, cur, hv, Nat.zero_le _, r⟩
          have R := HD.out.laid hjlt hlaid ho0
          go_wp2
          go_roundw
          case rel => exact ⟨j + 1, by omega, by go_num, R, hbq⟩
          case measure => simp [intOf]; omega
    · obtain rfl : j = d := by omega
      have hrows := hdat.rows
      have hcl : (cuts (nums str) j L).length = j := by simp [cuts]
      have hal := all_any (cuts (nums str) j L) L s _ wi hrows (by omega) (by omega) (by omega) (fun i hi => by simp [cuts, cutAt]) (fun i hi => cuts_bytes _ _ _ _ (nums_bytes _) _) (by omega)
      rw [hcl] at hal
      clear hdat hrows hcl
      go_wp2_with fail
      refine Calls.mono hal ?_
      rintro e w2 ⟨v, rfl, hst, hb2⟩
      go_wp2
      go_ret2
      exact ⟨v, rfl, hst.at, hbel.trans (hb2.mono hbel.size)⟩
end Go.Proofs.YtmlnejlhgbonpaaDoor.Ref
