import Derived.Test.YtokmllopbfmadaaDoorGBits
import Derived.Test.YtokmllopbfmadaaDoorGGf
import Derived.Lib.SliceRun
namespace Go.Proofs.YtokmllopbfmadaaDoor.Plans
open Go.RowKit Mem

/-- How often x comes ahead of y, with y among the first k places. -/
def occTo (l : List Nat) : Nat → Nat → Nat → Nat
  | 0, _, _ => 0
  | k + 1, x, y => occTo l k x y + (if l.getD k 0 = y then (l.take k).count x else 0)
/-- The counts behind k places, and i more. -/
def cntF (f : Nat → Nat → Int) (by' : Int) (l : List Nat) (k i : Nat) : Nat → Nat → Int := fun x y => f x y + by' * ((occTo l k x y : Nat) : Int) + by' * (((if l.getD k 0 = y then (l.take i).count x else 0 : Nat)) : Int)
theorem occTo_le (l : List Nat) (x y : Nat) : ∀ k, occTo l k x y ≤ k * l.length
  | 0 => by simp [occTo]
  | k + 1 => by
    have := occTo_le l x y k
    have h2 : (if l.getD k 0 = y then (l.take k).count x else 0) ≤ l.length := by
      split
      · exact Nat.le_trans List.count_le_length (List.length_take_le' ..)
      · omega
    rw [occTo, Nat.add_mul, Nat.one_mul]; omega
theorem cntF_next (f : Nat → Nat → Int) (by' : Int) (l : List Nat) (k i : Nat) (hi : i < l.length) : ∀ x y, upd2 (cntF f by' l k i) l[i] (l.getD k 0) (cntF f by' l k i l[i] (l.getD k 0) + by') x y = cntF f by' l k (i + 1) x y := by
  intro x y
  unfold upd2 cntF
  have e : l.take (i + 1) = l.take i ++ [l[i]] := by rw [List.take_add_one, List.getElem?_eq_getElem hi]; rfl
  rw [e]
  simp only [List.count_append, List.count_singleton]
  by_cases h : x = l[i] ∧ y = l.getD k 0
  · rw [if_pos h, h.1, h.2]; simp; rw [Int.mul_add, Int.mul_one]; omega
  · rw [if_neg h]
    by_cases hy : l.getD k 0 = y
    · rw [if_pos hy, if_pos hy]
      have : (l[i] == x) = false := by simp; exact fun e => h ⟨e.symm, hy.symm⟩
      rw [this]; simp
    · rw [if_neg hy, if_neg hy]
theorem cntF_round (f : Nat → Nat → Int) (by' : Int) (l : List Nat) (k : Nat) : ∀ x y, cntF f by' l k k x y = cntF f by' l (k + 1) 0 x y := by
  intro x y
  unfold cntF
  rw [occTo]
  simp only [List.take_zero, List.count_nil, ite_self]
  simp [Int.mul_add, Int.add_assoc]
theorem cntF_zero (f : Nat → Nat → Int) (by' : Int) (l : List Nat) : ∀ x y, f x y = cntF f by' l 0 0 x y := by
  intro x y; simp [cntF, occTo]
theorem cntF_le (f : Nat → Nat → Int) (by' : Int) (l : List Nat) (k i : Nat) (hb : by' = 1 ∨ by' = -1) (hf : ∀ x y, -1000000 ≤ f x y ∧ f x y ≤ 1000000) (hl : l.length ≤ 1000) (hk : k ≤ l.length) : ∀ x y, -3000000 ≤ cntF f by' l k i x y ∧ cntF f by' l k i x y ≤ 3000000 := by
  intro x y
  have h1 := occTo_le l x y k
  have h3 : k * l.length ≤ 1000 * 1000 := Nat.mul_le_mul (by omega) hl
  have h2 : (if l.getD k 0 = y then (l.take i).count x else 0) ≤ l.length := by
    split
    · exact Nat.le_trans List.count_le_length (List.length_take_le' ..)
    · omega
  have h4 := hf x y
  unfold cntF
  generalize occTo l k x y = A at *
  generalize (if l.getD k 0 = y then (l.take i).count x else 0) = B at *
  rcases hb with rfl | rfl <;> constructor <;> omega
theorem PM.ints {w w' : World} {b n : Nat} {f : Nat → Nat → Int} {v : Value} {l : List Nat} (h : PM w b n f) (hb : But b w w') (hi : IntsAt w v l) : IntsAt w' v l := by
  obtain ⟨ao, cap, rfl, hcap, hx⟩ := hi
  refine ⟨ao, cap, rfl, hcap, ?_⟩
  rcases hx with hx | ⟨g, us, rfl, hg, hc⟩
  · exact .inl hx
  · exact .inr ⟨g, us, rfl, hb.blk hg (h.ne hg), hc⟩
theorem grown_but {w w' : World} {b : Nat} (h : w.grownBy w' (some b)) : But b w w' := ⟨h.os, h.tape, h.output, h.size, fun i hi hlt => h.block i hlt (by simpa using hi)⟩

set_option maxRecDepth 100000 in
set_option maxHeartbeats 1000000 in
theorem count_any (l : List Nat) (by' : Int) (f : Nat → Nat → Int) (M n : Nat) (lv sv : Value) (w : World) (hs : IntsAt w sv l) (hM : PM w M n f) (hb : by' = 1 ∨ by' = -1) (hf : ∀ x y, -1000000 ≤ f x y ∧ f x y ≤ 1000000) (hl : l.length ≤ 1000) (hx : ∀ x, x ∈ l → x < 1000000) (hn : n ≤ 1000000000) :
    Calls Tryd.prog 122 #[.agg #[lv, .map (some M)], sv, .int .i64 by'] w fun e w' => e = .returned (.tuple #[]) ∧ PM w' M (n + l.length * l.length) (cntF f by' l l.length 0) ∧ But M w w' := by
  obtain ⟨ao, cap, rfl, hcap, hx0⟩ := hs
  have hMlt := hM.lt
  have HM : Hid (PM w M n f) := hM
  clear hM
  go_enter Tryd.func122, Tryd.ntmps122
  go_wp2
  have HX0 : Hid (l = [] ∨ ∃ g us, ao = some ⟨g, 0, none⟩ ∧ Blk w g 3 us ∧ ∀ k, (h : k < l.length) → us[k]? = some (.int .i64 (l[k] : Nat))) := hx0
  clear hx0
  go_loopw [12] (fun kv wr => ∃ k : Nat, k ≤ l.length ∧ kv = .int .i64 k ∧ PM wr M (n + k * l.length) (cntF f by' l k 0) ∧ Blk wr w.heap.size 139 [lv, .map (some M)] ∧ But M w wr) (fun kv _ => l.length - (intOf kv).toNat)
  case atStart =>
    refine ⟨0, Nat.zero_le _, rfl, ?_, Blk.new w _ _, (But.refl _ _).alloc _⟩
    rw [Nat.zero_mul, Nat.add_zero]
    exact (HM.out.alloc _).eq (cntF_zero f by' l)
  case round =>
    obtain ⟨k, hk, rfl, hpm, hbox, hbut⟩ := hrel
    by_cases hlt : k < l.length
    · obtain ⟨g, us, rfl, hg, hus⟩ : ∃ g us, ao = some ⟨g, 0, none⟩ ∧ Blk w g 3 us ∧ ∀ k, (h : k < l.length) → us[k]? = some (.int .i64 (l[k] : Nat)) := by
        rcases HX0.out with h | h
        · rw [h] at hlt; simp at hlt
        · exact h
      have hgM := HM.out.ne hg
      have hg1 := hbut.blk hg hgM
      have hck := hg1.cell_some (hus k hlt)
      have HG : Hid (Blk w g 3 us) := hg
      have HUS : Hid (∀ k, (h : k < l.length) → us[k]? = some (.int .i64 (l[k] : Nat))) := hus
      have HBOX : Hid (Blk wr w.heap.size 139 [lv, .map (some M)]) := hbox
      have HPM : Hid (PM wr M (n + k * l.length) (cntF f by' l k 0)) := hpm
      have HBUT : Hid (But M w wr) := hbut
      clear hg hg1 hus hpm hbut hbox
      have q1 : (k : Int) ≤ (cap : Int) := by omega
      have q2 : ¬ cap = 0 := by omega
      have hxk : l[k] < 1000000 := hx _ (List.getElem_mem hlt)
      have HGD : Hid (l.getD k 0 = l[k]) := by show _ = _; simp [hlt]
      generalize l[k] = y at hck hxk HGD
      obtain ⟨n1, hn1⟩ : ∃ n1, n1 = n + k * l.length := ⟨_, rfl⟩
      rw [← hn1] at HPM
      have hn1' : n1 ≤ 1001000000 := by
        have : k * l.length ≤ 1000 * 1000 := Nat.mul_le_mul (by omega) hl
        omega
      have HN1 : Hid (n1 = n + k * l.length) := hn1
      clear hn1
      go_wp2
      clear hck
      obtain ⟨wo, rfl⟩ : ∃ wo, wo = wr := ⟨_, rfl⟩
      go_loopw [21] (fun iv wq => ∃ i : Nat, i ≤ k ∧ iv = .int .i64 i ∧ PM wq M (n1 + i) (cntF f by' l k i) ∧ Blk wq w.heap.size 139 [lv, .map (some M)] ∧ But M w wq) (fun iv _ => k - (intOf iv).toNat)
      case atStart => exact ⟨0, Nat.zero_le _, rfl, HPM.out, HBOX.out, HBUT.out⟩
      case round =>
        clear HPM HBOX HBUT
        obtain ⟨i, hi, rfl, hpm, hbox, hbut⟩ := hrel
        by_cases hilt : i < k
        · have hil : i < l.length := by omega
          have hg1 := hbut.blk HG.out hgM
          have hci := hg1.cell_some (HUS.out i hil)
          have hxi : l[i] < 1000000 := hx _ (List.getElem_mem hil)
          have HNX : Hid (∀ x' y', upd2 (cntF f by' l k i) l[i] (l.getD k 0) (cntF f by' l k i l[i] (l.getD k 0) + by') x' y' = cntF f by' l k (i + 1) x' y') := cntF_next f by' l k i hil
          have hle := cntF_le f by' l k i hb hf hl (by omega) l[i] (l.getD k 0)
          rw [HGD.out] at HNX hle
          have hb0 := hbox.cell_some (k := 0) (v := lv) rfl
          have hb1 := hbox.cell_some (k := 1) (v := .map (some M)) rfl
          generalize l[i] = x at hci hxi HNX hle
          obtain ⟨c, hc⟩ : ∃ c, c = cntF f by' l k i x y := ⟨_, rfl⟩
          rw [← hc] at HNX hle
          have hby : IntKind.i64.wrap (c + by') = c + by' := by rw [IntKind.wrap_i64]; rcases hb with rfl | rfl <;> omega
          have hok : okI (c + by') := by
            have h1 : IntKind.i64.min = -9223372036854775808 := rfl
            have h2 : IntKind.i64.max = 9223372036854775807 := rfl
            unfold okI; simp [Lit.wf, h1, h2]; rcases hb with rfl | rfl <;> omega
          obtain ⟨v0, st, w1, w2, r1, r2, r3, r4, r5, r6⟩ := (PM.drew hpm).step x y hxi hxk (c + by') hok (by unfold maxLen; omega)
          rw [← hc] at r2 r3
          have HP2 : Hid (PM w2 M (n1 + i + 1) (cntF f by' l k (i + 1))) := r5.eq HNX.out
          have HB2 : Hid (But M w w2) := hbut.drew.trans (grown_but r6)
          have HX2 : Hid (Blk w2 w.heap.size 139 [lv, .map (some M)]) := (grown_but r6).blk hbox ((PM.drew hpm).ne (by exact hbox))
          simp only [kv, goInt] at r1 r2 r3 r4
          clear r5 r6 hg1 HNX hle hok hpm hbox hc
          go_wp2
          go_region
          go_wp2
          go_roundw
          case rel => exact ⟨i + 1, by omega, by go_num, HP2.out, HX2.out, HB2.out⟩
          case measure => simp [intOf]; omega
        · obtain rfl : i = k := by omega
          have HP3 : Hid (PM wr M (n + (i + 1) * l.length) (cntF f by' l (i + 1) 0)) := by
            have e := HN1.out
            refine (hpm.mono ?_).eq (cntF_round f by' l i)
            rw [e, Nat.add_mul, Nat.one_mul]; omega
          have HX3 : Hid (Blk wr w.heap.size 139 [lv, .map (some M)]) := hbox
          have HB3 : Hid (But M w wr) := hbut
          clear hpm hbox hbut
          go_wp2
          go_roundw
          case rel => exact ⟨i + 1, by omega, by go_num, HP3.out, HX3.out, HB3.out⟩
          case measure => simp [intOf]; omega
    · obtain rfl : k = l.length := by omega
      go_wp2
      go_end0
      exact ⟨rfl, hpm, hbut⟩
end Go.Proofs.YtokmllopbfmadaaDoor.Plans

namespace Go.Proofs.YtokmllopbfmadaaDoor.Plans
open Go.RowKit Mem

/-- Does the list have this pair? -/
def one (l : List Nat) (x y : Nat) : Nat := if x < y ∧ x ∈ l ∧ y ∈ l then 1 else 0
theorem count_rising {l : List Nat} (hp : l.Pairwise (· < ·)) (x : Nat) : l.count x = if x ∈ l then 1 else 0 := by
  by_cases h : x ∈ l
  · rw [if_pos h]
    have hn : l.Nodup := hp.imp (fun h => by omega)
    have h1 := List.nodup_iff_count.1 hn x
    have h2 := List.count_pos_iff.2 h
    omega
  · rw [if_neg h, List.count_eq_zero_of_not_mem h]
theorem occ_to {l : List Nat} (hp : l.Pairwise (· < ·)) (x y : Nat) : ∀ k, k ≤ l.length → occTo l k x y = one (l.take k) x y
  | 0, _ => by simp [occTo, one]
  | k + 1, hk => by
    have hlt : k < l.length := by omega
    have ih := occ_to hp x y k (by omega)
    have e : l.take (k + 1) = l.take k ++ [l[k]] := by rw [List.take_add_one, List.getElem?_eq_getElem hlt]; rfl
    have hgt : ∀ z, z ∈ l.take k → z < l[k] := by
      intro z hz
      have h2 := hp.sublist (List.take_sublist (k + 1) l)
      rw [e, List.pairwise_append] at h2
      exact h2.2.2 z hz l[k] (by simp)
    have hgd : l.getD k 0 = l[k] := by simp [hlt]
    rw [occTo, ih, hgd, count_rising (hp.sublist (List.take_sublist k l)), e]
    generalize l[k] = z at hgt
    generalize l.take k = t at hgt
    unfold one
    simp only [List.mem_append, List.mem_singleton]
    by_cases hzy : z = y
    · subst hzy
      have hn : ¬ z ∈ t := fun h => by have := hgt z h; omega
      by_cases hx : x ∈ t
      · have := hgt x hx
        simp [hx, hn, this]
      · by_cases hxz : x = z
        · subst hxz; simp [hn]
        · simp [hx, hn, hxz]
    · rw [if_neg hzy]
      have hyz : ¬ y = z := fun h => hzy h.symm
      by_cases hy : y ∈ t
      · have := hgt y hy
        by_cases hxz : x = z
        · subst hxz
          have : ¬ x < y := by omega
          simp [this]
        · simp [hy, hyz, hxz]
      · simp [hy, hyz]
theorem occ_rising {l : List Nat} (hp : l.Pairwise (· < ·)) (x y : Nat) : occTo l l.length x y = one l x y := by
  have := occ_to hp x y l.length (Nat.le_refl _)
  rwa [List.take_length] at this
theorem cnt_cons (l : List Nat) (L : List (List Nat)) (x y : Nat) : cnt (l :: L) x y = cnt L x y + one l x y := by
  unfold cnt one
  by_cases h : x < y
  · simp only [h, if_true, true_and]
    rw [List.countP_cons]
    simp only [both_iff]
  · simp [h]
theorem cnt_set : ∀ (L : List (List Nat)) (i : Nat) (l' : List Nat) (x y : Nat), i < L.length → cnt (L.set i l') x y + one (L.getD i []) x y = cnt L x y + one l' x y
  | [], i, l', x, y, h => by simp at h
  | l :: L, 0, l', x, y, h => by simp only [List.set_cons_zero, List.getD_cons_zero]; rw [cnt_cons, cnt_cons]; omega
  | l :: L, i + 1, l', x, y, h => by
    have := cnt_set L i l' x y (by simpa using h)
    simp only [List.set_cons_succ, List.getD_cons_succ]; rw [cnt_cons, cnt_cons]; omega
theorem cnt_le (L : List (List Nat)) (x y : Nat) : cnt L x y ≤ L.length := by
  unfold cnt; split
  · exact List.countP_le_length
  · omega
def cntI (L : List (List Nat)) : Nat → Nat → Int := fun x y => (cnt L x y : Nat)
theorem cntI_le (L : List (List Nat)) (h : L.length ≤ 1000) : ∀ x y, -1000000 ≤ cntI L x y ∧ cntI L x y ≤ 1000000 := by
  intro x y; have := cnt_le L x y; unfold cntI; omega
/-- One list more, one list less. -/
theorem count_set (L : List (List Nat)) (i : Nat) (l' : List Nat) (hi : i < L.length) (h0 : L.getD i [] = []) (hp : l'.Pairwise (· < ·)) : ∀ x y, cntF (cntI L) 1 l' l'.length 0 x y = cntI (L.set i l') x y := by
  intro x y
  have := cnt_set L i l' x y hi
  rw [h0] at this
  have e : one [] x y = 0 := by simp [one]
  unfold cntF cntI
  rw [occ_rising hp]
  simp only [List.take_zero, List.count_nil, ite_self]
  omega
theorem count_set2 (L : List (List Nat)) (i : Nat) (l' : List Nat) (hi : i < L.length) (hp0 : (L.getD i []).Pairwise (· < ·)) (hp : l'.Pairwise (· < ·)) : ∀ x y, cntF (cntF (cntI L) (-1) (L.getD i []) (L.getD i []).length 0) 1 l' l'.length 0 x y = cntI (L.set i l') x y := by
  intro x y
  have := cnt_set L i l' x y hi
  unfold cntF cntI
  rw [occ_rising hp, occ_rising hp0]
  simp only [List.take_zero, List.count_nil, ite_self]
  omega
/-- The lists of a piece in memory: block B holds their slices, each has a row of its own. -/
def LS (w : World) (B base : Nat) (L : List (List Nat)) : Prop :=
  ∃ vs : List Value, vs.length = L.length ∧ Blk w B 45 vs ∧ (∀ i v, vs[i]? = some v → w.ownsRow base 3 1 v (L.getD i []).length (intsV (L.getD i []))) ∧
    ∀ (i j : Nat) (vi vj : Value), i ≠ j → vs[i]? = some vi → vs[j]? = some vj → ∀ g, vi.ownBlock = some g → vj.ownBlock ≠ some g
/-- A row that is owned stays, where its block does. -/
theorem own_keep {w w' : World} {base n : Nat} {v : Value} {xs : List Value} (h : w.ownsRow base 3 1 v n xs) (hk : ∀ g us, v.ownBlock = some g → Blk w g 3 us → w'.heap[g]? = w.heap[g]?) : w'.ownsRow base 3 1 v n xs := by
  obtain ⟨h1, h2⟩ := h
  refine ⟨h1, ?_⟩
  rcases h2 with h2 | ⟨g, cap, cur, rfl, hg, hh, r⟩
  · exact .inl h2
  · exact .inr ⟨g, cap, cur, rfl, hg, by rw [hk g cur.toList rfl (by unfold Blk; rw [hh])]; exact hh, r⟩
theorem LS.keep {w w' : World} {B base : Nat} {L : List (List Nat)} (h : LS w B base L) (hB : w'.heap[B]? = w.heap[B]?) (hk : ∀ g us, Blk w g 3 us → w'.heap[g]? = w.heap[g]?) : LS w' B base L := by
  obtain ⟨vs, h1, h2, h3, h4⟩ := h
  exact ⟨vs, h1, by unfold Blk; rw [hB]; exact h2, fun i v hv => own_keep (h3 i v hv) (fun g us _ hg => hk g us hg), h4⟩
theorem LS.lt {w : World} {B base : Nat} {L : List (List Nat)} (h : LS w B base L) : B < w.heap.size := by
  obtain ⟨vs, h1, h2, _⟩ := h; exact h2.lt
theorem LS.to {w w' : World} {B base : Nat} {L : List (List Nat)} (h : LS w B base L) (hb : Below w.heap.size w w') : LS w' B base L :=
  h.keep (hb.block B h.lt) (fun g _ hg => hb.block g hg.lt)
theorem LS.map {w w' : World} {B base M n : Nat} {f : Nat → Nat → Int} {L : List (List Nat)} (h : LS w B base L) (hM : PM w M n f) (hb : But M w w') : LS w' B base L := by
  have hB : B ≠ M := by obtain ⟨vs, _, h2, _⟩ := h; exact hM.ne h2
  exact h.keep (hb.rest B hB h.lt) (fun g _ hg => hb.rest g (hM.ne hg) hg.lt)
/-- The slice of one list. -/
theorem LS.at {w : World} {B base : Nat} {L : List (List Nat)} (h : LS w B base L) {i : Nat} (hi : i < L.length) : ∃ v, w.cell? ⟨B, i, none⟩ = some v ∧ w.ownsRow base 3 1 v (L.getD i []).length (intsV (L.getD i [])) := by
  obtain ⟨vs, h1, h2, h3, h4⟩ := h
  have hv : vs[i]? = some (vs[i]'(by omega)) := List.getElem?_eq_getElem (by omega)
  exact ⟨_, h2.cell_some hv, h3 i _ hv⟩
theorem LS.free {w : World} {B base : Nat} {L : List (List Nat)} (h : LS w B base L) (i : Nat) : w.frozen? ⟨B, i, none⟩ = false := by
  obtain ⟨vs, h1, h2, h3, h4⟩ := h; exact h2.free i
theorem own_base {w : World} {base base' n : Nat} {v : Value} {xs : List Value} (h : w.ownsRow base 3 1 v n xs) (hb : base' ≤ base) : w.ownsRow base' 3 1 v n xs := by
  obtain ⟨h1, h2⟩ := h
  refine ⟨h1, ?_⟩
  rcases h2 with h2 | ⟨g, cap, cur, rfl, hg, r⟩
  · exact .inl h2
  · exact .inr ⟨g, cap, cur, rfl, by omega, r⟩
theorem own_block {w : World} {base n : Nat} {v : Value} {xs : List Value} (h : w.ownsRow base 3 1 v n xs) : ∀ g, v.ownBlock = some g → base ≤ g := by
  intro g hv
  rcases h.2 with ⟨rfl, _⟩ | ⟨g', cap, cur, rfl, hg, r⟩
  · cases hv
  · obtain rfl := Option.some.inj hv; exact hg
/-- One list is written anew: its row is its own, or a new one. -/
theorem LS.put {w w1 : World} {B base i : Nat} {L : List (List Nat)} {v v' : Value} {l' : List Nat} (h : LS w B base L) (hi : i < L.length) (hv : w.cell? ⟨B, i, none⟩ = some v)
    (hB : w1.heap[B]? = w.heap[B]?) (hrest : ∀ g us, Blk w g 3 us → v.ownBlock ≠ some g → w1.heap[g]? = w.heap[g]?) (hown : w1.ownsRow base 3 1 v' l'.length (intsV l'))
    (hblk : ∀ g, v'.ownBlock = some g → v.ownBlock = some g ∨ w.heap.size ≤ g) : LS (w1.setCell ⟨B, i, none⟩ v') B base (L.set i l') := by
  obtain ⟨vs, h1, h2, h3, h4⟩ := h
  have hvi : vs[i]? = some (vs[i]'(by omega)) := List.getElem?_eq_getElem (by omega)
  have e : v = vs[i]'(by omega) := by
    have := h2.cell_some hvi
    rw [hv] at this; exact Option.some.inj this
  have h21 : Blk w1 B 45 vs := by unfold Blk; rw [hB]; exact h2
  have hne : ∀ g us, Blk w1 g 3 us → g ≠ B := fun g us hg => hg.type_ne h21 (by decide)
  have hkeep : ∀ (vx : Value) (n : Nat) (xs : List Value), w1.ownsRow base 3 1 vx n xs → (w1.setCell ⟨B, i, none⟩ v').ownsRow base 3 1 vx n xs := fun vx n xs ho => own_keep ho (fun g us _ hg => Below.heap_setCell w1 _ v' g (hne g us hg))
  refine ⟨vs.set i v', by simp [h1], h21.set i v', fun j u hu => ?_, fun j k vj vk hjk hj hk g hg => ?_⟩
  · by_cases ej : i = j
    · subst ej
      rw [List.getElem?_set_self (by omega)] at hu
      obtain rfl := Option.some.inj hu
      have e2 : (L.set i l').getD i [] = l' := by simp [List.getD_eq_getElem?_getD, hi]
      rw [e2]
      exact hkeep _ _ _ hown
    · rw [List.getElem?_set_ne ej] at hu
      have e2 : (L.set i l').getD j [] = L.getD j [] := by simp [List.getD_eq_getElem?_getD, ej]
      rw [e2]
      refine hkeep _ _ _ (own_keep (h3 j u hu) (fun g us hug hg => hrest g us hg ?_))
      intro hvg
      exact h4 i j v u ej (by rw [e]; exact hvi) hu g hvg hug
  · have hold : ∀ (k : Nat) (u : Value) (g : Nat), vs[k]? = some u → u.ownBlock = some g → g < w.heap.size := fun k u g hu hg => by
      have := h3 k u hu
      rcases this.2 with ⟨rfl, _⟩ | ⟨g', cap, cur, rfl, _, hh, _⟩
      · cases hg
      · obtain rfl := Option.some.inj hg; exact lt_of_block hh
    by_cases ej : i = j
    · subst ej
      rw [List.getElem?_set_self (by omega)] at hj
      obtain rfl := Option.some.inj hj
      rw [List.getElem?_set_ne (by omega)] at hk
      intro hkg
      rcases hblk g hg with h | h
      · exact h4 i k v vk hjk (by rw [e]; exact hvi) hk g h hkg
      · have := hold k vk g hk hkg; omega
    · rw [List.getElem?_set_ne ej] at hj
      by_cases ek : i = k
      · subst ek
        rw [List.getElem?_set_self (by omega)] at hk
        obtain rfl := Option.some.inj hk
        intro hkg
        rcases hblk g hkg with h | h
        · exact h4 j i vj v (by omega) hj (by rw [e]; exact hvi) g hg h
        · have := hold j vj g hj hg; omega
      · rw [List.getElem?_set_ne ek] at hk
        exact h4 j k vj vk hjk hj hk g hg
theorem LS.made (w : World) (B base m : Nat) (h : Blk w B 45 (List.replicate m (.slice none 0 0))) : LS w B base (List.replicate m []) := by
  refine ⟨_, by simp, h, fun i v hv => ?_, fun i j vi vj _ hi _ g hg => ?_⟩
  · have hlt : i < m := by have := (List.getElem?_eq_some_iff.1 hv).1; simpa using this
    rw [List.getElem?_replicate, if_pos hlt] at hv
    obtain rfl := Option.some.inj hv
    have e : (List.replicate m ([] : List Nat)).getD i [] = [] := by simp [List.getD_eq_getElem?_getD, hlt]
    rw [e]; exact World.ownsRow_nil _ _ _ _
  · have hlt : i < m := by have := (List.getElem?_eq_some_iff.1 hi).1; simpa using this
    rw [List.getElem?_replicate, if_pos hlt] at hi
    obtain rfl := Option.some.inj hi
    cases hg
end Go.Proofs.YtokmllopbfmadaaDoor.Plans

namespace Go.Proofs.YtokmllopbfmadaaDoor.Plans
open Go.RowKit Mem

theorem not_take_next' {l : List Nat} {n k : Nat} (h : n ∉ l.take k) (hk : k < l.length) (hne : l[k] ≠ n) : n ∉ l.take (k + 1) := by
  rw [List.take_add_one, List.getElem?_eq_getElem hk]
  simp only [Option.toList_some, List.mem_append, List.mem_singleton]
  rintro (h1 | h1)
  · exact h h1
  · exact hne h1.symm
set_option maxRecDepth 100000 in
theorem index_nat (l : List Nat) (n : Nat) (v : Value) (w : World) (h : IntsAt w v l) (hl : l.length ≤ 1000000) :
    Calls Tryd.prog 135 #[v, .int .i64 n] w fun e w' => ((∃ k : Nat, e = .returned (.int .i64 k) ∧ k < l.length ∧ n ∈ l) ∨ (e = .returned (.int .i64 (-1)) ∧ n ∉ l)) ∧ w' = w := by
  obtain ⟨ao, cap, rfl, _, hc⟩ := h
  have HC : Hid (l = [] ∨ ∃ g us, ao = some ⟨g, 0, none⟩ ∧ Blk w g 3 us ∧ ∀ k, (h : k < l.length) → us[k]? = some (.int .i64 (l[k] : Nat))) := hc
  clear hc
  go_enter Tryd.func135, Tryd.ntmps135
  go_wp2
  go_loop [8] (fun i => ∃ k : Nat, k ≤ l.length ∧ i = .int .i64 k ∧ n ∉ l.take k) (fun i => l.length - (intOf i).toNat)
  case atStart => exact ⟨0, Nat.zero_le _, rfl, by simp⟩
  case round =>
    obtain ⟨k, hk, rfl, hn⟩ := hrel
    by_cases hlt : k < l.length
    · obtain ⟨g, us, rfl, hg, hus⟩ : ∃ g us, ao = some ⟨g, 0, none⟩ ∧ Blk w g 3 us ∧ ∀ k, (h : k < l.length) → us[k]? = some (.int .i64 (l[k] : Nat)) := by
        rcases HC.out with h | h
        · rw [h] at hlt; simp at hlt
        · exact h
      have c1 := hg.cell_some (hus k hlt)
      have HN : Hid (n ∉ l.take k) := hn
      clear hg hus hn
      by_cases e : l[k] = n
      · have HM : Hid (n ∈ l) := e ▸ List.getElem_mem hlt
        rw [e] at c1
        clear e
        go_wp2
        go_ret
        exact ⟨.inl ⟨k, rfl, hlt, HM.out⟩, rfl⟩
      · have HX : Hid (n ∉ l.take (k + 1)) := not_take_next' HN.out hlt e
        have he : ((n : Int) == (l[k] : Nat)) = false := by simp; omega
        have he2 : ¬ n = l[k] := fun h => e h.symm
        generalize l[k] = x at c1 he he2
        clear e
        go_wp2
        go_round
        case rel => exact ⟨k + 1, by omega, by go_num, HX.out⟩
        case measure => simp [intOf]; omega
    · obtain rfl : k = l.length := by omega
      rw [List.take_length] at hn
      have HN : Hid (n ∉ l) := hn
      clear hn
      go_wp2
      go_ret
      exact ⟨.inr ⟨rfl, HN.out⟩, rfl⟩
set_option maxRecDepth 100000 in
theorem contains_nat (l : List Nat) (n : Nat) (v : Value) (w : World) (h : IntsAt w v l) (hl : l.length ≤ 1000000) :
    Calls Tryd.prog 109 #[v, .int .i64 n] w fun e w' => e = .returned (.bool (decide (n ∈ l))) ∧ w' = w := by
  go_enter Tryd.func109, Tryd.ntmps109
  go_wp2_with fail
  refine (index_nat l n v w h hl).mono ?_
  rintro e w' ⟨h1, rfl⟩
  rcases h1 with ⟨k, rfl, hk, hm⟩ | ⟨rfl, hm⟩
  · have HD : Hid (decide (n ∈ l) = true) := by show _ = _; simp [hm]
    clear hm
    go_wp2
    go_ret
    exact ⟨by rw [HD.out]; rfl, rfl⟩
  · have HD : Hid (decide (n ∈ l) = false) := by show _ = _; simp [hm]
    clear hm
    go_wp2
    go_ret
    exact ⟨by rw [HD.out]; rfl, rfl⟩
/-- Is it one of the pair? -/
def inP (a b x : Nat) : Bool := x == a || x == b
set_option maxRecDepth 100000 in
theorem closure_any (a b x pb : Nat) (w : World) (h : Blk w pb 159 [.int .i64 a, .int .i64 b]) :
    Calls Tryd.prog 141 #[.int .i64 x, .pointer (some ⟨pb, 0, none⟩)] w fun e w' => e = .returned (.bool (inP a b x)) ∧ w' = w := by
  have c0 := h.cell_some (k := 0) (v := .int .i64 a) rfl
  have c1 := h.cell_some (k := 1) (v := .int .i64 b) rfl
  clear h
  go_enter Tryd.func141, Tryd.ntmps141
  by_cases h1 : x = a
  · have e1 : ((x : Int) == (a : Int)) = true := by simp [h1]
    have HP : Hid (inP a b x = true) := by show _ = _; simp [inP, h1]
    clear h1
    go_wp2
    go_ret
    exact ⟨by rw [HP.out]; rfl, rfl⟩
  · have e1 : ((x : Int) == (a : Int)) = false := by simp; omega
    by_cases h2 : x = b
    · have e2 : ((x : Int) == (b : Int)) = true := by simp [h2]
      have HP : Hid (inP a b x = true) := by show _ = _; simp [inP, h2]
      clear h2
      go_wp2
      go_ret
      exact ⟨by rw [HP.out]; rfl, rfl⟩
    · have e2 : ((x : Int) == (b : Int)) = false := by simp; omega
      have HP : Hid (inP a b x = false) := by show _ = _; simp [inP, h1, h2]
      go_wp2
      go_ret
      exact ⟨by rw [HP.out]; rfl, rfl⟩
end Go.Proofs.YtokmllopbfmadaaDoor.Plans

namespace Go.Proofs.YtokmllopbfmadaaDoor.Plans
open Go.RowKit Mem

def clV (pb : Nat) : Value := .func (.func 141) #[] #[.pointer (some ⟨pb, 0, none⟩)]
set_option maxRecDepth 100000 in
set_option maxHeartbeats 1000000 in
theorem indexFunc_any (l : List Nat) (a b pb : Nat) (v : Value) (w : World) (h : IntsAt w v l) (hp : Blk w pb 159 [.int .i64 a, .int .i64 b]) (hl : l.length ≤ 1000000) :
    Calls Tryd.prog 157 #[v, .func (.func 141) #[] #[.pointer (some ⟨pb, 0, none⟩)]] w fun e w' => ((∃ k : Nat, e = .returned (.int .i64 k) ∧ (∃ h : k < l.length, inP a b l[k] = true) ∧ ∀ x, x ∈ l.take k → inP a b x = false) ∨ (e = .returned (.int .i64 (-1)) ∧ ∀ x, x ∈ l → inP a b x = false)) ∧ w' = w := by
  obtain ⟨ao, cap, rfl, _, hc⟩ := h
  have HC : Hid (l = [] ∨ ∃ g us, ao = some ⟨g, 0, none⟩ ∧ Blk w g 3 us ∧ ∀ k, (h : k < l.length) → us[k]? = some (.int .i64 (l[k] : Nat))) := hc
  have HCL : Hid (∀ x : Nat, Calls Tryd.prog 141 #[.int .i64 x, .pointer (some ⟨pb, 0, none⟩)] w fun e w' => e = .returned (.bool (inP a b x)) ∧ w' = w) := fun x => closure_any a b x pb w hp
  clear hc hp
  go_enter Tryd.func157, Tryd.ntmps157
  go_wp2
  go_loopw [8] (fun i wr => ∃ k : Nat, k ≤ l.length ∧ i = .int .i64 k ∧ (∀ x, x ∈ l.take k → inP a b x = false) ∧ w = wr) (fun i _ => l.length - (intOf i).toNat)
  case atStart => exact ⟨0, Nat.zero_le _, rfl, by simp, rfl⟩
  case round =>
    obtain ⟨k, hk, rfl, hn, rfl⟩ := hrel
    by_cases hlt : k < l.length
    · obtain ⟨g, us, rfl, hg, hus⟩ : ∃ g us, ao = some ⟨g, 0, none⟩ ∧ Blk w g 3 us ∧ ∀ k, (h : k < l.length) → us[k]? = some (.int .i64 (l[k] : Nat)) := by
        rcases HC.out with h | h
        · rw [h] at hlt; simp at hlt
        · exact h
      have c1 := hg.cell_some (hus k hlt)
      have HN : Hid (∀ x, x ∈ l.take k → inP a b x = false) := hn
      have HNX : Hid (inP a b l[k] = false → ∀ x, x ∈ l.take (k + 1) → inP a b x = false) := by
        intro h0 x hx
        rw [List.take_add_one, List.getElem?_eq_getElem hlt] at hx
        simp only [Option.toList_some, List.mem_append, List.mem_singleton] at hx
        rcases hx with hx | hx
        · exact HN.out x hx
        · rw [hx]; exact h0
      have HYS : Hid (inP a b l[k] = true → ∃ h : k < l.length, inP a b l[k] = true) := fun h => ⟨hlt, h⟩
      have hcl := HCL.out l[k]
      generalize l[k] = x at c1 hcl HNX HYS
      generalize inP a b x = r at hcl HNX HYS
      clear hg hus hn
      cases r
      · have HN2 : Hid (∀ x, x ∈ l.take (k + 1) → inP a b x = false) := HNX.out rfl
        clear HNX HYS
        go_wp2_with (go_at_call 141; refine hcl.mono ?_; rintro e w' ⟨rfl, hw⟩; obtain rfl : w = w' := hw.symm)
        go_roundw
        case rel => exact ⟨k + 1, by omega, by go_num, HN2.out, trivial⟩
        case measure => simp [intOf]; omega
      · have HY2 : Hid (∃ h : k < l.length, inP a b l[k] = true) := HYS.out rfl
        clear HNX HYS
        go_wp2_with (go_at_call 141; refine hcl.mono ?_; rintro e w' ⟨rfl, hw⟩; obtain rfl : w = w' := hw.symm)
        go_ret
        exact ⟨.inl ⟨k, rfl, HY2.out, HN.out⟩, rfl⟩
    · obtain rfl : k = l.length := by omega
      rw [List.take_length] at hn
      have HN : Hid (∀ x, x ∈ l → inP a b x = false) := hn
      clear hn
      go_wp2
      go_ret
      exact ⟨.inr ⟨rfl, HN.out⟩, rfl⟩
end Go.Proofs.YtokmllopbfmadaaDoor.Plans
