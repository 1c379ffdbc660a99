import Derived.Test.YtokmllopbfmadaaDoorGConcat
import Derived.Test.YtokmllopbfmadaaDoorGMem
import Derived.Test.YtokmllopbfmadaaDoorGShaped
namespace Go.Proofs.YtokmllopbfmadaaDoor.KeepW
open Go.RowKit Mem FieldWalks Tab ByTab Parts Ref

/-- Which of n things the raw number c speaks of. -/
def pickI (c : Int) (n : Nat) : Nat := if c < 0 then ((-(c + 1)) % (n : Int)).toNat else (c % (n : Int)).toNat
theorem pickI_lt (c : Int) (n : Nat) (h : 0 < n) : pickI c n < n := by
  have := Int.emod_lt_of_pos (-(c + 1)) (show (0 : Int) < n by omega)
  have := Int.emod_lt_of_pos c (show (0 : Int) < n by omega)
  have := Int.emod_nonneg (-(c + 1)) (show (n : Int) ≠ 0 by omega)
  have := Int.emod_nonneg c (show (n : Int) ≠ 0 by omega)
  unfold pickI; split <;> omega
theorem pickI_nat (k n : Nat) (h : k < n) : pickI k n = k := by
  unfold pickI
  rw [if_neg (by omega), Int.emod_eq_of_lt (by omega) (by omega)]; omega

set_option maxRecDepth 100000 in
theorem kpick_any (c : Int) (n : Nat) (w : World) (hn : 0 < n) (hn2 : n ≤ 1000) (h1 : -9223372036854775808 ≤ c) (h2 : c ≤ 9223372036854775807) :
    Calls Tryd.prog 19 #[.int .i64 c, .int .i64 n] w fun e w' => e = .returned (.int .i64 (pickI c n : Nat)) ∧ w' = w := by
  by_cases h : c < 0
  · have e0 : Hid (pickI c n = ((-(c + 1)) % (n : Int)).toNat) := if_pos h
    have hm := Int.emod_lt_of_pos (-(c + 1)) (show (0 : Int) < n by omega)
    have hm2 := Int.emod_nonneg (-(c + 1)) (show (n : Int) ≠ 0 by omega)
    have E : Hid (Int.tmod (-(c + 1)) (n : Int) = ((((-(c + 1)) % (n : Int)).toNat : Nat) : Int)) := by
      show _ = _
      rw [Int.tmod_eq_emod_of_nonneg (by omega)]; omega
    clear hm hm2
    go_enter Tryd.func19, Tryd.ntmps19
    go_wp2
    go_ret
    refine ⟨?_, rfl⟩
    rw [e0.out, ← E.out]
    first
      | rfl
      | (rw [Int.neg_tmod]; rfl)
  · have e0 : Hid (pickI c n = (c % (n : Int)).toNat) := if_neg h
    have hm := Int.emod_lt_of_pos c (show (0 : Int) < n by omega)
    have hm2 := Int.emod_nonneg c (show (n : Int) ≠ 0 by omega)
    have E : Hid (c % (n : Int) = (((c % (n : Int)).toNat : Nat) : Int)) := by show _ = _; omega
    clear hm hm2
    go_enter Tryd.func19, Tryd.ntmps19
    go_wp2
    go_ret
    refine ⟨?_, rfl⟩
    rw [e0.out, ← E.out]
    first
      | rfl
      | (rw [← Int.tmod_eq_emod_of_nonneg (by omega)]; rfl)
end Go.Proofs.YtokmllopbfmadaaDoor.KeepW

namespace Go.Proofs.YtokmllopbfmadaaDoor.Plans
open Go.RowKit Mem FieldWalks
open Ref (Drew)

/-- Is a slot the From of one of these steps, ahead of the next Fresh one with this To? -/
def usedIn (t : Nat) : List Stp → Bool
  | [] => false
  | s :: r => if s.src = t then true else if s.to = t ∧ s.fresh = true then false else usedIn t r
theorem steps_cells {w : World} {v : Value} {ss : List Stp} (h : StepsAt w v ss) (hne : 0 < ss.length) : ∃ g cap, v = .slice (some ⟨g, 0, none⟩) ss.length cap ∧ g < w.heap.size ∧
    ∀ k, (h : k < ss.length) → w.cell? ⟨g, k * 3, none⟩ = some (.int .i64 (ss[k].to : Nat)) ∧ w.cell? ⟨g, k * 3 + 1, none⟩ = some (.int .i64 (ss[k].src : Nat)) ∧ w.cell? ⟨g, k * 3 + 2, none⟩ = some (.bool ss[k].fresh) := by
  obtain ⟨ao, cap, rfl, h⟩ := h
  rcases h with rfl | ⟨g, cur, rfl, hg, hc⟩
  · simp at hne
  · refine ⟨g, cap, rfl, lt_of_block hg, fun k hk => ⟨?_, ?_, ?_⟩⟩
    · exact (cell_of_row w g (k * 3 + 0) cur _ _ hg).trans (hc k hk 0 (by decide))
    · exact (cell_of_row w g (k * 3 + 1) cur _ _ hg).trans (hc k hk 1 (by decide))
    · exact (cell_of_row w g (k * 3 + 2) cur _ _ hg).trans (hc k hk 2 (by decide))

set_option maxRecDepth 100000 in
set_option maxHeartbeats 1000000 in
theorem used_yes (ss : List Stp) (k : Nat) (hk : k < ss.length) (hu : usedIn ss[k].to (ss.drop (k + 1)) = true) (v : Value) (w : World) (hv : StepsAt w v ss) (hn : ss.length ≤ 1000000) :
    Calls Tryd.prog 72 #[v, .int .i64 k] w fun e w' => e = .returned (.bool true) ∧ Drew w w' := by
  obtain ⟨g, cap, rfl, hg, hc⟩ := steps_cells hv (by omega)
  obtain ⟨t, ht⟩ : ∃ t, t = ss[k].to := ⟨_, rfl⟩
  have ck := (hc k hk).1
  rw [← ht] at hu ck
  have HC : Hid (∀ k, (h : k < ss.length) → w.cell? ⟨g, k * 3, none⟩ = some (.int .i64 (ss[k].to : Nat)) ∧ w.cell? ⟨g, k * 3 + 1, none⟩ = some (.int .i64 (ss[k].src : Nat)) ∧ w.cell? ⟨g, k * 3 + 2, none⟩ = some (.bool ss[k].fresh)) := hc
  have HU : Hid (usedIn t (ss.drop (k + 1)) = true) := hu
  have hki : (k : Int) < (ss.length : Int) := by omega
  clear hc hu ht hv
  go_enter Tryd.func72, Tryd.ntmps72
  go_wp2
  go_loopw [5] (fun i wr => ∃ j : Nat, k < j ∧ j ≤ ss.length ∧ i = .int .i64 j ∧ usedIn t (ss.drop j) = true ∧ Drew w wr) (fun i _ => ss.length - (intOf i).toNat)
  case atStart => exact ⟨k + 1, by omega, by omega, by go_num, HU.out, ⟨0, rfl⟩⟩
  case round =>
    obtain ⟨j, hkj, hj, rfl, hus, hd⟩ := hrel
    have hlt : j < ss.length := by
      rcases Nat.lt_or_ge j ss.length with h | h
      · exact h
      · rw [List.drop_eq_nil_of_le h] at hus; simp [usedIn] at hus
    rw [List.drop_eq_getElem_cons hlt, usedIn] at hus
    obtain ⟨j0, j1, j2⟩ := HC.out j hlt
    generalize ss[j] = st at j0 j1 j2 hus
    obtain ⟨t2, src', fr'⟩ := st
    simp only at j0 j1 j2 hus
    have hji : (j : Int) < (ss.length : Int) := by omega
    replace j0 := (hd.cell _).trans j0
    replace j1 := (hd.cell _).trans j1
    replace j2 := (hd.cell _).trans j2
    have ckr := (hd.cell _).trans ck
    have HD : Hid (Drew w wr) := hd
    clear hd
    by_cases h1 : src' = t
    · have e1 : ((src' : Int) == (t : Int)) = true := by simp; omega
      clear hus
      go_wp2
      go_quiet (fail)
      go_wp2
      go_ret
      exact ⟨rfl, HD.out.more _⟩
    · rw [if_neg h1] at hus
      have e1 : ((src' : Int) == (t : Int)) = false := by simp; omega
      by_cases h2 : t2 = t
      · have e2 : ((t2 : Int) == (t : Int)) = true := by simp; omega
        have hf : fr' = false := by
          cases fr' with
          | false => rfl
          | true => rw [if_pos ⟨h2, rfl⟩] at hus; simp at hus
        subst hf
        rw [if_neg (by simp)] at hus
        have HUS : Hid (usedIn t (ss.drop (j + 1)) = true) := hus
        clear hus
        go_wp2
        go_quiet (fail)
        go_wp2
        go_quiet (fail)
        go_wp2
        go_roundw
        case rel => exact ⟨j + 1, by omega, by omega, by go_num, HUS.out, HD.out.more _⟩
        case measure => simp [intOf]; omega
      · have e2 : ((t2 : Int) == (t : Int)) = false := by simp; omega
        rw [if_neg (by simp [h2])] at hus
        have HUS : Hid (usedIn t (ss.drop (j + 1)) = true) := hus
        clear hus
        go_wp2
        go_quiet (fail)
        go_wp2
        go_quiet (fail)
        go_wp2
        go_roundw
        case rel => exact ⟨j + 1, by omega, by omega, by go_num, HUS.out, HD.out.more _⟩
        case measure => simp [intOf]; omega
end Go.Proofs.YtokmllopbfmadaaDoor.Plans

namespace Go.Proofs.YtokmllopbfmadaaDoor.Plans
open Go.RowKit Mem FieldWalks
open Ref (Drew)

def boolsF (m : Nat) (f : Nat → Bool) : List Value := (List.range m).map fun i => Value.bool (f i)
@[simp] theorem boolsF_length (m : Nat) (f : Nat → Bool) : (boolsF m f).length = m := by simp [boolsF]
theorem boolsF_at {m : Nat} {f : Nat → Bool} {k : Nat} (h : k < m) : (boolsF m f)[k]? = some (.bool (f k)) := by simp [boolsF, h]
theorem boolsF_set (m : Nat) (f : Nat → Bool) (k : Nat) (b : Bool) : (boolsF m f).set k (.bool b) = boolsF m fun i => if i = k then b else f i := by
  apply List.ext_getElem?
  intro i
  by_cases h : i = k
  · subst h
    by_cases hi : i < m
    · rw [List.getElem?_set_self (by simpa using hi), boolsF_at hi]; simp
    · rw [List.getElem?_eq_none (by simp; omega), List.getElem?_eq_none (by simp; omega)]
  · rw [List.getElem?_set_ne (by omega)]
    by_cases hi : i < m
    · rw [boolsF_at hi, boolsF_at hi]; simp [h]
    · rw [List.getElem?_eq_none (by simp; omega), List.getElem?_eq_none (by simp; omega)]
theorem boolsF_congr {m : Nat} {f g : Nat → Bool} (h : ∀ i, i < m → f i = g i) : boolsF m f = boolsF m g := by
  unfold boolsF
  exact List.map_congr_left fun i hi => by rw [h i (List.mem_range.1 hi)]
/-- Is a slot filled, behind the first k steps? -/
def fillB (d : Nat) (ss : List Stp) (k x : Nat) : Bool := decide (x < 8 * d) || (ss.take k).any fun s => s.to == x
theorem fillB_next (d : Nat) (ss : List Stp) (k : Nat) (hk : k < ss.length) (x : Nat) : fillB d ss (k + 1) x = if x = ss[k].to then true else fillB d ss k x := by
  unfold fillB
  rw [List.take_add_one, List.getElem?_eq_getElem hk, List.any_append]
  simp only [Option.toList_some, List.any_cons, List.any_nil, Bool.or_false]
  by_cases h : x = ss[k].to
  · simp [h]
  · have : (ss[k].to == x) = false := by simp; exact fun e => h e.symm
    rw [this]; simp [h]
/-- The steps are a plan, but for what it comes to. -/
structure RightAt (d s : Nat) (ss : List Stp) (k : Nat) (h : k < ss.length) : Prop where
  lo : 8 * d ≤ ss[k].to
  hi : ss[k].to < 1000
  src : ss[k].src < 1000
  use : ss[k].to < 8 * (d + s) ∨ usedIn ss[k].to (ss.drop (k + 1)) = true
  ahead : fillB d ss k ss[k].src = true
  first : ss[k].fresh = true ∨ fillB d ss k ss[k].to = true
theorem infoBool : (Tryd.prog.info? 4).map (fun i => (i.zero, i.size, i.bytes)) = some (some (.bool false), 1, 1) := by kernel_rfl
theorem make_bools (w : World) :
    (Instr.makeSlice 107 (.int .i64 1000) (.int .i64 1000)).run Tryd.prog w = .ok (.slice (some ⟨w.heap.size, 0, none⟩) 1000 1000) (w.alloc (.cells (madeCells #[.bool false] 1000) 4)) := by
  obtain ⟨i, hi, hz0, hz1, hz2⟩ := info_parts infoBool
  have := run_make (P := Tryd.prog) w 107 4 i (.bool false) Tryd.underlying107 hi hz0 .i64 .i64 1000 1000 (by omega) (by omega) (by rw [hz2]; omega) (by omega)
  rw [hz1] at this
  exact this
theorem made_bools (w : World) (f : Nat → Bool) (hf : ∀ i, i < 1000 → f i = false) : Blk (w.alloc (.cells (madeCells #[.bool false] 1000) 4)) w.heap.size 4 (boolsF 1000 f) := by
  refine (Blk.new w _ _).eq ?_
  rw [toList_madeCells_one, boolsF_congr (g := fun _ => false) hf]
  simp [boolsF, List.map_const']
set_option maxRecDepth 100000 in
set_option maxHeartbeats 2000000 in
theorem right_yes (d s : Nat) (hd : d ≤ 10) (hs : s ≤ 6) (ss : List Stp) (hr : ∀ k, (h : k < ss.length) → RightAt d s ss k h) (v : Value) (w : World) (hv : StepsAt w v ss) (hn : ss.length ≤ 1000000) :
    Calls Tryd.prog 42 #[v, .int .i64 d, .int .i64 s] w fun e w' => e = .returned (.bool true) ∧ Below w.heap.size w w' := by
  have hmk := make_bools
  have HR : Hid (∀ k, (h : k < ss.length) → RightAt d s ss k h) := hr
  have HV : Hid (StepsAt w v ss) := hv
  obtain ⟨ao, cap, rfl, _⟩ := hv
  clear hr
  go_enter Tryd.func42, Tryd.ntmps42
  go_wp2
  have HB0 : Hid (Blk (w.alloc (.cells (madeCells #[.bool false] 1000) 4)) w.heap.size 4 (boolsF 1000 fun x => decide (x < 0))) := made_bools w _ (fun i _ => by simp)
  obtain ⟨F, hF⟩ : ∃ F, F = w.heap.size := ⟨_, rfl⟩
  have HF : Hid (w.heap.size ≤ F) := by show _ ≤ _; omega
  have HBL : Hid (Below w.heap.size w (w.alloc (.cells (madeCells #[.bool false] 1000) 4))) := (Below.refl _ _).alloc (Nat.le_refl _) _
  rw [← hF] at HB0 ⊢
  clear hF hmk
  go_loopw [8] (fun i wr => ∃ k : Nat, k ≤ 8 * d ∧ i = .int .i64 k ∧ Blk wr F 4 (boolsF 1000 fun x => decide (x < k)) ∧ Below w.heap.size w wr) (fun i _ => 8 * d - (intOf i).toNat)
  case atStart => exact ⟨0, Nat.zero_le _, rfl, HB0.out, HBL.out⟩
  case round =>
    obtain ⟨k, hk, rfl, hB, hbel⟩ := hrel
    by_cases hlt : k < 8 * d
    · have hk2 : k < 1000 := by omega
      have f1 := hB.cell_some (boolsF_at hk2)
      have f2 := hB.free k
      have HB : Hid (Blk wr F 4 (boolsF 1000 fun x => decide (x < k))) := hB
      have HBE : Hid (Below w.heap.size w wr) := hbel
      have hki : (k : Int) < 8 * (d : Int) := by omega
      clear hB hbel
      go_wp2
      go_roundw
      case rel =>
        refine ⟨k + 1, by omega, by go_num, ?_, HBE.out.setCell HF.out _⟩
        refine (HB.out.set k _).eq ?_
        rw [boolsF_set]
        refine boolsF_congr fun i _ => ?_
        by_cases h : i = k
        · simp [h]
        · have : (i < k + 1) ↔ (i < k) := by omega
          simp [h, this]
      case measure => simp [intOf]; omega
    · have hk8 : k = 8 * d := by omega
      obtain ⟨wo, rfl⟩ : ∃ wo, wo = wr := ⟨_, rfl⟩
      have HB1 : Hid (Blk wo F 4 (boolsF 1000 (fillB d ss 0))) := hB.eq (boolsF_congr fun i _ => by simp [fillB, hk8])
      have hlt8 : ¬ (k : Int) < 8 * (d : Int) := by omega
      obtain ⟨m8, hm8⟩ : ∃ m : Nat, m = k := ⟨_, rfl⟩
      rw [← hm8] at hlt8 ⊢
      clear hm8 hk8 hk hlt
      have HBE1 : Hid (Below w.heap.size w wo) := hbel
      clear hB hbel
      go_wp2
      go_loopw [9] (fun i wr => ∃ k : Nat, k ≤ ss.length ∧ i = .int .i64 k ∧ Blk wr F 4 (boolsF 1000 (fillB d ss k)) ∧ Below w.heap.size w wr) (fun i _ => ss.length - (intOf i).toNat)
      case atStart => exact ⟨0, Nat.zero_le _, rfl, HB1.out, HBE1.out⟩
      case round =>
        clear HB1 HBE1
        obtain ⟨k, hk, rfl, hB, hbel⟩ := hrel
        by_cases hlt : k < ss.length
        · obtain ⟨g, cap', ev, hg, hc⟩ := steps_cells HV.out (by omega)
          injection ev with ev1 ev2 ev3
          subst ev1; subst ev3
          clear ev2
          obtain ⟨j0, j1, j2⟩ := hc k hlt
          have hR := HR.out k hlt
          have HNX : Hid (∀ x, fillB d ss (k + 1) x = if x = ss[k].to then true else fillB d ss k x) := fillB_next d ss k hlt
          have HUY : Hid (∀ W, StepsAt W (.slice (some ⟨g, 0, none⟩) ss.length cap) ss → usedIn ss[k].to (ss.drop (k + 1)) = true → Calls Tryd.prog 72 #[.slice (some ⟨g, 0, none⟩) ss.length cap, .int .i64 k] W fun e w' => e = .returned (.bool true) ∧ Drew W w') := fun W h1 h2 => used_yes ss k hlt h2 _ W h1 hn
          obtain ⟨r1, r2, r3, r4, r5, r6⟩ := hR
          generalize usedIn ss[k].to (ss.drop (k + 1)) = us at r4 HUY
          generalize ss[k] = st at j0 j1 j2 r1 r2 r3 r4 r5 r6 HNX
          obtain ⟨t2, src', fr'⟩ := st
          simp only at j0 j1 j2 r1 r2 r3 r4 r5 r6 HNX
          replace j0 := (hbel.cell (p := ⟨g, k * 3, none⟩) hg).trans j0
          replace j1 := (hbel.cell (p := ⟨g, k * 3 + 1, none⟩) hg).trans j1
          replace j2 := (hbel.cell (p := ⟨g, k * 3 + 2, none⟩) hg).trans j2
          have f1 := hB.cell_some (boolsF_at (show src' < 1000 from r3))
          have f2 := hB.cell_some (boolsF_at (show t2 < 1000 from r2))
          have f3 := hB.free t2
          rw [r5] at f1
          have HB : Hid (Blk wr F 4 (boolsF 1000 (fillB d ss k))) := hB
          have HBE : Hid (Below w.heap.size w wr) := hbel
          have hFlt := hB.lt
          have hki : (k : Int) < (ss.length : Int) := by omega
          have t1 : ¬ ((t2 : Int) < 8 * (d : Int)) := by omega
          have q1 : decide ((1000 : Int) ≤ (t2 : Int)) = false := decide_eq_false (by omega)
          have q2 : decide ((1000 : Int) ≤ (src' : Int)) = false := decide_eq_false (by omega)
          have q3 : decide ((src' : Int) < 0) = false := decide_eq_false (by omega)
          have HSA : Hid (StepsAt wr (.slice (some ⟨g, 0, none⟩) ss.length cap) ss) := HV.out.to hbel
          clear hB hbel hc
          have HREL : Hid (∀ W, Blk W F 4 ((boolsF 1000 (fillB d ss k)).set t2 (.bool true)) → Blk W F 4 (boolsF 1000 (fillB d ss (k + 1)))) := fun W h => h.eq (by
            rw [boolsF_set]
            exact boolsF_congr fun i _ => by rw [HNX.out i])
          have hgo : fr' = true ∨ fr' = false ∧ fillB d ss k t2 = true := by
            cases fr' with
            | true => exact .inl rfl
            | false => rcases r6 with h | h
                       · cases h
                       · exact .inr ⟨rfl, h⟩
          by_cases hsp : t2 < 8 * (d + s)
          · have t3 : (t2 : Int) < 8 * ((d : Int) + (s : Int)) := by omega
            rcases hgo with rfl | ⟨rfl, h6⟩
            · go_wp2
              go_roundw
              case rel => exact ⟨k + 1, by omega, by go_num, HREL.out _ ((HB.out.set t2 _).alloc _), (HBE.out.setCell HF.out _).alloc (HBE.out.setCell HF.out _).size _⟩
              case measure => simp [intOf]; omega
            · rw [h6] at f2
              go_wp2
              go_roundw
              case rel => exact ⟨k + 1, by omega, by go_num, HREL.out _ ((HB.out.set t2 _).alloc _), (HBE.out.setCell HF.out _).alloc (HBE.out.setCell HF.out _).size _⟩
              case measure => simp [intOf]; omega
          · have t3 : ¬ (t2 : Int) < 8 * ((d : Int) + (s : Int)) := by omega
            obtain rfl : us = true := r4.resolve_left hsp
            rcases hgo with rfl | ⟨rfl, h6⟩
            · go_wp2_with fail
              refine (HUY.out _ (HSA.out.to ((Below.refl _ _).alloc (Nat.le_refl _) _)) (by trivial)).mono ?_
              rintro e w2 ⟨rfl, m, rfl⟩
              go_wp2
              go_roundw
              case rel => exact ⟨k + 1, by omega, by go_num, HREL.out _ (Blk.set (w := (wr.alloc _).drewN m) (HB.out.alloc _) t2 _), (below_drewN (HBE.out.alloc HBE.out.size _) m).setCell HF.out _⟩
              case measure => simp [intOf]; omega
            · rw [h6] at f2
              go_wp2_with fail
              refine (HUY.out _ (HSA.out.to ((Below.refl _ _).alloc (Nat.le_refl _) _)) (by trivial)).mono ?_
              rintro e w2 ⟨rfl, m, rfl⟩
              go_wp2
              go_roundw
              case rel => exact ⟨k + 1, by omega, by go_num, HREL.out _ (Blk.set (w := (wr.alloc _).drewN m) (HB.out.alloc _) t2 _), (below_drewN (HBE.out.alloc HBE.out.size _) m).setCell HF.out _⟩
              case measure => simp [intOf]; omega
        · obtain rfl : k = ss.length := by omega
          go_wp2
          go_ret
          exact ⟨rfl, hbel⟩
end Go.Proofs.YtokmllopbfmadaaDoor.Plans
