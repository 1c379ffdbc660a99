import Derived.Test.YtlnpppdffhibjaaDoorRead
namespace Go.Proofs.YtlnpppdffhibjaaDoor.Plans
open Go.RowKit Mem FieldWalks Tab ByTab Planes
open Gf (Bytes)

/-- A step of a plan. -/
structure Stp where
  to : Nat
  src : Nat
  fresh : Bool
def Stp.cells (s : Stp) : List Value := [.int .i64 s.to, .int .i64 s.src, .bool s.fresh]
/-- The slice v reads as these steps. -/
def StepsAt (w : World) (v : Value) (ss : List Stp) : Prop :=
  ∃ ao cap, v = .slice ao ss.length cap ∧ (ss = [] ∨ ∃ g cur, ao = some ⟨g, 0, none⟩ ∧ w.heap[g]? = some (.cells cur 96 (0, 0)) ∧ ∀ k, (h : k < ss.length) → ∀ r, r < 3 → cur[k * 3 + r]? = (ss[k].cells)[r]?)
theorem StepsAt.but {w w' : World} {v : Value} {ss : List Stp} {S : Nat} {us : List Value} {t : TypeId} (h : StepsAt w v ss) (hb : But S w w') (hS : Blk w S t us) (ht : 96 ≠ t) : StepsAt w' v ss := by
  obtain ⟨ao, cap, rfl, h⟩ := h
  refine ⟨ao, cap, rfl, ?_⟩
  rcases h with h | ⟨g, cur, rfl, hg, hc⟩
  · exact .inl h
  · exact .inr ⟨g, cur, rfl, by rw [hb.rest g (Blk.type_ne (w := w) (vs := cur.toList) (by unfold Blk; rw [hg]) hS ht) (lt_of_block hg)]; exact hg, hc⟩
theorem StepsAt.to {w w' : World} {v : Value} {ss : List Stp} (h : StepsAt w v ss) (hb : Below w.heap.size w w') : StepsAt w' v ss := by
  obtain ⟨ao, cap, rfl, h⟩ := h
  refine ⟨ao, cap, rfl, ?_⟩
  rcases h with h | ⟨g, cur, rfl, hg, hc⟩
  · exact .inl h
  · exact .inr ⟨g, cur, rfl, by rw [hb.block g (lt_of_block hg)]; exact hg, hc⟩
/-- What one step makes of the slots. -/
def step1 (f : Nat → Nat) (s : Stp) : Nat → Nat := upd f s.to (if s.fresh then f s.src else f s.to ^^^ f s.src)
def runOn (f : Nat → Nat) (ss : List Stp) : Nat → Nat := ss.foldl step1 f
def Stp.ok (m : Nat) (s : Stp) : Prop := s.to < m ∧ s.src < m
theorem upd_lt {f : Nat → Nat} {B k x : Nat} (hf : ∀ i, f i < B) (hx : x < B) : ∀ i, upd f k x i < B := by
  intro i; unfold upd; split
  · exact hx
  · exact hf i
theorem step1_lt {f : Nat → Nat} (s : Stp) (hf : ∀ i, f i < 18446744073709551616) : ∀ i, step1 f s i < 18446744073709551616 := by
  refine upd_lt hf ?_
  split
  · exact hf _
  · exact Nat.xor_lt_two_pow (n := 64) (hf _) (hf _)
theorem runOn_lt (ss : List Stp) : ∀ (f : Nat → Nat), (∀ i, f i < 18446744073709551616) → ∀ i, runOn f ss i < 18446744073709551616 := by
  induction ss with
  | nil => intro f hf; exact hf
  | cons s ss ih => intro f hf; exact ih _ (step1_lt s hf)
theorem runOn_take (f : Nat → Nat) (ss : List Stp) (k : Nat) (hk : k < ss.length) : runOn f (ss.take (k + 1)) = step1 (runOn f (ss.take k)) ss[k] := by
  unfold runOn
  rw [List.take_add_one, List.getElem?_eq_getElem hk, List.foldl_append]
  rfl

set_option maxRecDepth 100000 in
set_option maxHeartbeats 1000000 in
theorem runSteps_any (f : Nat → Nat) (m S cap : Nat) (ss : List Stp) (sv : Value) (w : World) (hS : Blk w S 138 (wordsV (rowF m f))) (hss : StepsAt w sv ss) (hok : ∀ k, (h : k < ss.length) → ss[k].ok m) (hn : ss.length ≤ 1000000) (hf : ∀ i, f i < 18446744073709551616) :
    Calls Tryd.prog 98 #[sv, .slice (some ⟨S, 0, none⟩) m cap] w fun e w' => e = .returned (.tuple #[]) ∧ Blk w' S 138 (wordsV (rowF m (runOn f ss))) ∧ But S w w' := by
  obtain ⟨ao, scap, rfl, hx⟩ := hss
  have HX : Hid (ss = [] ∨ ∃ g cur, ao = some ⟨g, 0, none⟩ ∧ w.heap[g]? = some (.cells cur 96 (0, 0)) ∧ ∀ k, (h : k < ss.length) → ∀ r, r < 3 → cur[k * 3 + r]? = (ss[k].cells)[r]?) := hx
  have HS : Hid (Blk w S 138 (wordsV (rowF m f))) := hS
  have HOK : Hid (∀ k, (h : k < ss.length) → ss[k].ok m) := hok
  have HF : Hid (∀ i, f i < 18446744073709551616) := hf
  clear hx hS hok hf
  go_enter Tryd.func98, Tryd.ntmps98
  go_wp2
  go_loopw [8] (fun i wr => ∃ k : Nat, k ≤ ss.length ∧ i = .int .i64 k ∧ Blk wr S 138 (wordsV (rowF m (runOn f (ss.take k)))) ∧ But S w wr) (fun i _ => ss.length - (intOf i).toNat)
  case atStart => exact ⟨0, Nat.zero_le _, rfl, HS.out, But.refl _ _⟩
  case round =>
    obtain ⟨k, hk, rfl, hB, hbut⟩ := hrel
    by_cases hlt : k < ss.length
    · obtain ⟨g, cur, rfl, hg, hcu⟩ : ∃ g cur, ao = some ⟨g, 0, none⟩ ∧ w.heap[g]? = some (.cells cur 96 (0, 0)) ∧ ∀ k, (h : k < ss.length) → ∀ r, r < 3 → cur[k * 3 + r]? = (ss[k].cells)[r]? := by
        rcases HX.out with h | h
        · rw [h] at hlt; simp at hlt
        · exact h
      have hgS : g ≠ S := Blk.type_ne (w := w) (vs := cur.toList) (by unfold Blk; rw [hg]) HS.out (by decide)
      have hg1 := (hbut.rest g hgS (lt_of_block hg)).trans hg
      have d0 := (cell_of_row wr g (k * 3 + 0) cur _ _ hg1).trans (hcu k hlt 0 (by decide))
      have d1 := (cell_of_row wr g (k * 3 + 1) cur _ _ hg1).trans (hcu k hlt 1 (by decide))
      have d2 := (cell_of_row wr g (k * 3 + 2) cur _ _ hg1).trans (hcu k hlt 2 (by decide))
      have hk1 := HOK.out k hlt
      have E : Hid (runOn f (ss.take (k + 1)) = step1 (runOn f (ss.take k)) ss[k]) := runOn_take f ss k hlt
      generalize ss[k] = s at d0 d1 d2 hk1 E
      obtain ⟨to, src, fresh⟩ := s
      simp only [Stp.cells, List.getElem?_cons_zero, List.getElem?_cons_succ, Nat.add_zero] at d0 d1 d2
      have hto : to < m := hk1.1
      have hsrc : src < m := hk1.2
      have HFK : Hid (∀ i, runOn f (ss.take k) i < 18446744073709551616) := runOn_lt _ _ HF.out
      generalize runOn f (ss.take k) = h at hB E HFK
      have ct := hB.cell_some (k := to) (v := .int .u64 (h to : Nat)) (by rw [wordsV_at (by simpa using hto), rowF_at])
      have cs := hB.cell_some (k := src) (v := .int .u64 (h src : Nat)) (by rw [wordsV_at (by simpa using hsrc), rowF_at])
      have ft := hB.free to
      have hSlt := hB.lt
      have HB : Hid (Blk wr S 138 (wordsV (rowF m h))) := hB
      have hn1 := hbut.size
      clear hB hg hg1 hcu hk1
      cases fresh
      · go_wp2
        go_region
        go_wp2
        go_roundw
        case rel =>
          refine ⟨k + 1, by omega, by go_num, ?_, ((hbut.setCell _ _).alloc _).drew⟩
          refine (((HB.out.set to _).alloc _).drew).eq ?_
          rw [u64_xor_nat _ _ (HFK.out _) (HFK.out _), wordsV_set, rowF_set, E.out]
          rfl
        case measure => simp [intOf]; omega
      · go_wp2
        go_region
        go_wp2
        go_roundw
        case rel =>
          refine ⟨k + 1, by omega, by go_num, ?_, ((hbut.setCell _ _).alloc _).drew⟩
          refine (((HB.out.set to _).alloc _).drew).eq ?_
          rw [wordsV_set, rowF_set, E.out]
          rfl
        case measure => simp [intOf]; omega
    · obtain rfl : k = ss.length := by omega
      rw [List.take_length] at hB
      go_wp2
      go_end0
      exact ⟨rfl, hB, hbut⟩
end Go.Proofs.YtlnpppdffhibjaaDoor.Plans
