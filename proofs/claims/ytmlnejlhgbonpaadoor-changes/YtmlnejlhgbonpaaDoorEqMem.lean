/- Lists of numbers in memory, of which it is said in which blocks they lie; equations. -/
import Derived.Test.YtmlnejlhgbonpaaDoorShaped
import Derived.Test.YtmlnejlhgbonpaaDoorAppend
import Derived.Deep.CutRange
namespace Go.Proofs.YtmlnejlhgbonpaaDoor.Ref
open Go.RowKit Mem FieldWalks Tab ByTab Parts
open Gf (Bytes sumTo addTo)
open Plans (But intsV infoInt)

/-- The slice v reads as these numbers; it lies at the front of a block of which P is so. -/
def NsP (P : Nat → Prop) (w : World) (v : Value) (l : List Nat) : Prop :=
  ∃ ao cap, v = .slice ao l.length cap ∧ (l = [] ∨ ∃ b us, ao = some ⟨b, 0, none⟩ ∧ P b ∧ Blk w b 3 us ∧ ∀ k, (h : k < l.length) → us[k]? = some (.int .i64 (l[k] : Nat)))
section
variable {P Q : Nat → Prop} {w w' : World} {v : Value} {l : List Nat}
theorem NsP.mono (h : NsP P w v l) (hPQ : ∀ b, b < w.heap.size → P b → Q b) : NsP Q w v l := by
  obtain ⟨ao, cap, rfl, h⟩ := h
  refine ⟨ao, cap, rfl, ?_⟩
  rcases h with h | ⟨b, us, rfl, hp, hb, hc⟩
  · exact .inl h
  · exact .inr ⟨b, us, rfl, hPQ b hb.lt hp, hb, hc⟩
theorem NsP.to (h : NsP P w v l) (hb : Below w.heap.size w w') : NsP P w' v l := by
  obtain ⟨ao, cap, rfl, h⟩ := h
  refine ⟨ao, cap, rfl, ?_⟩
  rcases h with h | ⟨b, us, rfl, hp, hk, hc⟩
  · exact .inl h
  · exact .inr ⟨b, us, rfl, hp, hk.to hb, hc⟩
/-- Writes into a block that is none of theirs. -/
theorem NsP.but {S : Nat} (h : NsP P w v l) (hb : But S w w') (hP : ∀ b us, Blk w b 3 us → P b → b ≠ S) : NsP P w' v l := by
  obtain ⟨ao, cap, rfl, h⟩ := h
  refine ⟨ao, cap, rfl, ?_⟩
  rcases h with h | ⟨b, us, rfl, hp, hk, hc⟩
  · exact .inl h
  · exact .inr ⟨b, us, rfl, hp, hb.blk hk (hP b us hk hp), hc⟩
theorem NsP.of_blk {b : Nat} (h : Blk w b 3 (intsV l)) (hP : P b) (n c : Nat) (hn : n = l.length) : NsP P w (.slice (some ⟨b, 0, none⟩) n c) l := by
  subst hn
  exact ⟨_, _, rfl, .inr ⟨b, _, rfl, hP, h, fun k hk => by simp [intsV, hk]⟩⟩
theorem NsP.pos (h : NsP P w v l) (hl : 0 < l.length) : ∃ b cap, v = .slice (some ⟨b, 0, none⟩) l.length cap ∧ b < w.heap.size ∧ ∀ k, (h : k < l.length) → w.cell? ⟨b, k, none⟩ = some (.int .i64 (l[k] : Nat)) := by
  obtain ⟨ao, cap, rfl, h⟩ := h
  rcases h with h | ⟨b, us, rfl, hp, hk, hc⟩
  · subst h; simp at hl
  · exact ⟨b, cap, rfl, hk.lt, fun k h => hk.cell_some (hc k h)⟩
theorem NsP.form (h : NsP P w v l) : ∃ ao cap, v = .slice ao l.length cap := by
  obtain ⟨ao, cap, rfl, h⟩ := h; exact ⟨_, _, rfl⟩
theorem NsP.of_owns {base : Nat} (h : w.ownsRow base 3 1 v l.length (intsV l)) (hP : ∀ b, base ≤ b → P b) : NsP P w v l := by
  obtain ⟨hl, h2⟩ := h
  rcases h2 with ⟨rfl, h0⟩ | ⟨g, cap, cur, rfl, hg, hh, _, _, _, ht⟩
  · exact ⟨none, 0, by rw [h0], .inl (List.eq_nil_of_length_eq_zero h0)⟩
  · refine ⟨_, cap, rfl, .inr ⟨g, cur.toList, rfl, hP g hg, by unfold Blk; rw [hh], fun k hk => ?_⟩⟩
    rw [Nat.mul_one] at ht
    have : (cur.toList.take l.length)[k]? = some (.int .i64 (l[k] : Nat)) := by rw [ht]; simp [intsV, hk]
    rw [List.getElem?_take_of_lt hk] at this
    exact this
end
theorem make_ints (n : Nat) (hn : n ≤ 100000) (w : World) :
    (Instr.makeSlice 45 (.int .i64 (n : Int)) (.int .i64 (n : Int))).run Tryd.prog w = .ok (.slice (some ⟨w.heap.size, 0, none⟩) n n) (w.alloc (.cells (madeCells #[.int .i64 0] n) 3)) := by
  obtain ⟨i, hi, hz0, hz1, hz2⟩ := info_parts infoInt
  have := run_make (P := Tryd.prog) w 45 3 i (.int .i64 0) Tryd.underlying45 hi hz0 .i64 .i64 n n (by omega) (by omega) (by rw [hz2]; omega) (by omega)
  rw [hz1, Int.toNat_natCast, Nat.mul_one] at this
  exact this
theorem made_ints (w : World) (n : Nat) : Blk (w.alloc (.cells (madeCells #[.int .i64 0] n) 3)) w.heap.size 3 (intsV (List.replicate n 0)) := by
  refine (Blk.new w _ _).eq ?_
  rw [toList_madeCells_one]; simp [intsV]
end Go.Proofs.YtmlnejlhgbonpaaDoor.Ref
