import Derived.Test.YtmlnejlhgbonpaaDoorLend
namespace Go.Proofs.YtmlnejlhgbonpaaDoor.Ref
open Go.RowKit Mem FieldWalks Tab ByTab Parts Book
open Plans (But)

/-- Only one block between lo and hi was written, and new ones made. -/
def Wrote (lo hi : Nat) (w w' : World) : Prop := w' = w ∨ ∃ S, lo ≤ S ∧ S < hi ∧ But S w w'
section
variable {lo hi : Nat} {w w' : World}
theorem Wrote.below (h : Wrote lo hi w w') {w0 : World} {B : Nat} (hb : Below B w0 w) (hB : B ≤ w.heap.size) (hlo : B ≤ lo) : Below B w0 w' := by
  rcases h with rfl | ⟨S, h1, _, h3⟩
  · exact hb
  · exact h3.below hb (Nat.le_trans hlo h1) hB
theorem Wrote.size (h : Wrote lo hi w w') : w.heap.size ≤ w'.heap.size := by
  rcases h with rfl | ⟨S, _, _, h3⟩
  · exact Nat.le_refl _
  · exact h3.size
theorem Wrote.blk (h : Wrote lo hi w w') {b : Nat} {t : TypeId} {vs : List Value} (hb : Blk w b t vs) (hl : hi ≤ b) : Blk w' b t vs := by
  rcases h with rfl | ⟨S, _, h2, h3⟩
  · exact hb
  · exact h3.blk hb (by omega)
theorem Wrote.blk_low (h : Wrote lo hi w w') {b : Nat} {t : TypeId} {vs : List Value} (hb : Blk w b t vs) (hl : b < lo) : Blk w' b t vs := by
  rcases h with rfl | ⟨S, h1, _, h3⟩
  · exact hb
  · exact h3.blk hb (by omega)
theorem Wrote.strs (h : Wrote lo hi w w') {v : Value} {ss : List ByteArray} (hs : StrsNew w hi v ss) : StrsNew w' hi v ss := by
  rcases h with rfl | ⟨S, _, h2, h3⟩
  · exact hs
  · obtain ⟨ao, cap, rfl, hs⟩ := hs
    refine ⟨ao, cap, rfl, ?_⟩
    rcases hs with hs | ⟨b, off, rfl, h4, h5, h6⟩
    · exact .inl hs
    · exact .inr ⟨b, off, rfl, h4, Nat.lt_of_lt_of_le h5 h3.size, fun k hk => by rw [h3.cell (p := ⟨b, off + k, none⟩) (by show b ≠ S; omega) h5]; exact h6 k hk⟩
end
/-- A list that came in: none, or one that lies in a block that is there. -/
def CameT (w : World) (pv : Value) (n : Nat) : Prop := pv = .slice none 0 0 ∨ ∃ ad cp, pv = .slice (some ad) n cp ∧ ad.block < w.heap.size
theorem CameT.to {w w' : World} {pv : Value} {n : Nat} (h : CameT w pv n) (hb : w.heap.size ≤ w'.heap.size) : CameT w' pv n := by
  rcases h with h | ⟨ad, cp, h1, h2⟩
  · exact .inl h
  · exact .inr ⟨ad, cp, h1, Nat.lt_of_lt_of_le h2 hb⟩

theorem lendT_both (pieces : List ByteArray) (pv : Value) (w : World) (hp : CameT w pv pieces.length) (hst : StrsAt w pv pieces) (hpl : pieces.length ≤ 8796093022204) :
    Calls Tryd.prog 56 #[pv] w fun e w1 => ∃ p, e = .returned p ∧ StrsAt w1 p pieces ∧ Below w.heap.size w w1 ∧
      ∀ w3, Below w1.heap.size w1 w3 → Calls Tryd.prog 59 #[p, pv] w3 fun e w4 => e = .returned (.bool true) ∧ Wrote w.heap.size w1.heap.size w3 w4 := by
  rcases hp with rfl | ⟨ad, cp, rfl, hlt⟩
  · refine (lendT_nil w).mono ?_
    rintro e w1 ⟨rfl, rfl⟩
    refine ⟨_, rfl, hst, Below.refl _ _, fun w3 _ => (wholeT_nil _ w3).mono ?_⟩
    rintro e w4 ⟨rfl, rfl⟩
    exact ⟨rfl, .inl rfl⟩
  · refine (lendT_any pieces ad cp w hst hpl).mono ?_
    rintro e w1 ⟨b, hb, rfl, hblk, hb1⟩
    refine ⟨_, rfl, ?_, hb1, fun w3 hb3 => ?_⟩
    · refine ⟨_, _, rfl, .inr ⟨b, 0, rfl, hblk.lt, fun k hk => ?_⟩⟩
      rw [Nat.zero_add]
      refine hblk.cell_some ?_
      rw [lent_get _ _ _ pieces.length k (by simp [strV]), if_pos hk]
      simp [strV, hk]
    · refine (wholeT_any pieces ad cp b w3 ((hst.to hb1).to hb3) (hblk.to hb3) (by omega) hpl).mono ?_
      rintro e w4 ⟨rfl, hbut⟩
      exact ⟨rfl, .inr ⟨b, hb, hblk.lt, hbut⟩⟩
theorem lendI_both (l : List Int) (pv : Value) (w : World) (hp : CameT w pv l.length) (hst : IsC w pv l) (hpl : l.length ≤ 17592186044412) :
    Calls Tryd.prog 57 #[pv] w fun e w1 => ∃ p, e = .returned p ∧ IsC w1 p l ∧ Below w.heap.size w w1 ∧
      ∀ w3, IsC w3 pv l → (∀ b t vs, b < w1.heap.size → w.heap.size ≤ b → Blk w1 b t vs → Blk w3 b t vs) → Calls Tryd.prog 60 #[p, pv] w3 fun e w4 => e = .returned (.bool true) ∧ Wrote w.heap.size w1.heap.size w3 w4 := by
  rcases hp with rfl | ⟨ad, cp, rfl, hlt⟩
  · refine (lendI_nil w).mono ?_
    rintro e w1 ⟨rfl, rfl⟩
    refine ⟨_, rfl, hst, Below.refl _ _, fun w3 _ _ => (wholeI_nil _ w3).mono ?_⟩
    rintro e w4 ⟨rfl, rfl⟩
    exact ⟨rfl, .inl rfl⟩
  · refine (lendI_any l ad cp w hst hpl).mono ?_
    rintro e w1 ⟨b, hb, rfl, hblk, hb1⟩
    refine ⟨_, rfl, ?_, hb1, fun w3 hi3 hk3 => ?_⟩
    · refine ⟨_, 4, rfl, .inr ⟨b, 0, rfl, hblk.lt, fun k hk => ?_⟩⟩
      rw [Nat.zero_add]
      refine hblk.cell_some ?_
      rw [lent_get _ _ _ l.length k (by simp [intV]), if_pos hk]
      simp [intV, hk]
    · refine (wholeI_any l ad cp b w3 hi3 (hk3 b _ _ hblk.lt hb hblk) (by omega) hpl).mono ?_
      rintro e w4 ⟨rfl, hbut⟩
      exact ⟨rfl, .inr ⟨b, hb, hblk.lt, hbut⟩⟩
end Go.Proofs.YtmlnejlhgbonpaaDoor.Ref
