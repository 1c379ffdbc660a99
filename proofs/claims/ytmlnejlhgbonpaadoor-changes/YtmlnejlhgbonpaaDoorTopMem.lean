import Derived.Test.YtmlnejlhgbonpaaDoorSpread
namespace Go.Proofs.YtmlnejlhgbonpaaDoor.Top
open Go.RowKit Mem FieldWalks Tab ByTab Parts

theorem StrsAt.of_blk {w : World} {b : Nat} {ss : List ByteArray} (h : Blk w b 9 (strV ss)) (n cap : Nat) (hn : n = ss.length) : StrsAt w (.slice (some ⟨b, 0, none⟩) n cap) ss := by
  subst hn
  exact ⟨_, _, rfl, .inr ⟨b, 0, rfl, h.lt, fun k hk => by rw [Nat.zero_add]; exact h.cell_some (by simp [strV, hk])⟩⟩
theorem below_drew {w : World} (n : Nat) : Below w.heap.size w (w.drewN n) := below_drewN (Below.refl _ _) n
theorem table_below {w w' : World} {B : Nat} (h : Table w) (hb : Below B w w') (hB : 0 < B) : Table w' := by
  intro k hk
  rw [hb.cell (p := ⟨0, k, none⟩) hB]; exact h k hk
end Go.Proofs.YtmlnejlhgbonpaaDoor.Top
