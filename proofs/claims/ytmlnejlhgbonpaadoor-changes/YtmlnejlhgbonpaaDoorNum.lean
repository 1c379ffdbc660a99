import Derived.Test.YtmlnejlhgbonpaaDoorField
namespace Go.Proofs.YtmlnejlhgbonpaaDoor.FieldWalks
open Go.RowKit

theorem num_any (a : Int) (w : World) : Calls Tryd.prog 15 #[.int .i64 a] w fun e w' => e = .returned (.int .i64 a) ∧ w' = w := by
  go_enter Tryd.func15, Tryd.ntmps15
  go_wp2
  go_ret
  exact ⟨rfl, rfl⟩

end Go.Proofs.YtmlnejlhgbonpaaDoor.FieldWalks
