import Derived.Test.YtlnpppdffhibjaaDoorField
namespace Go.Proofs.YtlnpppdffhibjaaDoor.FieldWalks
open Go.RowKit

theorem num_any (a : Int) (w : World) : Calls Tryd.prog 13 #[.int .i64 a] w fun e w' => e = .returned (.int .i64 a) ∧ w' = w := by
  go_enter Tryd.func13, Tryd.ntmps13
  go_wp2
  go_ret
  exact ⟨rfl, rfl⟩

end Go.Proofs.YtlnpppdffhibjaaDoor.FieldWalks
