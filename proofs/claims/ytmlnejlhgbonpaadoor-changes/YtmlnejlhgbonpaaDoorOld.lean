import Derived.Test.YtmlnejlhgbonpaaDoorParts
namespace Go.Proofs.YtmlnejlhgbonpaaDoor.Ref
open Go.RowKit Parts
/-- The old byte. -/
def oldOf (pieces : List ByteArray) (p t : Nat) : Nat := (nums (pieces.getD p ByteArray.empty)).getD t 0
end Go.Proofs.YtmlnejlhgbonpaaDoor.Ref
