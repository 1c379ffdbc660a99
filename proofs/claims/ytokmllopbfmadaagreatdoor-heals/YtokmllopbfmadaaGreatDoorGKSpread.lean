import Derived.Deep.RegionHeld3
import Derived.Test.YtokmllopbfmadaaGreatDoorGKPick
import Derived.Test.YtokmllopbfmadaaGreatDoorGWGather
import Derived.Test.YtokmllopbfmadaaGreatDoorGSpread
namespace Go.Proofs.YtokmllopbfmadaaGreatDoor.KeepW
open Go.RowKit Mem FieldWalks Tab ByTab Parts Ref Top

/-- A text of at most MaxText bytes. -/
def shortS (s : ByteArray) : ByteArray := if 400 < s.size then s.extract 0 400 else s
theorem shortS_size (s : ByteArray) : (shortS s).size ≤ 400 := by
  unfold shortS
  split
  · rw [ByteArray.size_extract]; omega
  · omega
end Go.Proofs.YtokmllopbfmadaaGreatDoor.KeepW
