import Derived.Test.YtlnpppdffhibjaaDoorByPlan
import Derived.Test.YtlnpppdffhibjaaDoorSpreads
namespace Go.Proofs.YtlnpppdffhibjaaDoor.Top
open Go.RowKit Mem FieldWalks Tab ByTab Parts

set_option maxRecDepth 100000 in
set_option maxHeartbeats 1000000 in
/-- ████ Sums, in each of the three ways. ████ -/
theorem sums_any : SumsOk := by
  intro x rows ps L rv pv w hx ht hr hp hfit
  rcases (show x = 0 ∨ x = 1 ∨ x = 2 by omega) with rfl | rfl | rfl
  · go_enter Tryd.func75, Tryd.ntmps75
    go_wp2_with fail
    refine (sumsByTables_any rows ps L rv pv _ ht hr hp.rows hfit).mono ?_
    rintro e w1 ⟨v, rfl, hrow, hb⟩
    go_wp2
    go_ret
    exact ⟨_, rfl, hrow, hb⟩
  · go_enter Tryd.func75, Tryd.ntmps75
    go_wp2_with fail
    refine (Planes.sumsByPlanes_any rows ps L rv pv _ ht hr hp.rows hfit).mono ?_
    rintro e w1 ⟨v, rfl, hrow, hb⟩
    go_wp2
    go_ret
    exact ⟨_, rfl, hrow, hb⟩
  · go_enter Tryd.func75, Tryd.ntmps75
    go_wp2_with fail
    refine (Plans.sumsByPlan_any rows ps L rv pv _ ht hr hp hfit).mono ?_
    rintro e w1 ⟨v, rfl, hrow, hb⟩
    go_wp2
    go_ret
    exact ⟨_, rfl, hrow, hb⟩
end Go.Proofs.YtlnpppdffhibjaaDoor.Top
