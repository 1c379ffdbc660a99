import Derived.Test.YtmlnejlhgbonpaaDoorField
namespace Go.Proofs.YtmlnejlhgbonpaaDoor.FieldWalks
open Go.RowKit

/-- May the counts be? Is it a way? -/
def okCounts (d s : Int) : Bool := decide (1 ≤ d ∧ d ≤ 10 ∧ 0 ≤ s ∧ s ≤ 6)
def okWay (w : Int) : Bool := decide (0 ≤ w ∧ w ≤ 2)

theorem okCounts_no (d s : Int) (h : ¬ (1 ≤ d ∧ d ≤ 10 ∧ 0 ≤ s ∧ s ≤ 6)) : okCounts d s = false := by simp [okCounts]; omega
theorem okCounts_yes (d s : Int) (h : 1 ≤ d ∧ d ≤ 10 ∧ 0 ≤ s ∧ s ≤ 6) : okCounts d s = true := by simp [okCounts]; omega
theorem okWay_no (w : Int) (h : ¬ (0 ≤ w ∧ w ≤ 2)) : okWay w = false := by simp [okWay]; omega
theorem okWay_yes (w : Int) (h : 0 ≤ w ∧ w ≤ 2) : okWay w = true := by simp [okWay]; omega

set_option maxHeartbeats 400000 in
theorem areCounts_any (d s : Int) (w : World) : Calls Tryd.prog 48 #[.int .i64 d, .int .i64 s] w fun e w' => e = .returned (.bool (okCounts d s)) ∧ w' = w := by
  by_cases h1 : 1 ≤ d
  · by_cases h2 : d ≤ 10
    · by_cases h3 : 0 ≤ s
      · by_cases h4 : s ≤ 6
        · rw [okCounts_yes d s ⟨h1, h2, h3, h4⟩]
          go_enter Tryd.func48, Tryd.ntmps48
          go_wp2
          go_ret
          exact ⟨rfl, rfl⟩
        · rw [okCounts_no d s (by omega)]
          go_enter Tryd.func48, Tryd.ntmps48
          go_wp2
          go_ret
          exact ⟨rfl, rfl⟩
      · rw [okCounts_no d s (by omega)]
        go_enter Tryd.func48, Tryd.ntmps48
        go_wp2
        go_ret
        exact ⟨rfl, rfl⟩
    · rw [okCounts_no d s (by omega)]
      go_enter Tryd.func48, Tryd.ntmps48
      go_wp2
      go_ret
      exact ⟨rfl, rfl⟩
  · rw [okCounts_no d s (by omega)]
    go_enter Tryd.func48, Tryd.ntmps48
    go_wp2
    go_ret
    exact ⟨rfl, rfl⟩
set_option maxHeartbeats 400000 in
theorem rCounts_any (d s : Int) (w : World) : Calls Tryd.prog 38 #[.int .i64 d, .int .i64 s] w fun e w' => e = .returned (.bool (okCounts d s)) ∧ w' = w := by
  by_cases h1 : 1 ≤ d
  · by_cases h2 : d ≤ 10
    · by_cases h3 : 0 ≤ s
      · by_cases h4 : s ≤ 6
        · rw [okCounts_yes d s ⟨h1, h2, h3, h4⟩]
          go_enter Tryd.func38, Tryd.ntmps38
          go_wp2
          go_ret
          exact ⟨rfl, rfl⟩
        · rw [okCounts_no d s (by omega)]
          go_enter Tryd.func38, Tryd.ntmps38
          go_wp2
          go_ret
          exact ⟨rfl, rfl⟩
      · rw [okCounts_no d s (by omega)]
        go_enter Tryd.func38, Tryd.ntmps38
        go_wp2
        go_ret
        exact ⟨rfl, rfl⟩
    · rw [okCounts_no d s (by omega)]
      go_enter Tryd.func38, Tryd.ntmps38
      go_wp2
      go_ret
      exact ⟨rfl, rfl⟩
  · rw [okCounts_no d s (by omega)]
    go_enter Tryd.func38, Tryd.ntmps38
    go_wp2
    go_ret
    exact ⟨rfl, rfl⟩
theorem rWay_any (x : Int) (w : World) : Calls Tryd.prog 72 #[.int .i64 x] w fun e w' => e = .returned (.bool (okWay x)) ∧ w' = w := by
  by_cases h1 : 0 ≤ x
  · by_cases h2 : x ≤ 2
    · rw [okWay_yes x ⟨h1, h2⟩]
      go_enter Tryd.func72, Tryd.ntmps72
      go_wp2
      go_ret
      exact ⟨rfl, rfl⟩
    · rw [okWay_no x (by omega)]
      go_enter Tryd.func72, Tryd.ntmps72
      go_wp2
      go_ret
      exact ⟨rfl, rfl⟩
  · rw [okWay_no x (by omega)]
    go_enter Tryd.func72, Tryd.ntmps72
    go_wp2
    go_ret
    exact ⟨rfl, rfl⟩
theorem isWay_any (x : Int) (w : World) : Calls Tryd.prog 49 #[.int .i64 x] w fun e w' => e = .returned (.bool (okWay x)) ∧ w' = w := by
  by_cases h0 : x = 0
  · subst h0
    rw [show okWay 0 = true from rfl]
    go_enter Tryd.func49, Tryd.ntmps49
    go_wp2
    go_ret
    exact ⟨rfl, rfl⟩
  · by_cases h1 : x = 1
    · subst h1
      rw [show okWay 1 = true from rfl]
      go_enter Tryd.func49, Tryd.ntmps49
      go_wp2
      go_ret
      exact ⟨rfl, rfl⟩
    · by_cases h2 : x = 2
      · subst h2
        rw [show okWay 2 = true from rfl]
        go_enter Tryd.func49, Tryd.ntmps49
        go_wp2
        go_ret
        exact ⟨rfl, rfl⟩
      · rw [okWay_no x (by omega)]
        have b0 : (x == 0) = false := by rw [beq_eq_false_iff_ne]; exact h0
        have b1 : (x == 1) = false := by rw [beq_eq_false_iff_ne]; exact h1
        have b2 : (x == 2) = false := by rw [beq_eq_false_iff_ne]; exact h2
        go_enter Tryd.func49, Tryd.ntmps49
        go_wp2
        go_ret
        exact ⟨rfl, rfl⟩
end Go.Proofs.YtmlnejlhgbonpaaDoor.FieldWalks
