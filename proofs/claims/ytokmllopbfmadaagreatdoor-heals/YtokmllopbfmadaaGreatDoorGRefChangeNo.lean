import Derived.Test.YtokmllopbfmadaaGreatDoorGRefRestored
namespace Go.Proofs.YtokmllopbfmadaaGreatDoor.Ref
open Go.RowKit Mem FieldWalks Tab ByTab Parts

/-- With an error no pieces. -/
def CNo (k : Int) (e : Ending) : Prop := e = .returned (.tuple #[.slice none 0 0, .int .i64 k])

set_option maxRecDepth 100000 in
set_option maxHeartbeats 400000 in
theorem rChange_count (d s n a : Int) (pv : Value) (text : ByteArray) (h : okCounts d s = false) (w : World) :
    Calls Tryz.prog 24 #[.int .i64 d, .int .i64 s, .int .i64 n, pv, .int .i64 a, .string text] w fun e w' => CNo 3 e ∧ w' = w := by
  go_enter Tryz.func24, Tryz.ntmps24
  go_wp2_with fail
  refine (rCounts_any _ _ _).mono ?_
  rintro e w' ⟨rfl, rfl⟩
  go_wp2
  go_ret2
  exact ⟨rfl, rfl⟩
set_option maxRecDepth 100000 in
set_option maxHeartbeats 400000 in
theorem rChange_long (d s n a : Int) (pv : Value) (text : ByteArray) (h1 : okCounts d s = true) (h : ¬ (0 ≤ n ∧ n ≤ 400)) (w : World) :
    Calls Tryz.prog 24 #[.int .i64 d, .int .i64 s, .int .i64 n, pv, .int .i64 a, .string text] w fun e w' => CNo 5 e ∧ w' = w := by
  by_cases h0 : n < 0
  · have e1 : decide (n < 0) = true := decide_eq_true h0
    go_enter Tryz.func24, Tryz.ntmps24
    go_wp2_with fail
    refine (rCounts_any _ _ _).mono ?_
    rintro e w' ⟨rfl, rfl⟩
    go_wp2
    go_ret2
    exact ⟨rfl, rfl⟩
  · have e1 : decide (n < 0) = false := decide_eq_false h0
    have e2 : decide (400 < n) = true := decide_eq_true (by omega)
    go_enter Tryz.func24, Tryz.ntmps24
    go_wp2_with fail
    refine (rCounts_any _ _ _).mono ?_
    rintro e w' ⟨rfl, rfl⟩
    go_wp2
    go_ret2
    exact ⟨rfl, rfl⟩
set_option maxRecDepth 100000 in
set_option maxHeartbeats 1000000 in
theorem rChange_shape (d s n : Nat) (a : Int) (pieces : List ByteArray) (pv : Value) (text : ByteArray) (w : World) (hp : StrsAt w pv pieces) (hpl : pieces.length < 2 ^ 62) (hd : 1 ≤ d) (hd2 : d ≤ 10) (hs : s ≤ 6) (hn : n ≤ 400) (hsz : ∀ p, (h : p < pieces.length) → pieces[p].size < 2 ^ 62)
    (hno : ¬ ShapeOk d s ((n + d - 1) / d) pieces []) :
    Calls Tryz.prog 24 #[.int .i64 d, .int .i64 s, .int .i64 n, pv, .int .i64 a, .string text] w fun e w' => CNo 6 e ∧ Drew w w' := by
  have hok : okCounts d s = true := okCounts_yes _ _ (by omega)
  have e1 : decide ((n : Int) < 0) = false := decide_eq_false (by omega)
  have e2 : decide ((400 : Int) < (n : Int)) = false := decide_eq_false (by omega)
  have HSH : Hid (Calls Tryz.prog 48 #[.int .i64 d, .int .i64 s, .int .i64 n, pv, .slice none 0 0] w fun e w'' => e = .returned (.bool false) ∧ Drew w w'') := by
    refine (shaped_any d s n _ pieces [] pv _ w hp ⟨none, 0, rfl, .inl rfl⟩ (by simp) hpl hd hd2 hs hn rfl hsz).mono ?_
    rintro e w'' ⟨⟨b, rfl, hb⟩, hw⟩
    cases b
    · exact ⟨rfl, hw⟩
    · exact absurd (hb.1 rfl) hno
  go_enter Tryz.func24, Tryz.ntmps24
  go_wp2_with fail
  refine (rCounts_any _ _ _).mono ?_
  rintro e w' ⟨rfl, rfl⟩
  go_wp2_with fail
  refine Calls.mono HSH.out ?_
  rintro e w2 ⟨rfl, hw2⟩
  go_wp2
  go_ret2
  exact ⟨rfl, hw2⟩
set_option maxRecDepth 100000 in
set_option maxHeartbeats 1000000 in
theorem rChange_range (d s n : Nat) (a : Int) (pieces : List ByteArray) (pv : Value) (text : ByteArray) (w : World) (hp : StrsAt w pv pieces) (hpl : pieces.length < 2 ^ 62) (hd : 1 ≤ d) (hd2 : d ≤ 10) (hs : s ≤ 6) (hn : n ≤ 400) (hsz : ∀ p, (h : p < pieces.length) → pieces[p].size < 2 ^ 62)
    (ha1 : -(2 : Int) ^ 63 ≤ a) (ha2 : a < (2 : Int) ^ 63) (hyes : ShapeOk d s ((n + d - 1) / d) pieces []) (hr : ¬ (0 ≤ a ∧ a + text.size ≤ n)) :
    Calls Tryz.prog 24 #[.int .i64 d, .int .i64 s, .int .i64 n, pv, .int .i64 a, .string text] w fun e w' => CNo 8 e ∧ Drew w w' := by
  have hok : okCounts d s = true := okCounts_yes _ _ (by omega)
  have e1 : decide ((n : Int) < 0) = false := decide_eq_false (by omega)
  have e2 : decide ((400 : Int) < (n : Int)) = false := decide_eq_false (by omega)
  have HSH : Hid (Calls Tryz.prog 48 #[.int .i64 d, .int .i64 s, .int .i64 n, pv, .slice none 0 0] w fun e w'' => e = .returned (.bool true) ∧ Drew w w'') := by
    refine (shaped_any d s n _ pieces [] pv _ w hp ⟨none, 0, rfl, .inl rfl⟩ (by simp) hpl hd hd2 hs hn rfl hsz).mono ?_
    rintro e w'' ⟨⟨b, rfl, hb⟩, hw⟩
    rw [hb.2 hyes]
    exact ⟨rfl, hw⟩
  by_cases h0 : a < 0
  · have e4 : decide (a < 0) = true := decide_eq_true h0
    go_enter Tryz.func24, Tryz.ntmps24
    go_wp2_with fail
    refine (rCounts_any _ _ _).mono ?_
    rintro e w' ⟨rfl, rfl⟩
    go_wp2_with fail
    refine Calls.mono HSH.out ?_
    rintro e w2 ⟨rfl, hw2⟩
    go_wp2
    go_ret2
    exact ⟨rfl, hw2⟩
  · have e4 : decide (a < 0) = false := decide_eq_false h0
    by_cases h5 : (n : Int) < a
    · have e5 : decide ((n : Int) < a) = true := decide_eq_true h5
      go_enter Tryz.func24, Tryz.ntmps24
      go_wp2_with fail
      refine (rCounts_any _ _ _).mono ?_
      rintro e w' ⟨rfl, rfl⟩
      go_wp2_with fail
      refine Calls.mono HSH.out ?_
      rintro e w2 ⟨rfl, hw2⟩
      go_wp2
      go_ret2
      exact ⟨rfl, hw2⟩
    · have e5 : decide ((n : Int) < a) = false := decide_eq_false h5
      have e6 : decide ((n : Int) - a < (text.size : Int)) = true := decide_eq_true (by omega)
      go_enter Tryz.func24, Tryz.ntmps24
      go_wp2_with fail
      refine (rCounts_any _ _ _).mono ?_
      rintro e w' ⟨rfl, rfl⟩
      go_wp2_with fail
      refine Calls.mono HSH.out ?_
      rintro e w2 ⟨rfl, hw2⟩
      go_wp2
      go_ret2
      exact ⟨rfl, hw2⟩
end Go.Proofs.YtokmllopbfmadaaGreatDoor.Ref
