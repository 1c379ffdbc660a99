import Derived.Test.YtmlnejlhgbonpaaDoorRefRestored
import Derived.OwnWalk
namespace Go.Proofs.YtmlnejlhgbonpaaDoor.Ref
open Go.RowKit Mem FieldWalks Tab ByTab Parts
open Gf (Bytes sumTo addTo chosen left_ Fits)

/-- With an error all else is empty. -/
def GNo (k : Int) (e : Ending) : Prop := e = .returned (.tuple #[.string ByteArray.empty, .slice none 0 0, .int .i64 k])
theorem gno_rfl (k : Int) : GNo k (.returned (.tuple #[.string ⟨#[]⟩, .slice none 0 0, .int .i64 k])) := rfl

set_option maxRecDepth 100000 in
set_option maxHeartbeats 400000 in
theorem rGather_count (d s x n : Int) (pv lv : Value) (h : okCounts d s = false) (w : World) :
    Calls Tryd.prog 58 #[.int .i64 d, .int .i64 s, .int .i64 x, .int .i64 n, pv, lv] w fun e w' => GNo 3 e ∧ w' = w := by
  go_enter Tryd.func58, Tryd.ntmps58
  go_wp2_with fail
  refine (rCounts_any _ _ _).mono ?_
  rintro e w' ⟨rfl, rfl⟩
  go_wp2
  go_ret3
  exact ⟨rfl, rfl⟩
set_option maxRecDepth 100000 in
set_option maxHeartbeats 400000 in
theorem rGather_way (d s x n : Int) (pv lv : Value) (h1 : okCounts d s = true) (h : okWay x = false) (w : World) :
    Calls Tryd.prog 58 #[.int .i64 d, .int .i64 s, .int .i64 x, .int .i64 n, pv, lv] w fun e w' => GNo 4 e ∧ w' = w := by
  go_enter Tryd.func58, Tryd.ntmps58
  go_wp2_with fail
  refine (rCounts_any _ _ _).mono ?_
  rintro e w' ⟨rfl, rfl⟩
  go_wp2_with fail
  refine (rWay_any _ _).mono ?_
  rintro e w' ⟨rfl, rfl⟩
  go_wp2
  go_ret3
  exact ⟨rfl, rfl⟩
set_option maxRecDepth 100000 in
set_option maxHeartbeats 1000000 in
theorem rGather_long (d s x n : Int) (pv lv : Value) (h1 : okCounts d s = true) (h2 : okWay x = true) (h : ¬ (0 ≤ n ∧ n ≤ 400)) (w : World) :
    Calls Tryd.prog 58 #[.int .i64 d, .int .i64 s, .int .i64 x, .int .i64 n, pv, lv] w fun e w' => GNo 5 e ∧ w' = w := by
  by_cases h0 : n < 0
  · have e1 : decide (n < 0) = true := decide_eq_true h0
    go_enter Tryd.func58, Tryd.ntmps58
    go_wp2_with fail
    refine (rCounts_any _ _ _).mono ?_
    rintro e w' ⟨rfl, rfl⟩
    go_wp2_with fail
    refine (rWay_any _ _).mono ?_
    rintro e w' ⟨rfl, rfl⟩
    go_wp2
    go_ret3
    exact ⟨rfl, rfl⟩
  · have e1 : decide (n < 0) = false := decide_eq_false h0
    have e2 : decide (400 < n) = true := decide_eq_true (by omega)
    go_enter Tryd.func58, Tryd.ntmps58
    go_wp2_with fail
    refine (rCounts_any _ _ _).mono ?_
    rintro e w' ⟨rfl, rfl⟩
    go_wp2_with fail
    refine (rWay_any _ _).mono ?_
    rintro e w' ⟨rfl, rfl⟩
    go_wp2
    go_ret3
    exact ⟨rfl, rfl⟩
set_option maxRecDepth 100000 in
set_option maxHeartbeats 1000000 in
theorem rGather_shape (d s x n : Nat) (pieces : List ByteArray) (lost : List Int) (pv lv : Value) (w : World) (hp : StrsAt w pv pieces) (hl : IsC w lv lost) (hll : lost.length < 2 ^ 62) (hpl : pieces.length < 2 ^ 62) (hd : 1 ≤ d) (hd2 : d ≤ 10) (hs : s ≤ 6) (hx : x ≤ 2) (hn : n ≤ 400) (hsz : ∀ p, (h : p < pieces.length) → pieces[p].size < 2 ^ 62) (hno : ¬ ShapeOk d s ((n + d - 1) / d) pieces lost) :
    Calls Tryd.prog 58 #[.int .i64 d, .int .i64 s, .int .i64 x, .int .i64 n, pv, lv] w fun e w' => GNo 6 e ∧ Drew w w' := by
  have hok : okCounts d s = true := okCounts_yes _ _ (by omega)
  have how : okWay x = true := okWay_yes _ (by omega)
  have e1 : decide ((n : Int) < 0) = false := decide_eq_false (by omega)
  have e2 : decide ((400 : Int) < (n : Int)) = false := decide_eq_false (by omega)
  have HSH : Hid (∀ w', Drew w w' → Calls Tryd.prog 80 #[.int .i64 d, .int .i64 s, .int .i64 n, pv, lv] w' fun e w'' => e = .returned (.bool false) ∧ Drew w w'') := by
    intro w' hw
    refine (shaped_any d s n _ pieces lost pv lv w' (hp.to hw.below) (hw.isC hl) hll hpl hd hd2 hs hn rfl hsz).mono ?_
    rintro e w'' ⟨⟨b, rfl, hb⟩, ⟨m, rfl⟩⟩
    cases b
    · exact ⟨rfl, hw.more m⟩
    · exact absurd (hb.1 rfl) hno
  go_enter Tryd.func58, Tryd.ntmps58
  go_wp2_with fail
  refine (rCounts_any _ _ _).mono ?_
  rintro e w' ⟨rfl, rfl⟩
  go_wp2_with fail
  refine (rWay_any _ _).mono ?_
  rintro e w' ⟨rfl, rfl⟩
  go_wp2_with fail
  refine (HSH.out _ ⟨0, rfl⟩).mono ?_
  rintro e w2 ⟨rfl, hw2⟩
  go_wp2
  go_ret3
  exact ⟨rfl, hw2⟩
set_option maxRecDepth 100000 in
set_option maxHeartbeats 1000000 in
theorem rGather_few (d s x n : Nat) (pieces : List ByteArray) (lost : List Int) (pv lv : Value) (w : World) (hp : StrsAt w pv pieces) (hl : IsC w lv lost) (hll : lost.length < 2 ^ 62) (hpl : pieces.length < 2 ^ 62) (hd : 1 ≤ d) (hd2 : d ≤ 10) (hs : s ≤ 6) (hx : x ≤ 2) (hn : n ≤ 400) (hsz : ∀ p, (h : p < pieces.length) → pieces[p].size < 2 ^ 62) (hyes : ShapeOk d s ((n + d - 1) / d) pieces lost) (hfew : s < lost.length) :
    Calls Tryd.prog 58 #[.int .i64 d, .int .i64 s, .int .i64 x, .int .i64 n, pv, lv] w fun e w' => GNo 7 e ∧ Drew w w' := by
  have hok : okCounts d s = true := okCounts_yes _ _ (by omega)
  have how : okWay x = true := okWay_yes _ (by omega)
  have e1 : decide ((n : Int) < 0) = false := decide_eq_false (by omega)
  have e2 : decide ((400 : Int) < (n : Int)) = false := decide_eq_false (by omega)
  have e3 : decide ((s : Int) < (lost.length : Int)) = true := decide_eq_true (by omega)
  have HSH : Hid (∀ w', Drew w w' → Calls Tryd.prog 80 #[.int .i64 d, .int .i64 s, .int .i64 n, pv, lv] w' fun e w'' => e = .returned (.bool true) ∧ Drew w w'') := by
    intro w' hw
    refine (shaped_any d s n _ pieces lost pv lv w' (hp.to hw.below) (hw.isC hl) hll hpl hd hd2 hs hn rfl hsz).mono ?_
    rintro e w'' ⟨⟨b, rfl, hb⟩, ⟨m, rfl⟩⟩
    rw [hb.2 hyes]
    exact ⟨rfl, hw.more m⟩
  obtain ⟨lao, lex, rfl, _⟩ := hl
  go_enter Tryd.func58, Tryd.ntmps58
  go_wp2_with fail
  refine (rCounts_any _ _ _).mono ?_
  rintro e w' ⟨rfl, rfl⟩
  go_wp2_with fail
  refine (rWay_any _ _).mono ?_
  rintro e w' ⟨rfl, rfl⟩
  go_wp2_with fail
  refine (HSH.out _ ⟨0, rfl⟩).mono ?_
  rintro e w2 ⟨rfl, hw2⟩
  go_wp2
  go_ret3
  exact ⟨rfl, hw2⟩

theorem mkS_append (a b : List Nat) : mkS a ++ mkS b = mkS (a ++ b) := ByteArray.ext (by simp [mkS, ByteArray.data_append])
theorem mkS_size (a : List Nat) : (mkS a).size = a.length := by show (mkS a).data.size = _; simp [mkS]
theorem mkS_take (a : List Nat) (n : Nat) : (mkS a).extract 0 n = mkS (a.take n) := ByteArray.ext (by rw [ByteArray.data_extract]; simp [mkS])
theorem flatten_length (ps : List (List Nat)) (L : Nat) (h : ∀ j, (h : j < ps.length) → ps[j].length = L) : ps.flatten.length = ps.length * L := by
  induction ps with
  | nil => simp
  | cons p ps ih =>
    have h0 := h 0 (by simp)
    have := ih fun j hj => by have := h (j + 1) (by simpa using hj); simpa using this
    simp only [List.getElem_cons_zero] at h0
    rw [List.flatten_cons, List.length_append, this, h0, List.length_cons, Nat.add_mul]; omega
theorem flatten_next (ps : List (List Nat)) (j : Nat) (hj : j < ps.length) : (ps.take (j + 1)).flatten = (ps.take j).flatten ++ ps[j] := by
  rw [List.take_add_one, List.getElem?_eq_getElem hj, List.flatten_append]; simp
theorem ceil_mul (n d : Nat) (hd : 0 < d) : n ≤ d * ((n + d - 1) / d) := by
  have := Nat.div_add_mod (n + d - 1) d
  have := Nat.mod_lt (n + d - 1) hd
  omega
end Go.Proofs.YtmlnejlhgbonpaaDoor.Ref
