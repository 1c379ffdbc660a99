import Derived.Test.YtmlnejlhgbonpaaDoorLendB
import Derived.Test.YtmlnejlhgbonpaaDoorSpreads
import Derived.Test.YtmlnejlhgbonpaaDoorWChange
namespace Go.Proofs.YtmlnejlhgbonpaaDoor.Top
open Go.RowKit Mem FieldWalks Tab ByTab Parts Book Ref
open Gf (newP)
open Plans (rowF But)

/-- What a call of the program answers: a list in a new block, or none. -/
def PAns (B : Nat) (er : Int) (ss : List ByteArray) (e : Ending) (w' : World) : Prop :=
  (∃ b, B ≤ b ∧ e = .returned (.tuple #[.slice (some ⟨b, 0, none⟩) ss.length ss.length, .int .i64 er]) ∧ Blk w' b 9 (strV ss)) ∨ (ss = [] ∧ e = .returned (.tuple #[.slice none 0 0, .int .i64 er]))

/-- The program's Change and the document's, at whatever is handed in. -/
theorem change_both (d s n a : Int) (pieces : List ByteArray) (text : ByteArray) (hpl : pieces.length < 2 ^ 62) (hsz : ∀ p, (h : p < pieces.length) → pieces[p].size < 2 ^ 62) (hlen : text.size ≤ maxLen)
    (ha1 : -(2 : Int) ^ 63 ≤ a) (ha2 : a < (2 : Int) ^ 63) : ∃ ss er, ss.length ≤ 16 ∧
    (∀ w pv, Table w → StrsAt w pv pieces → Calls Tryd.prog 28 #[.int .i64 d, .int .i64 s, .int .i64 n, pv, .int .i64 a, .string text] w fun e w' => PAns w.heap.size er ss e w' ∧ Below w.heap.size w w') ∧
    (∀ w pv, StrsAt w pv pieces → Calls Tryd.prog 63 #[.int .i64 d, .int .i64 s, .int .i64 n, pv, .int .i64 a, .string text] w fun e w' => ∃ v, e = .returned (.tuple #[v, .int .i64 er]) ∧ StrsNew w' w.heap.size v ss ∧ Below w.heap.size w w') := by
  have nil : ∀ (w : World) (B : Nat), StrsNew w B (.slice none 0 0) [] := fun w _ => ⟨none, 0, rfl, .inl rfl⟩
  have no : ∀ k : Nat, 1 ≤ k → k ≤ 100 → (∀ w pv, StrsAt w pv pieces → Calls Tryd.prog 61 #[.int .i64 d, .int .i64 s, .int .i64 n, pv, .int .i64 a, .string text] w fun e w' => e = .returned (.int .i64 k) ∧ w' = w) →
      (∀ w pv, StrsAt w pv pieces → Calls Tryd.prog 63 #[.int .i64 d, .int .i64 s, .int .i64 n, pv, .int .i64 a, .string text] w fun e w' => CNo k e ∧ Below w.heap.size w w') →
      ∃ ss er, ss.length ≤ 16 ∧
    (∀ w pv, Table w → StrsAt w pv pieces → Calls Tryd.prog 28 #[.int .i64 d, .int .i64 s, .int .i64 n, pv, .int .i64 a, .string text] w fun e w' => PAns w.heap.size er ss e w' ∧ Below w.heap.size w w') ∧
    (∀ w pv, StrsAt w pv pieces → Calls Tryd.prog 63 #[.int .i64 d, .int .i64 s, .int .i64 n, pv, .int .i64 a, .string text] w fun e w' => ∃ v, e = .returned (.tuple #[v, .int .i64 er]) ∧ StrsNew w' w.heap.size v ss ∧ Below w.heap.size w w') := by
    intro k hk1 hk2 h1 h2
    refine ⟨[], k, by simp, fun w pv _ hp => ?_, fun w pv hp => ?_⟩
    · refine (wChange_no pv text w k hk1 hk2 d s n a (h1 w pv hp)).mono ?_
      rintro e w' ⟨he, rfl⟩
      exact ⟨.inr ⟨rfl, he⟩, Below.refl _ _⟩
    · refine (h2 w pv hp).mono ?_
      rintro e w' ⟨he, hb⟩
      exact ⟨_, he, nil w' _, hb⟩
  cases h1 : okCounts d s
  · refine no 3 (by omega) (by omega) (fun w pv _ => cFault_count pv text w d s n a h1) (fun w pv _ => (rChange_count d s n a pv text h1 w).mono ?_)
    rintro e w' ⟨he, rfl⟩
    exact ⟨he, Below.refl _ _⟩
  by_cases h2 : 0 ≤ n ∧ n ≤ 400
  · have h1' := of_decide_eq_true h1
    obtain ⟨d, rfl⟩ := Int.eq_ofNat_of_zero_le (show 0 ≤ d by omega)
    obtain ⟨s, rfl⟩ := Int.eq_ofNat_of_zero_le (show 0 ≤ s by omega)
    obtain ⟨n, rfl⟩ := Int.eq_ofNat_of_zero_le (show 0 ≤ n by omega)
    by_cases h3 : ShapeOk d s ((n + d - 1) / d) pieces []
    · by_cases h4 : 0 ≤ a ∧ a + text.size ≤ n
      · obtain ⟨a, rfl⟩ := Int.eq_ofNat_of_zero_le (show 0 ≤ a by omega)
        refine ⟨(List.range (d + s)).map fun p => mkS (rowF ((n + d - 1) / d) (newP d ((n + d - 1) / d) a (nums text) text.size (oldOf pieces) p)), 0, by simp; omega, fun w pv ht hp => ?_, fun w pv hp => ?_⟩
        · refine (wChange_ok pv text w d s n a _ pieces ht hp (by omega) (by omega) (by omega) (by omega) rfl hsz h3 (by omega)).mono ?_
          rintro e w' ⟨b, hb, rfl, hblk, hbel⟩
          refine ⟨.inl ⟨b, hb, by simp, hblk⟩, hbel⟩
        · exact rChange_ok d s n a _ pieces text pv w hp (by omega) (by omega) (by omega) (by omega) rfl hsz h3 (by omega)
      · refine no 8 (by omega) (by omega) (fun w pv hp => ?_) (fun w pv hp => (rChange_range d s n a pieces pv text w hp hpl (by omega) (by omega) (by omega) (by omega) hsz ha1 ha2 h3 h4).mono ?_)
        · have := cFault_range pv text w d s n a pieces hp (by omega) (by omega) (by omega) (by omega) hsz (by omega) hlen h3
          rwa [show okWithin n a text.size = false by simp [okWithin]; omega, if_neg (by decide)] at this
        · rintro e w' ⟨he, hd⟩
          exact ⟨he, hd.below⟩
    · refine no 6 (by omega) (by omega) (fun w pv hp => cFault_shape pv text w d s n a pieces hp hpl (by omega) (by omega) (by omega) (by omega) hsz h3) (fun w pv hp => (rChange_shape d s n a pieces pv text w hp hpl (by omega) (by omega) (by omega) (by omega) hsz h3).mono ?_)
      rintro e w' ⟨he, hd⟩
      exact ⟨he, hd.below⟩
  · refine no 5 (by omega) (by omega) (fun w pv _ => cFault_long pv text w d s n a h1 h2) (fun w pv _ => (rChange_long d s n a pv text h1 h2 w).mono ?_)
    rintro e w' ⟨he, rfl⟩
    exact ⟨he, Below.refl _ _⟩

set_option maxRecDepth 100000 in
set_option maxHeartbeats 1000000 in
theorem bchange_any (B b c : Nat) (d s n a : Int) (pieces : List ByteArray) (text : ByteArray) (pv : Value) (w : World) (ht : Table w) (hbook : BookAt w B b c w.heap.size) (hc : c ≤ 8)
    (hp : CameT w pv pieces.length) (hst : StrsAt w pv pieces) (hpl : pieces.length ≤ 8796093022204) (hsz : ∀ p, (h : p < pieces.length) → pieces[p].size < 2 ^ 62) (hlen : text.size ≤ maxLen)
    (ha1 : -(2 : Int) ^ 63 ≤ a) (ha2 : a < (2 : Int) ^ 63) :
    Calls Tryd.prog 29 #[.pointer (some ⟨b, 0, none⟩), .int .i64 d, .int .i64 s, .int .i64 n, pv, .int .i64 a, .string text] w fun e w' => e = .returned (.bool true) ∧ BookAt w' B b (c + 1) w'.heap.size ∧ Below B w w' := by
  obtain ⟨ss, er, hss, h1, h2⟩ := change_both d s n a pieces text (by omega) hsz hlen ha1 ha2
  have H1 : Hid _ := h1
  have H2 : Hid _ := h2
  have hle := lendT_both pieces pv w hp hst hpl
  have HLE : Hid _ := hle
  have HB : Hid (BookAt w B b c w.heap.size) := hbook
  have hBb := hbook.1
  have hblt : b < w.heap.size := by obtain ⟨_, kv, es, _, h, _⟩ := hbook; exact h.lt
  have HST : Hid (StrsAt w pv pieces) := hst
  clear hbook h1 h2 hle hst hsz hlen ha1 ha2
  go_enter Tryd.func29, Tryd.ntmps29
  go_wp2_with fail
  refine Calls.mono HLE.out ?_
  rintro e w1 ⟨p, rfl, hst1, hb1, hwh⟩
  have HWH : Hid _ := hwh
  clear HLE hwh
  have hc1 := H1.out w1 p (table_to ht hb1) hst1
  clear hst1
  go_wp2_with fail
  refine Calls.mono hc1 ?_
  rintro e w2 ⟨hans, hb2⟩
  clear hc1
  have hb02 := hb1.trans (hb2.mono hb1.size)
  have hc2 := H2.out w2 pv (HST.out.to hb02)
  have HC2 : Hid _ := hc2
  clear hc2
  obtain ⟨lv, lo, rfl, hlo, hans⟩ : ∃ lv lo, e = .returned (.tuple #[lv, .int .i64 er]) ∧ lv = .slice lo ss.length ss.length ∧ ((ss = [] ∧ lo = none) ∨ ∃ lb, w1.heap.size ≤ lb ∧ lo = some ⟨lb, 0, none⟩ ∧ Blk w2 lb 9 (strV ss)) := by
    rcases hans with ⟨lb, h1, h2, h3⟩ | ⟨rfl, h2⟩
    · exact ⟨_, _, h2, rfl, .inr ⟨lb, h1, rfl, h3⟩⟩
    · exact ⟨_, none, h2, rfl, .inl ⟨rfl, rfl⟩⟩
  have HANS : Hid _ := hans
  subst hlo
  clear hans
  go_wp2_with fail
  refine Calls.mono HC2.out ?_
  rintro e w3 ⟨mv, rfl, hnew, hb3⟩
  clear HC2
  have hb23 := hb2.trans (hb3.mono hb2.size)
  have hw3 := HWH.out w3 hb23
  have HNEW : Hid (StrsNew w3 w1.heap.size mv ss) := hnew.low hb2.size
  have hb03 := hb02.trans (hb3.mono hb02.size)
  clear hnew
  go_wp2_with fail
  refine Calls.mono hw3 ?_
  rintro e w4 ⟨rfl, hwr⟩
  clear hw3
  have hst4 : StrsAt w4 mv ss := (hwr.strs HNEW.out).at
  have hb04 : Below w.heap.size w w4 := hwr.below hb03 hb03.size (Nat.le_refl _)
  have hblk4 : (ss = [] ∧ lo = none) ∨ ∃ lb, w1.heap.size ≤ lb ∧ lo = some ⟨lb, 0, none⟩ ∧ Blk w4 lb 9 (strV ss) := by
    rcases HANS.out with h | ⟨lb, h1, h2, h3⟩
    · exact .inl h
    · exact .inr ⟨lb, h1, h2, hwr.blk (h3.to hb3) h1⟩
  have hst5 : StrsAt w4 (.slice lo ss.length ss.length) ss := by
    rcases hblk4 with ⟨h1, rfl⟩ | ⟨lb, h1, rfl, h3⟩
    · exact ⟨none, _, rfl, .inl h1⟩
    · exact StrsAt.of_blk h3 _ _ rfl
  have hsame := sameT_yes ss _ _ _ hst5 hst4 (by omega)
  have HBK4 : Hid _ := hblk4
  have HB04 : Hid (Below w.heap.size w w4) := hb04
  have hsz1 := hb1.size
  clear hst4 hst5 hblk4 hwr HNEW HANS hb04 hb03 hb23 hb02
  go_wp2_with fail
  refine Calls.mono hsame ?_
  rintro e w5 ⟨rfl, nq, rfl⟩
  clear hsame
  have hb5 : Below w.heap.size w (w4.drewN nq) := below_drewN HB04.out nq
  have hB : B ≤ w.heap.size := by omega
  have htx : Calls Tryd.prog 23 #[.pointer (some ⟨b, 0, none⟩), .slice lo ss.length ss.length] (w4.drewN nq) fun e w' => e = .returned (.tuple #[]) ∧ BookAt w' B b (c + 1) w'.heap.size ∧ Below B (w4.drewN nq) w' := by
    rcases HBK4.out with ⟨h1, rfl⟩ | ⟨lb, h1, rfl, h3⟩
    · have := texts_any B b c w.heap.size ss.length none [] (w4.drewN nq) (HB.out.to hb5) hc (by omega) hB (by simp [h1]) (.inl ⟨by simp [h1], rfl⟩)
      exact this
    · exact texts_any B b c lb ss.length (some ⟨lb, 0, none⟩) (strV ss) (w4.drewN nq) ((HB.out.to hb5).mono (by omega)) hc (by omega) (by omega) (by simp [strV]) (.inr ⟨rfl, h3⟩)
  clear HBK4
  go_wp2_with fail
  refine Calls.mono htx ?_
  rintro e w6 ⟨rfl, hbk6, hb6⟩
  have hb06 := (hb5.mono hB).trans hb6
  clear htx
  go_wp2_with fail
  refine (num_any _ _).mono ?_
  rintro e w' ⟨rfl, rfl⟩
  go_wp2
  go_ret
  exact ⟨rfl, hbk6, hb06⟩
end Go.Proofs.YtmlnejlhgbonpaaDoor.Top
