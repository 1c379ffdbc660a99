import Derived.Test.YtmlnejlhgbonpaaDoorGBookTexts
import Derived.Test.YtmlnejlhgbonpaaDoorGPairMap
import Derived.Laws.StructEq
import Derived.Deep.RegionHeld3
import Derived.WalkSpells
/- The owner's book, of lists of steps. -/
namespace Go.Proofs.YtmlnejlhgbonpaaDoor.BookS
open Go.RowKit Mem FieldWalks Tab ByTab Parts Plans

set_option maxRecDepth 100000 in
set_option maxHeartbeats 1000000 in
theorem sameS_yes (ss : List Stp) (a b : Value) (w : World) (ha : StepsAt w a ss) (hb : StepsAt w b ss) (hn : ss.length ≤ 1000000) :
    Calls Tryd.prog 39 #[a, b] w fun e w' => e = .returned (.bool true) ∧ ∃ n, w' = w.drewN n := by
  obtain ⟨aao, acap, rfl, hac⟩ := ha
  obtain ⟨bao, bcap, rfl, hbc⟩ := hb
  have hne : ((ss.length : Int) != (ss.length : Int)) = false := by simp
  have HAC : Hid (ss = [] ∨ ∃ g cur, aao = some ⟨g, 0, none⟩ ∧ w.heap[g]? = some (.cells cur 73 (0, 0)) ∧ ∀ k, (h : k < ss.length) → ∀ r, r < 3 → cur[k * 3 + r]? = (ss[k].cells)[r]?) := hac
  have HBC : Hid (ss = [] ∨ ∃ g cur, bao = some ⟨g, 0, none⟩ ∧ w.heap[g]? = some (.cells cur 73 (0, 0)) ∧ ∀ k, (h : k < ss.length) → ∀ r, r < 3 → cur[k * 3 + r]? = (ss[k].cells)[r]?) := hbc
  clear hac hbc
  go_enter Tryd.func39, Tryd.ntmps39
  go_wp2
  go_loopw [5] (fun i wr => ∃ k n : Nat, k ≤ ss.length ∧ i = .int .i64 k ∧ wr = w.drewN n) (fun i _ => ss.length - (intOf i).toNat)
  case atStart => exact ⟨0, 0, Nat.zero_le _, rfl, rfl⟩
  case round =>
    obtain ⟨k, n, hk, rfl, rfl⟩ := hrel
    by_cases hlt : k < ss.length
    · obtain ⟨g, cur, rfl, hg, hc⟩ : ∃ g cur, aao = some ⟨g, 0, none⟩ ∧ w.heap[g]? = some (.cells cur 73 (0, 0)) ∧ ∀ k, (h : k < ss.length) → ∀ r, r < 3 → cur[k * 3 + r]? = (ss[k].cells)[r]? := by
        rcases HAC.out with h | h
        · rw [h] at hlt; simp at hlt
        · exact h
      obtain ⟨g2, cur2, rfl, hg2, hc2⟩ : ∃ g cur, bao = some ⟨g, 0, none⟩ ∧ w.heap[g]? = some (.cells cur 73 (0, 0)) ∧ ∀ k, (h : k < ss.length) → ∀ r, r < 3 → cur[k * 3 + r]? = (ss[k].cells)[r]? := by
        rcases HBC.out with h | h
        · rw [h] at hlt; simp at hlt
        · exact h
      have d0 := (cell_of_row w g (k * 3 + 0) cur _ _ hg).trans (hc k hlt 0 (by decide))
      have d1 := (cell_of_row w g (k * 3 + 1) cur _ _ hg).trans (hc k hlt 1 (by decide))
      have d2 := (cell_of_row w g (k * 3 + 2) cur _ _ hg).trans (hc k hlt 2 (by decide))
      have e0 := (cell_of_row w g2 (k * 3 + 0) cur2 _ _ hg2).trans (hc2 k hlt 0 (by decide))
      have e1 := (cell_of_row w g2 (k * 3 + 1) cur2 _ _ hg2).trans (hc2 k hlt 1 (by decide))
      have e2 := (cell_of_row w g2 (k * 3 + 2) cur2 _ _ hg2).trans (hc2 k hlt 2 (by decide))
      generalize ss[k] = s at d0 d1 d2 e0 e1 e2
      obtain ⟨tt, src, fresh⟩ := s
      simp only [Stp.cells, List.getElem?_cons_zero, List.getElem?_cons_succ, Nat.add_zero] at d0 d1 d2 e0 e1 e2
      clear hc hc2 hg hg2
      have hki : (k : Int) < (ss.length : Int) := by omega
      go_wp2
      go_quiet (fail)
      go_wp2
      exact ⟨⟨k + 1, n + nq, by omega, by go_num, rfl⟩, by simp [intOf]; omega⟩
    · obtain rfl : k = ss.length := by omega
      go_wp2
      go_ret
      exact ⟨rfl, n, rfl⟩

/-- The mark of a list of steps. -/
def qC (n : Nat) : List Value := [.int .i64 (-(n : Int)), .int .i64 0, .bool false]
/-- The slice v is full of marks: so many; its row lies below block number N. -/
def SIn (w : World) (N : Nat) (v : Value) (size n : Nat) : Prop :=
  ∃ ao cap, v = .slice ao size cap ∧ (size = 0 ∨ ∃ g cur, ao = some ⟨g, 0, none⟩ ∧ g < N ∧ w.heap[g]? = some (.cells cur 73 (0, 0)) ∧ ∀ k, k < size → ∀ r, r < 3 → cur[k * 3 + r]? = (qC n)[r]?)
theorem SIn.mono {w : World} {N M : Nat} {v : Value} {size n : Nat} (h : SIn w N v size n) (hM : N ≤ M) : SIn w M v size n := by
  obtain ⟨ao, cap, rfl, h⟩ := h
  refine ⟨ao, cap, rfl, ?_⟩
  rcases h with h | ⟨g, cur, rfl, hN, r⟩
  · exact .inl h
  · exact .inr ⟨g, cur, rfl, Nat.lt_of_lt_of_le hN hM, r⟩
theorem SIn.keep {w w' : World} {N : Nat} {v : Value} {size n : Nat} (h : SIn w N v size n) (hk : ∀ (g : Nat) (cur : Array Value), g < N → w.heap[g]? = some (.cells cur 73 (0, 0)) → w'.heap[g]? = w.heap[g]?) : SIn w' N v size n := by
  obtain ⟨ao, cap, rfl, h⟩ := h
  refine ⟨ao, cap, rfl, ?_⟩
  rcases h with h | ⟨g, cur, rfl, hN, hg, r⟩
  · exact .inl h
  · exact .inr ⟨g, cur, rfl, hN, (hk g cur hN hg).trans hg, r⟩
theorem SIn.later {w w' : World} {v : Value} {size n : Nat} (h : SIn w w.heap.size v size n) (hb : Below w.heap.size w w') : SIn w' w'.heap.size v size n :=
  (h.keep fun g _ _ hg => hb.block g (lt_of_block hg)).mono hb.size
structure Ent where
  n : Nat
  size : Nat
  s : Value
def Ent.cells (e : Ent) : List Value := [.int .i64 e.n, .int .i64 e.size, .slice none 0 0, .slice none 0 0, e.s]
def Ent.ok (w : World) (N : Nat) (e : Ent) : Prop := 1 ≤ e.n ∧ e.n ≤ 9 ∧ e.size ≤ 100010 ∧ SIn w N e.s e.size e.n
def BookAt (w : World) (B b c N : Nat) : Prop :=
  B ≤ b ∧ ∃ (kv : Value) (es : List Ent), es.length = 4 * c ∧ Blk w b 37 [.int .i64 c, kv] ∧ w.ownsRow B 82 5 kv (4 * c) (es.flatMap Ent.cells) ∧ ∀ e, e ∈ es → e.ok w N
theorem BookAt.start (w : World) (B : Nat) (hB : B ≤ w.heap.size) (N : Nat) : BookAt (w.alloc (.cells #[.int .i64 0, .slice none 0 0] 37)) B w.heap.size 0 N :=
  ⟨hB, .slice none 0 0, [], rfl, Blk.new w _ _, World.ownsRow_nil _ _ _ _, fun e he => by cases he⟩
theorem BookAt.to {w w' : World} {B b c N : Nat} (h : BookAt w B b c N) (hb : Below w.heap.size w w') : BookAt w' B b c N := by
  obtain ⟨hB, kv, es, hl, hblk, hown, hes⟩ := h
  refine ⟨hB, kv, es, hl, hblk.to hb, ownsRow_to hown hb, fun e he => ?_⟩
  obtain ⟨h1, h2, h3, h4⟩ := hes e he
  exact ⟨h1, h2, h3, h4.keep fun g cur _ hg => hb.block g (lt_of_block hg)⟩
theorem BookAt.mono {w : World} {B b c N M : Nat} (h : BookAt w B b c N) (hM : N ≤ M) : BookAt w B b c M := by
  obtain ⟨hB, kv, es, hl, hblk, hown, hes⟩ := h
  refine ⟨hB, kv, es, hl, hblk, hown, fun e he => ?_⟩
  obtain ⟨h1, h2, h3, h4⟩ := hes e he
  exact ⟨h1, h2, h3, h4.mono hM⟩

set_option maxRecDepth 100000 in
set_option maxHeartbeats 1000000 in
theorem full_any (n size N : Nat) (sv : Value) (w : World) (h : Ent.ok w N ⟨n, size, sv⟩) :
    Calls Tryd.prog 53 #[.agg #[.int .i64 n, .int .i64 size, .slice none 0 0, .slice none 0 0, sv]] w fun e w' => e = .returned (.bool true) ∧ Below w.heap.size w w' := by
  have h1 : 1 ≤ n := h.1
  have h2 : n ≤ 9 := h.2.1
  have h3 : size ≤ 100010 := h.2.2.1
  obtain ⟨ao, cap, htv, hcell⟩ : SIn w N sv size n := h.2.2.2
  subst htv
  have hne : ((size : Int) != (size : Int)) = false := by simp
  have HC : Hid (size = 0 ∨ ∃ g cur, ao = some ⟨g, 0, none⟩ ∧ g < N ∧ w.heap[g]? = some (.cells cur 73 (0, 0)) ∧ ∀ k, k < size → ∀ r, r < 3 → cur[k * 3 + r]? = (qC n)[r]?) := hcell
  clear h hcell
  go_enter Tryd.func53, Tryd.ntmps53
  go_wp2_with fail
  refine (Book.mark_any n h1 h2 _).mono ?_
  rintro e w1 ⟨rfl, hw1⟩
  obtain ⟨q, hq⟩ : ∃ q, q = Book.markS n := ⟨_, rfl⟩
  rw [← hq]
  clear hq
  have hK0 := (Blk.new w #[.int .i64 n, .int .i64 size, .slice none 0 0, .slice none 0 0, .slice ao size cap] 82).to hw1
  have hbel : Below w.heap.size w w1 := (((Below.refl _ _).alloc (Nat.le_refl _) _)).trans (hw1.mono (by simp))
  have k0 := hK0.cell_some (k := 0) rfl
  have k2 := hK0.cell_some (k := 2) rfl
  have k3 := hK0.cell_some (k := 3) rfl
  have k4 := hK0.cell_some (k := 4) rfl
  clear hK0 hw1
  go_wp2
  refine wp_loop_rounds 1 ?_
  rw [rounds_succ]
  go_wp2
  refine wp_loop_rounds 1 ?_
  rw [rounds_succ]
  go_wp2
  go_loopw [4, 7] (fun o i wr => ∃ k m : Nat, k ≤ size ∧ i = .int .i64 k ∧ o = .bool true ∧ wr = w1.drewN m) (fun _ i _ => size - (intOf i).toNat)
  case atStart => exact ⟨0, 0, Nat.zero_le _, rfl, rfl, rfl⟩
  case round =>
    obtain ⟨k, m, hk, rfl, rfl, rfl⟩ := hrel
    by_cases hlt : k < size
    · obtain ⟨g, cur, rfl, hN, hg, hc⟩ : ∃ g cur, ao = some ⟨g, 0, none⟩ ∧ g < N ∧ w.heap[g]? = some (.cells cur 73 (0, 0)) ∧ ∀ k, k < size → ∀ r, r < 3 → cur[k * 3 + r]? = (qC n)[r]? := by
        rcases HC.out with h | h
        · omega
        · exact h
      have hg1 := (hbel.block g (lt_of_block hg)).trans hg
      have d0 := (cell_of_row w1 g (k * 3 + 0) cur _ _ hg1).trans (hc k hlt 0 (by decide))
      have d1 := (cell_of_row w1 g (k * 3 + 1) cur _ _ hg1).trans (hc k hlt 1 (by decide))
      have d2 := (cell_of_row w1 g (k * 3 + 2) cur _ _ hg1).trans (hc k hlt 2 (by decide))
      simp only [qC, List.getElem?_cons_zero, List.getElem?_cons_succ, Nat.add_zero] at d0 d1 d2
      have hki : (k : Int) < (size : Int) := by omega
      have hwn : IntKind.i64.wrap (-(n : Int)) = -(n : Int) := by rw [IntKind.wrap_i64]; omega
      clear hc hg hg1
      go_wp2
      go_quiet (fail)
      go_wp2
      exact ⟨⟨k + 1, m + nq, by omega, by go_num, rfl, rfl⟩, by simp [intOf]; omega⟩
    · obtain rfl : k = size := by omega
      go_wp2
      go_ret
      exact ⟨rfl, hbel.trans ⟨rfl, rfl, rfl, Nat.le_refl _, fun _ _ => rfl⟩⟩
theorem flat_get (es : List Ent) : ∀ (k r : Nat) (h : k < es.length), r < 5 → (es.flatMap Ent.cells)[k * 5 + r]? = (es[k].cells)[r]? := by
  induction es with
  | nil => intro k r h; simp at h
  | cons e es ih =>
    intro k r h hr
    have hl : e.cells.length = 5 := rfl
    rw [List.flatMap_cons]
    cases k with
    | zero => rw [Nat.zero_mul, Nat.zero_add, List.getElem?_append_left (by omega)]; rfl
    | succ k =>
      rw [List.getElem?_append_right (by omega), show (k + 1) * 5 + r - e.cells.length = k * 5 + r by omega]
      exact ih k r (by simpa using h) hr
/-- The five cells of an entry. -/
theorem ent_cells {w : World} {B c : Nat} {ka : Option Addr} {kc : Nat} {es : List Ent} (hown : w.ownsRow B 82 5 (.slice ka (4 * c) kc) (4 * c) (es.flatMap Ent.cells)) (hel : es.length = 4 * c) (k : Nat) (hk : k < 4 * c) :
    ∃ g, ka = some ⟨g, 0, none⟩ ∧ g < w.heap.size ∧ ∀ r, r < 5 → w.cell? ⟨g, k * 5 + r, none⟩ = ((es[k]'(by omega)).cells)[r]? := by
  rcases hown.2 with ⟨_, h0⟩ | ⟨g, cap, cur, hv, hg, hh, _, _, _, ht⟩
  · omega
  · injection hv with h1 h2 h3
    refine ⟨g, h1, lt_of_block hh, fun r hr => ?_⟩
    rw [cell_of_row w g _ cur _ _ hh, ← flat_get es k r (by omega) hr, ← ht, List.getElem?_take_of_lt (by omega)]
    simp

set_option maxRecDepth 100000 in
set_option maxHeartbeats 1000000 in
theorem looks_any (B b c N : Nat) (w : World) (h : BookAt w B b c N) (hc : c ≤ 9) :
    Calls Tryd.prog 25 #[.pointer (some ⟨b, 0, none⟩)] w fun e w' => e = .returned (.bool true) ∧ Below w.heap.size w w' := by
  obtain ⟨hB, kv, es, hel, hblk, hown, hes⟩ := h
  obtain ⟨ka, kc, rfl⟩ : ∃ ao c', kv = .slice ao (4 * c) c' := by
    rcases hown.2 with ⟨rfl, h0⟩ | ⟨g, cap, cur, rfl, _⟩
    · rw [h0]; exact ⟨_, _, rfl⟩
    · exact ⟨_, _, rfl⟩
  have HBLK : Hid (Blk w b 37 [.int .i64 c, .slice ka (4 * c) kc]) := hblk
  have HOWN : Hid (w.ownsRow B 82 5 (.slice ka (4 * c) kc) (4 * c) (es.flatMap Ent.cells)) := hown
  have HES : Hid (∀ e, e ∈ es → e.ok w N) := hes
  clear hblk hown hes
  go_enter Tryd.func25, Tryd.ntmps25
  go_wp2
  go_loopw [3] (fun i wr => ∃ k : Nat, k ≤ 4 * c ∧ i = .int .i64 k ∧ Below w.heap.size w wr) (fun i _ => 4 * c - (intOf i).toNat)
  case atStart => exact ⟨0, Nat.zero_le _, rfl, Below.refl _ _⟩
  case round =>
    obtain ⟨k, hk, rfl, hbel⟩ := hrel
    have hb1 := HBLK.out.to hbel
    have c1 := hb1.cell_some (k := 1) rfl
    clear hb1
    have e4 : ((4 * c : Nat) : Int) = 4 * (c : Int) := by omega
    by_cases hlt : k < 4 * c
    · obtain ⟨g, rfl, hglt, hce⟩ := ent_cells HOWN.out hel k hlt
      have hok := HES.out (es[k]'(by omega)) (List.getElem_mem _)
      generalize es[k]'(by omega) = en at hce hok
      obtain ⟨n, size, tv⟩ := en
      have d0 := (hbel.cell (p := ⟨g, k * 5 + 0, none⟩) hglt).trans (hce 0 (by decide))
      have d1 := (hbel.cell (p := ⟨g, k * 5 + 1, none⟩) hglt).trans (hce 1 (by decide))
      have d2 := (hbel.cell (p := ⟨g, k * 5 + 2, none⟩) hglt).trans (hce 2 (by decide))
      have d3 := (hbel.cell (p := ⟨g, k * 5 + 3, none⟩) hglt).trans (hce 3 (by decide))
      have d4 := (hbel.cell (p := ⟨g, k * 5 + 4, none⟩) hglt).trans (hce 4 (by decide))
      simp only [Ent.cells, List.getElem?_cons_zero, List.getElem?_cons_succ, Nat.add_zero] at d0 d1 d2 d3 d4
      have hok1 : Ent.ok wr wr.heap.size ⟨n, size, tv⟩ := by
        obtain ⟨x1, x2, x3, x4⟩ := hok
        refine ⟨x1, x2, x3, ?_⟩
        obtain ⟨ao, cap, h, hx⟩ := x4
        refine ⟨ao, cap, h, ?_⟩
        rcases hx with hx | ⟨g', cur, h1', _, hg', r⟩
        · exact .inl hx
        · exact .inr ⟨g', cur, h1', Nat.lt_of_lt_of_le (lt_of_block hg') hbel.size, (hbel.block g' (lt_of_block hg')).trans hg', r⟩
      have HOK : Hid (Ent.ok wr wr.heap.size ⟨n, size, tv⟩) := hok1
      clear hok hok1 hce
      go_wp2_with fail
      refine (full_any n size _ tv _ HOK.out).mono ?_
      rintro e w2 ⟨rfl, hw2⟩
      go_wp2
      go_roundw
      case rel => exact ⟨k + 1, by omega, by go_num, hbel.trans (hw2.mono hbel.size)⟩
      case measure => simp [intOf]; omega
    · have hge : 4 * (c : Int) ≤ (k : Int) := by omega
      go_wp2
      go_ret
      exact ⟨rfl, hbel⟩
end Go.Proofs.YtmlnejlhgbonpaaDoor.BookS

namespace Go.Proofs.YtmlnejlhgbonpaaDoor.BookS
open Go.RowKit Mem FieldWalks Tab ByTab Parts Plans

def marksL (m c : Nat) : List Value := (List.replicate m (qC c)).flatten
theorem marksL_length (m c : Nat) : (marksL m c).length = m * 3 := by simp [marksL, qC]
theorem marksL_succ (m c : Nat) : marksL (m + 1) c = qC c ++ marksL m c := by simp [marksL, List.replicate_succ]
theorem marksL_get (c : Nat) : ∀ (m k r : Nat), k < m → r < 3 → (marksL m c)[k * 3 + r]? = (qC c)[r]?
  | 0, k, r, h, _ => by omega
  | m + 1, 0, r, _, hr => by
    rw [marksL_succ, Nat.zero_mul, Nat.zero_add, List.getElem?_append_left (by simp [qC]; omega)]
  | m + 1, k + 1, r, h, hr => by
    rw [marksL_succ, List.getElem?_append_right (by simp [qC]; omega), show (k + 1) * 3 + r - (qC c).length = k * 3 + r by simp [qC]; omega]
    exact marksL_get c m k r (by omega) hr
theorem marksL_add (a b c : Nat) : marksL a c ++ marksL b c = marksL (a + b) c := by
  unfold marksL; rw [← List.flatten_append, List.replicate_append_replicate]
/-- The first M elements are marks. -/
def Mk (us : List Value) (M c : Nat) : Prop := ∀ k, k < M → ∀ r, r < 3 → us[k * 3 + r]? = (qC c)[r]?
theorem Mk.take {us : List Value} {M c n : Nat} (h : Mk us M c) (hn : n ≤ M) (hl : n * 3 ≤ us.length) : us.take (n * 3) = marksL n c := by
  apply List.ext_getElem?
  intro i
  by_cases hi : i < n * 3
  · rw [List.getElem?_take_of_lt hi]
    have e : i = i / 3 * 3 + i % 3 := by omega
    rw [e, h (i / 3) (by omega) (i % 3) (by omega), marksL_get c n (i / 3) (i % 3) (by omega) (by omega)]
  · rw [List.getElem?_eq_none (by simp; omega), List.getElem?_eq_none (by rw [marksL_length]; omega)]
theorem Mk.le {us : List Value} {M c n : Nat} (h : Mk us M c) (hn : n ≤ M) : Mk us n c := fun k hk r hr => h k (by omega) r hr
/-- The list that is being marked. -/
def LSt (w : World) (v : Value) (n cap c : Nat) : Prop :=
  (n = 0 ∧ cap = 0 ∧ v = .slice none 0 0) ∨ ∃ g us M, v = .slice (some ⟨g, 0, none⟩) n cap ∧ Blk w g 73 us ∧ us.length = cap * 3 ∧ n ≤ M ∧ n ≤ cap ∧ cap ≤ maxLen ∧ Mk us M c
theorem LSt.to {w w' : World} {v : Value} {n cap c : Nat} (h : LSt w v n cap c) (hb : Below w.heap.size w w') : LSt w' v n cap c := by
  rcases h with h | ⟨g, us, M, h1, h2, r⟩
  · exact .inl h
  · exact .inr ⟨g, us, M, h1, h2.to hb, r⟩
theorem LSt.sIn {w : World} {v : Value} {n cap c : Nat} (h : LSt w v n cap c) : SIn w w.heap.size v n c := by
  rcases h with ⟨rfl, rfl, rfl⟩ | ⟨g, us, M, rfl, h2, h3, h4, _, _, h5⟩
  · exact ⟨_, _, rfl, .inl rfl⟩
  · exact ⟨_, _, rfl, .inr ⟨g, us.toArray, rfl, h2.lt, h2, fun k hk r hr => by simpa using h5 k (by omega) r hr⟩⟩
theorem mk_room {us : List Value} {M c n m : Nat} (h : Mk us M c) (hn : n ≤ M) (hl : (n + m) * 3 ≤ us.length) : ∀ K, Mk us K c → Mk (us.take (n * 3) ++ marksL m c ++ us.drop (n * 3 + (marksL m c).length)) (max K (n + m)) c := by
  intro K hK k hk r hr
  rw [h.take hn (by omega), marksL_add]
  by_cases h1 : k < n + m
  · rw [List.getElem?_append_left (by rw [marksL_length]; omega)]; exact marksL_get c _ k r h1 hr
  · rw [List.getElem?_append_right (by rw [marksL_length]; omega), List.getElem?_drop, marksL_length, marksL_length, show n * 3 + m * 3 + (k * 3 + r - (n + m) * 3) = k * 3 + r by omega]
    exact hK k (by omega) r hr
theorem sIn_new (w : World) (A : Array Value) (rest : List Value) {k c : Nat} (hA : A.toList = marksL k c ++ rest) (cap : Nat) : SIn (w.drew.alloc (.cells A 73)) (w.drew.alloc (.cells A 73)).heap.size (.slice (some ⟨w.heap.size, 0, none⟩) k cap) k c :=
  ⟨_, _, rfl, .inr ⟨w.heap.size, A, rfl, by simp, heap_alloc_new w.drew _, fun j hj r hr => by
    have e : A[j * 3 + r]? = A.toList[j * 3 + r]? := by simp
    rw [e, hA, List.getElem?_append_left (by rw [marksL_length]; omega)]; exact marksL_get c k j r hj hr⟩⟩
theorem addr_add' (B j : Nat) : (⟨B, 0, none⟩ : Addr).add j = ⟨B, j, none⟩ := by cases j <;> simp [Addr.add]
set_option maxRecDepth 100000 in
/-- append of marks onto the list: what it reads as, and what stays. -/
theorem run_marks (w : World) (v : Value) (n cap c m : Nat) (h : LSt w v n cap c) (ad : Addr) (cc : Nat) (hm : 0 < m) (hm2 : m ≤ 10) (hn : n ≤ 1000000) (hnews : ∀ (j : Nat) (u : Value), (marksL m c)[j]? = some u → w.cell? (ad.add j) = some u) (ty : TypeId) :
    ∃ v' w', (Builtin.append_ #[64, 64] ty #[v, .slice (some ad) m cc]).run Tryd.prog w = .ok v' w' ∧ SIn w' w'.heap.size v' (n + m) c ∧ (∃ ao' c', v' = .slice ao' (n + m) c') ∧ LSt w' v n cap c ∧ (∀ N v2 n2, SIn w N v2 n2 c → SIn w' N v2 n2 c) ∧ w.grownBy w' v.ownBlock := by
  obtain ⟨i0, hi, hz0, hz1, hz2⟩ := info_parts infoStep
  have hone : ∀ u ∈ marksL m c, u.oneCell' = true := by
    intro u hu
    simp only [marksL, List.mem_flatten, List.mem_replicate] at hu
    obtain ⟨l, ⟨_, rfl⟩, hu⟩ := hu
    simp only [qC, List.mem_cons, List.not_mem_nil, or_false] at hu
    rcases hu with rfl | rfl | rfl <;> rfl
  have hnl : (marksL m c).length = m * i0.size := by rw [marksL_length, hz1]
  have h63 : ((n + m : Nat) : Int) ≤ 9223372036854775807 := by omega
  rcases h with ⟨rfl, rfl, rfl⟩ | ⟨g, us, M, rfl, hg, hul, hM, hnc, hcm, hmk⟩
  · have hr := run_append_nil (P := Tryd.prog) w 64 ty 73 i0 _ Tryd.underlying64 hi hz0 ad m cc (marksL m c) hnl hnews hm (by omega) (by rw [hz2]; omega)
    have hb : Below w.heap.size w (w.drew.alloc (.cells ((marksL m c).toArray ++ Builtin.zeroCells (Value.agg #[.int .i64 0, .int .i64 0, .bool false]).cells (grownCap w m 0 73 - m)) 73)) := (Below.refl _ _).drew.alloc (Nat.le_refl _) _
    refine ⟨_, _, hr, ?_, ⟨_, _, by rw [Nat.zero_add]⟩, .inl ⟨rfl, rfl, rfl⟩, fun N v2 n2 h2 => h2.keep fun g cur _ hg => hb.block g (lt_of_block hg), ⟨hb.os, hb.tape, hb.output, hb.size, fun k hk _ => hb.block k hk⟩⟩
    rw [Nat.zero_add]
    exact sIn_new w _ _ (by rw [Array.toList_append, List.toList_toArray]) _
  · by_cases hroom : n + m ≤ cap
    · have hg' : w.heap[g]? = some (.cells us.toArray 73 (0, 0)) := hg
      have hr := run_append_room (P := Tryd.prog) w 64 ty 73 i0 Tryd.underlying64 hi g n cap us.toArray hg' ad m cc (marksL m c) hnl hnews hone hroom (by rw [marksL_length, hz1]; simp; omega)
      rw [hz1, List.toList_toArray] at hr
      have hb2 := hg.row (us.take (n * 3) ++ marksL m c ++ us.drop (n * 3 + (marksL m c).length)).toArray
      rw [List.toList_toArray] at hb2
      have hmm := mk_room hmk hM (m := m) (by omega)
      have hlen : (us.take (n * 3) ++ marksL m c ++ us.drop (n * 3 + (marksL m c).length)).length = cap * 3 := by
        simp only [List.length_append, List.length_take, List.length_drop, marksL_length]; omega
      have hgr : w.grownBy (w.setRow g (us.take (n * 3) ++ marksL m c ++ us.drop (n * 3 + (marksL m c).length)).toArray) (some g) := ⟨rfl, rfl, rfl, by simp [World.setRow], fun k _ hk => setRow_other w g k _ (fun e => hk (by rw [e]))⟩
      have hst : LSt (w.setRow g (us.take (n * 3) ++ marksL m c ++ us.drop (n * 3 + (marksL m c).length)).toArray) (.slice (some ⟨g, 0, none⟩) n cap) n cap c := .inr ⟨g, _, _, rfl, hb2, hlen, by omega, hnc, hcm, hmm M hmk⟩
      refine ⟨_, _, hr, ?_, ⟨_, _, rfl⟩, hst, fun N v2 n2 h2 => ?_, hgr⟩
      · exact ⟨_, _, rfl, .inr ⟨g, _, rfl, hb2.lt, hb2, fun k hk r hr2 => by simpa using hmm M hmk k (by omega) r hr2⟩⟩
      · obtain ⟨ao, cap2, rfl, hx⟩ := h2
        refine ⟨ao, cap2, rfl, ?_⟩
        rcases hx with hx | ⟨g2, cur2, rfl, hN, hg2, hc2⟩
        · exact .inl hx
        · by_cases e : g2 = g
          · subst e
            rw [hg'] at hg2
            have e2 : cur2 = us.toArray := by injection hg2 with hg2; injection hg2 with hg2; exact hg2.symm
            refine .inr ⟨g2, _, rfl, hN, hb2, fun k hk r hr2 => ?_⟩
            have := hmm n2 (fun k hk r hr => by have := hc2 k hk r hr; rw [e2] at this; simpa using this) k (by omega) r hr2
            simpa using this
          · exact .inr ⟨g2, cur2, rfl, hN, by rw [setRow_other w g g2 _ e]; exact hg2, hc2⟩
    · have hxs : us.take (n * 3) = marksL n c := hmk.take hM (by omega)
      have holds : ∀ (j : Nat) (u : Value), (marksL n c)[j]? = some u → w.cell? ((⟨g, 0, none⟩ : Addr).add j) = some u := fun j u hu => by
        rw [addr_add', hg.cell]
        have hj : j < n * 3 := by have := (List.getElem?_eq_some_iff.1 hu).1; rwa [marksL_length] at this
        rw [← hxs, List.getElem?_take_of_lt hj] at hu; exact hu
      have hr := run_append_grow (P := Tryd.prog) w 64 ty 73 i0 _ Tryd.underlying64 hi hz0 ⟨g, 0, none⟩ n cap (marksL n c) (by rw [marksL_length, hz1]) holds ad m cc (marksL m c) hnl hnews (by omega) h63 (growslice_fits (by omega) (by rw [hz2]; omega))
      have hb : Below w.heap.size w (w.drew.alloc (.cells ((marksL n c).toArray ++ (marksL m c).toArray ++ Builtin.zeroCells (Value.agg #[.int .i64 0, .int .i64 0, .bool false]).cells (grownCap w (n + m) cap 73 - (n + m))) 73)) := (Below.refl _ _).drew.alloc (Nat.le_refl _) _
      have hst : LSt w (.slice (some ⟨g, 0, none⟩) n cap) n cap c := .inr ⟨g, us, M, rfl, hg, hul, hM, hnc, hcm, hmk⟩
      exact ⟨_, _, hr, sIn_new w _ _ (by rw [Array.toList_append, Array.toList_append, List.toList_toArray, List.toList_toArray, marksL_add]) _, ⟨_, _, rfl⟩, hst.to hb, fun N v2 n2 h2 => h2.keep fun g cur _ hg => hb.block g (lt_of_block hg), ⟨hb.os, hb.tape, hb.output, hb.size, fun k hk _ => hb.block k hk⟩⟩
end Go.Proofs.YtmlnejlhgbonpaaDoor.BookS

namespace Go.Proofs.YtmlnejlhgbonpaaDoor.BookS
open Go.RowKit Mem FieldWalks Tab ByTab Parts Plans
open Book (old_cell many_cells below_alloc owns_slice' step_append_many infoKept)

/-- The book with its number raised and its lists as they were. -/
structure St (w0 w : World) (B b c lb : Nat) (kv : Value) (es : List Ent) (v : Value) : Prop where
  rest : ∀ g us, Blk w0 g 73 us → v.ownBlock ≠ some g → w.heap[g]? = w0.heap[g]?
  low : B ≤ b
  high : B ≤ lb
  blk : Blk w b 37 [.int .i64 (c + 1 : Nat), kv]
  own : w.ownsRow B 82 5 kv (4 * c) (es.flatMap Ent.cells)
  ok : ∀ e, e ∈ es → e.ok w lb
  below : Below B w0 w
theorem St.to {w0 w w' : World} {B b c lb : Nat} {kv v : Value} {es : List Ent} (h : St w0 w B b c lb kv es v) (hb : Below w.heap.size w w') : St w0 w' B b c lb kv es v :=
  ⟨fun g us hg hne => by
    have h1 := h.rest g us hg hne
    have h2 : Blk w g 73 us := by unfold Blk; rw [h1]; exact hg
    rw [hb.block g h2.lt]; exact h1, h.low, h.high, h.blk.to hb, ownsRow_to h.own hb, fun e he => by
    obtain ⟨h1, h2, h3, h4⟩ := h.ok e he
    exact ⟨h1, h2, h3, h4.keep fun g cur _ hg => hb.block g (lt_of_block hg)⟩, h.below.trans (hb.mono (by have := h.blk.lt; have := h.low; omega))⟩
theorem St.start {w : World} {B b c lb : Nat} {kv v : Value} {es : List Ent} (hB : B ≤ b) (hlb : B ≤ lb) (hblk : Blk w b 37 [.int .i64 c, kv]) (hown : w.ownsRow B 82 5 kv (4 * c) (es.flatMap Ent.cells)) (hes : ∀ e, e ∈ es → e.ok w lb) :
    St w (w.setCell ⟨b, 0, none⟩ (.int .i64 ((c : Int) + 1))) B b c lb kv es v := by
  refine ⟨fun g us hg _ => Below.heap_setCell _ _ _ _ (by exact hg.type_ne hblk (by decide)), hB, hlb, ?_, Book.ownsRow_kept hown fun g cur hg => ?_, fun e he => ?_, (Below.refl _ _).setCell hB _⟩
  · have := hblk.set 0 (.int .i64 ((c : Int) + 1))
    simpa using this
  · exact Below.heap_setCell _ _ _ _ (Blk.type_ne (w := w) (vs := cur.toList) (by unfold Blk; rw [hg]) hblk (by decide))
  · obtain ⟨h1, h2, h3, h4⟩ := hes e he
    exact ⟨h1, h2, h3, h4.keep fun g cur _ hg => Below.heap_setCell _ _ _ _ (Blk.type_ne (w := w) (b := g) (t := 73) (vs := cur.toList) (by unfold Blk; rw [hg]) hblk (by decide))⟩

/-- Behind the append and the store the book holds four more. -/
theorem St.book {w0 w w1 w2 : World} {B b c lb : Nat} {kv kv' v : Value} {es news : List Ent} (h : St w0 w B b c lb kv es v) (hb : Below w.heap.size w w1) (hel : es.length = 4 * c) (hnl : news.length = 4)
    (ho : w2.ownsRow B 82 5 kv' (4 * c + 4) (es.flatMap Ent.cells ++ news.flatMap Ent.cells)) (hg : w1.grownBy w2 kv.ownBlock)
    (hnew : ∀ e, e ∈ news → e.ok w1 w1.heap.size) : BookAt (w2.setCell ⟨b, 1, none⟩ kv') B b (c + 1) (w2.setCell ⟨b, 1, none⟩ kv').heap.size ∧ Below B w0 (w2.setCell ⟨b, 1, none⟩ kv') ∧ ∀ g us, Blk w0 g 73 us → v.ownBlock ≠ some g → (w2.setCell ⟨b, 1, none⟩ kv').heap[g]? = w0.heap[g]? := by
  have h1 := h.to hb
  have hsz1 := h1.blk.lt
  have hlow := h1.low
  -- a row of another type is kept by the append
  have keep : ∀ (g : Nat) (t : TypeId) (cur : Array Value), t ≠ 82 → w1.heap[g]? = some (.cells cur t (0, 0)) → w2.heap[g]? = w1.heap[g]? := by
    intro g t cur ht hg1
    refine hg.block g (lt_of_block hg1) (fun e => ?_)
    rcases h1.own.2 with ⟨rfl, _⟩ | ⟨g', cap, cur', rfl, _, hh, _⟩
    · simp [Value.ownBlock] at e
    · simp [Value.ownBlock] at e
      subst e
      rw [hg1] at hh
      simp at hh
      exact ht hh.2
  have hblk2 : Blk w2 b 37 [.int .i64 (c + 1 : Nat), kv] := by
    unfold Blk; rw [keep b 37 _ (by decide) h1.blk]; exact h1.blk
  have hB2 : Below B w0 w2 := h1.below.grown hg (by omega) (fun k hk => (h1.own.lt k hk).1)
  have hset := hblk2.set 1 kv'
  refine ⟨⟨h.low, kv', es ++ news, by simp [hel, hnl]; omega, by simpa using hset, ?_, fun e he => ?_⟩, hB2.setCell h.low _, fun g us hg hne => ?_⟩
  · have e1 : 4 * (c + 1) = 4 * c + 4 := by omega
    rw [e1, List.flatMap_append]
    exact Book.ownsRow_kept ho fun g cur hgg => Below.heap_setCell _ _ _ _ (Blk.type_ne (w := w2) (b := g) (t := 82) (vs := cur.toList) (by unfold Blk; rw [hgg]) hblk2 (by decide))
  · have hok : e.ok w1 w1.heap.size := by
      rcases List.mem_append.1 he with he | he
      · obtain ⟨x1, x2, x3, x4⟩ := h1.ok e he
        obtain ⟨ao, cap, ht, hx⟩ := x4
        refine ⟨x1, x2, x3, ao, cap, ht, ?_⟩
        rcases hx with hx | ⟨g, cur, h1', _, hg', r⟩
        · exact .inl hx
        · exact .inr ⟨g, cur, h1', lt_of_block hg', hg', r⟩
      · exact hnew e he
    obtain ⟨x1, x2, x3, x4⟩ := hok
    refine ⟨x1, x2, x3, (x4.keep (w' := w2.setCell ⟨b, 1, none⟩ kv') fun g cur _ hgg => ?_).mono (by rw [size_setCell]; exact hg.size)⟩
    rw [Below.heap_setCell _ _ _ _ (Blk.type_ne (w := w1) (b := g) (t := 73) (vs := cur.toList) (by unfold Blk; rw [hgg]) h1.blk (by decide))]
    exact keep g 73 cur (by decide) hgg
  · have h2 := h1.rest g us hg hne
    have h3 : Blk w1 g 73 us := by unfold Blk; rw [h2]; exact hg
    rw [Below.heap_setCell _ _ _ _ (by exact h3.type_ne h1.blk (by decide)), keep g 73 us.toArray (by decide) h3]
    exact h2
theorem St.after {w0 w w1 w2 : World} {B b c lb : Nat} {kv v : Value} {es : List Ent} (h : St w0 w B b c lb kv es v) (hb : Below w.heap.size w w1) (hg : w1.grownBy w2 kv.ownBlock) : Blk w2 b 37 [.int .i64 ((c : Int) + 1), kv] := by
  have h1 := h.to hb
  have e : w2.heap[b]? = w1.heap[b]? := by
    refine hg.block b h1.blk.lt (fun e => ?_)
    rcases h1.own.2 with ⟨rfl, _⟩ | ⟨g', cap, cur', rfl, _, hh, _⟩
    · simp [Value.ownBlock] at e
    · simp [Value.ownBlock] at e
      subst e
      have := h1.blk
      unfold Blk at this
      rw [this] at hh
      simp at hh
  unfold Blk; rw [e]; exact h1.blk
/-- The four that come into the book with a list of k. -/
def newsOf (c k : Nat) (l a1 a2 a3 : Value) : List Ent := [⟨c + 1, k, l⟩, ⟨c + 1, k + 1, a1⟩, ⟨c + 1, k + 2, a2⟩, ⟨c + 1, k + 3, a3⟩]
theorem newsOf_ok (c k : Nat) (hc : c ≤ 8) (hk : k ≤ 100000) (w : World) {l a1 a2 a3 : Value} (h0 : SIn w w.heap.size l k (c + 1)) (h1 : SIn w w.heap.size a1 (k + 1) (c + 1))
    (h2 : SIn w w.heap.size a2 (k + 2) (c + 1)) (h3 : SIn w w.heap.size a3 (k + 3) (c + 1)) : ∀ e, e ∈ newsOf c k l a1 a2 a3 → e.ok w w.heap.size := by
  intro e he
  simp only [newsOf, List.mem_cons, List.not_mem_nil, or_false] at he
  rcases he with rfl | rfl | rfl | rfl
  · exact ⟨by show 1 ≤ c + 1; omega, by show c + 1 ≤ 9; omega, by show k ≤ 100010; omega, h0⟩
  · exact ⟨by show 1 ≤ c + 1; omega, by show c + 1 ≤ 9; omega, by show k + 1 ≤ 100010; omega, h1⟩
  · exact ⟨by show 1 ≤ c + 1; omega, by show c + 1 ≤ 9; omega, by show k + 2 ≤ 100010; omega, h2⟩
  · exact ⟨by show 1 ≤ c + 1; omega, by show c + 1 ≤ 9; omega, by show k + 3 ≤ 100010; omega, h3⟩
theorem newsOf_cells (c k : Nat) (l a1 a2 a3 : Value) : (newsOf c k l a1 a2 a3).flatMap Ent.cells =
    [.int .i64 ((c : Int) + 1), .int .i64 (k : Int), .slice none 0 0, .slice none 0 0, l, .int .i64 ((c : Int) + 1), .int .i64 ((k : Int) + 1), .slice none 0 0, .slice none 0 0, a1,
     .int .i64 ((c : Int) + 1), .int .i64 ((k : Int) + 2), .slice none 0 0, .slice none 0 0, a2, .int .i64 ((c : Int) + 1), .int .i64 ((k : Int) + 3), .slice none 0 0, .slice none 0 0, a3] := rfl
/-- One row of steps above lb is written. -/
theorem St.grown {w0 w w' : World} {B b c lb : Nat} {kv v : Value} {es : List Ent} (h : St w0 w B b c lb kv es v) (hg : w.grownBy w' v.ownBlock) (hv : ∀ g, v.ownBlock = some g → lb ≤ g ∧ ∃ us, Blk w g 73 us) : St w0 w' B b c lb kv es v := by
  have keep : ∀ (g : Nat) (t : TypeId) (us : List Value), t ≠ 73 → Blk w g t us → w'.heap[g]? = w.heap[g]? := fun g t us ht hb => hg.block g hb.lt (fun e => by
    obtain ⟨_, vs, hvs⟩ := hv g e.symm
    exact hb.type_ne hvs ht rfl)
  refine ⟨fun g us hg0 hne => by
    have h1 := h.rest g us hg0 hne
    have h2 : Blk w g 73 us := by unfold Blk; rw [h1]; exact hg0
    rw [hg.block g h2.lt (fun e => hne e.symm)]; exact h1, h.low, h.high, by unfold Blk; rw [keep _ _ _ (by decide) h.blk]; exact h.blk, Book.ownsRow_kept h.own fun g cur hgg => keep g 82 cur.toList (by decide) (by unfold Blk; rw [hgg]), fun e he => ?_, h.below.grown hg (by have := h.blk.lt; have := h.low; omega) (fun k hk => Nat.le_trans h.high (hv k hk).1)⟩
  obtain ⟨h1, h2, h3, h4⟩ := h.ok e he
  exact ⟨h1, h2, h3, h4.keep fun g cur hlt hgg => hg.block g (lt_of_block hgg) (fun e => by have := (hv g e.symm).1; omega)⟩
theorem LSt.block {w : World} {v : Value} {n cap c lb : Nat} (h : LSt w v n cap c) (hl : ∀ g, v.ownBlock = some g → lb ≤ g) : ∀ g, v.ownBlock = some g → lb ≤ g ∧ ∃ us, Blk w g 73 us := by
  intro g hg
  rcases h with ⟨_, _, rfl⟩ | ⟨g', us, M, rfl, hb, _⟩
  · cases hg
  · obtain rfl := Option.some.inj hg; exact ⟨hl _ rfl, us, hb⟩
theorem wpList_append_marksS (w : World) {ops : Array Oper} {rest : List Oper} {o : Oper} {a : Act} {Q : Exit → Act → World → Prop}
    (hgd : o.guard = none) (s x : Operand) (hop : o.op = Op.call { callee := Callee.builtin Builtin.append, args := #[s, x], argTypes := #[64, 64] })
    (v : Value) (n cap c m : Nat) (hs : a.eval s = v) (h : LSt w v n cap c) (ad : Addr) (cc : Nat) (hx : a.eval x = .slice (some ad) m cc) (hm : 0 < m) (hm2 : m ≤ 10) (hn : n ≤ 1000000) (hnews : ∀ (j : Nat) (u : Value), (marksL m c)[j]? = some u → w.cell? (ad.add j) = some u)
    (hK : ∀ ao' c' w', SIn w' w'.heap.size (.slice ao' (n + m) c') (n + m) c → LSt w' v n cap c → (∀ N v2 n2, SIn w N v2 n2 c → SIn w' N v2 n2 c) → w.grownBy w' v.ownBlock → wpList Tryd.prog ops Q rest (a.put o.dst (.slice ao' (n + m) c')) w') :
    wpList Tryd.prog ops Q (o :: rest) a w := by
  refine wpList_plain hgd fun K hK' => ?_
  obtain ⟨v', w', hrun, h1, ⟨ao', c', rfl⟩, h2, h3, h4⟩ := run_marks w v n cap c m h ad cc hm hm2 hn hnews o.type
  have := hK ao' c' w' h1 h2 h3 h4
  unfold Oper.wp
  simp [execOp, hop, resolve, invoke, builtin, hs, hx, hrun, Result.andThen]
  exact hK' _ _ this
theorem SIn.of3 {w w' : World} {v : Value} {k n N : Nat} (h : SIn w N v k n) (hN : N ≤ w'.heap.size) (hk : ∀ N v2 n2, SIn w N v2 n2 n → SIn w' N v2 n2 n) : SIn w' w'.heap.size v k n := (hk _ _ _ h).mono hN
theorem mk_set {us : List Value} {k c cap : Nat} (h : Mk us k c) (hl : us.length = cap * 3) (hk : k < cap) : Mk (((us.set (k * 3) (.int .i64 (-(c : Int)))).set (k * 3 + 1) (.int .i64 0)).set (k * 3 + 2) (.bool false)) (k + 1) c := by
  intro q hq r hr
  by_cases e : q = k
  · subst e
    rcases (show r = 0 ∨ r = 1 ∨ r = 2 by omega) with rfl | rfl | rfl
    · rw [List.getElem?_set_ne (by omega), List.getElem?_set_ne (by omega), Nat.add_zero, List.getElem?_set_self (by omega)]; rfl
    · rw [List.getElem?_set_ne (by omega), List.getElem?_set_self (by simp; omega)]; rfl
    · rw [List.getElem?_set_self (by simp; omega)]; rfl
  · rw [List.getElem?_set_ne (by omega), List.getElem?_set_ne (by omega), List.getElem?_set_ne (by omega)]
    exact h q (by omega) r hr
end Go.Proofs.YtmlnejlhgbonpaaDoor.BookS
