import Derived.Test.YtmlnejlhgbonpaaDoorBookMem
import Derived.BigQuiet
namespace Go.Proofs.YtmlnejlhgbonpaaDoor.Book
open Go.RowKit Mem FieldWalks Tab ByTab Parts

set_option maxRecDepth 100000 in
set_option maxHeartbeats 1000000 in
theorem full_any (n size N : Nat) (tv : Value) (w : World) (h : Ent.ok w N ⟨n, size, tv⟩) :
    Calls Tryd.prog 53 #[.agg #[.int .i64 n, .int .i64 size, tv, .slice none 0 0, .slice none 0 0]] w fun e w' => e = .returned (.bool true) ∧ Below w.heap.size w w' := by
  have h1 : 1 ≤ n := h.1
  have h2 : n ≤ 9 := h.2.1
  have h3 : size ≤ 100 := h.2.2.1
  have h5 : StrsAt w tv (List.replicate size (markS n)) := h.2.2.2.at
  obtain ⟨ao, cap, htv, hcell⟩ := h5
  rw [List.length_replicate] at htv
  subst htv
  have hne : ((size : Int) != (size : Int)) = false := by simp
  have HC : Hid (List.replicate size (markS n) = [] ∨ ∃ b off, ao = some ⟨b, off, none⟩ ∧ b < w.heap.size ∧ ∀ k, (h : k < (List.replicate size (markS n)).length) → w.cell? ⟨b, off + k, none⟩ = some (.string (List.replicate size (markS n))[k])) := hcell
  clear h hcell
  go_enter Tryd.func53, Tryd.ntmps53
  go_wp2_with fail
  refine (mark_any n h1 h2 _).mono ?_
  rintro e w1 ⟨rfl, hw1⟩
  obtain ⟨q, hq⟩ : ∃ q, q = markS n := ⟨_, rfl⟩
  rw [← hq]
  rw [← hq] at HC
  clear hq
  have hK0 := (Blk.new w #[.int .i64 n, .int .i64 size, .slice ao size cap, .slice none 0 0, .slice none 0 0] 82).to hw1
  have hbel : Below w.heap.size w w1 := (((Below.refl _ _).alloc (Nat.le_refl _) _)).trans (hw1.mono (by simp))
  have k2 := hK0.cell_some (k := 2) rfl
  have k3 := hK0.cell_some (k := 3) rfl
  have k4 := hK0.cell_some (k := 4) rfl
  clear hK0 hw1
  go_wp2
  go_loop [4, 5] (fun o i => ∃ k : Nat, k ≤ size ∧ i = .int .i64 k ∧ o = .bool true) (fun _ i => size - (intOf i).toNat)
  case atStart => exact ⟨0, Nat.zero_le _, rfl, rfl⟩
  case round =>
    obtain ⟨k, hk, rfl, rfl⟩ := hrel
    by_cases hlt : k < size
    · obtain ⟨b, off, rfl, hb, hc⟩ : ∃ b off, ao = some ⟨b, off, none⟩ ∧ b < w.heap.size ∧ ∀ k, (h : k < (List.replicate size q).length) → w.cell? ⟨b, off + k, none⟩ = some (.string (List.replicate size q)[k]) := by
        rcases HC.out with h | h
        · have := congrArg List.length h; simp at this; omega
        · exact h
      have c1 := hc k (by simpa using hlt)
      rw [List.getElem_replicate, ← hbel.cell (p := ⟨b, off + k, none⟩) hb] at c1
      clear hc
      go_wp2
      go_round
      case rel => exact ⟨k + 1, by omega, by go_num, rfl⟩
      case measure => simp [intOf]; omega
    · obtain rfl : k = size := by omega
      go_wp2
      refine wp_loop_rounds 1 ?_
      rw [rounds_succ]
      go_wp2
      refine wp_loop_rounds 1 ?_
      rw [rounds_succ]
      go_wp2
      go_ret
      exact ⟨rfl, hbel⟩

theorem flat_get (es : List Ent) : ∀ (k r : Nat) (h : k < es.length), r < 5 → (es.flatMap Ent.cells)[k * 5 + r]? = (es[k].cells)[r]? := by
  induction es with
  | nil => intro k r h; simp at h
  | cons e es ih =>
    intro k r h hr
    have hl : e.cells.length = 5 := rfl
    rw [List.flatMap_cons]
    cases k with
    | zero => rw [Nat.zero_mul, Nat.zero_add, List.getElem?_append_left (by omega)]; rfl
    | succ k =>
      rw [List.getElem?_append_right (by omega), show (k + 1) * 5 + r - e.cells.length = k * 5 + r by omega]
      exact ih k r (by simpa using h) hr
/-- The five cells of an entry. -/
theorem ent_cells {w : World} {B c : Nat} {ka : Option Addr} {kc : Nat} {es : List Ent} (hown : w.ownsRow B 82 5 (.slice ka (4 * c) kc) (4 * c) (es.flatMap Ent.cells)) (hel : es.length = 4 * c) (k : Nat) (hk : k < 4 * c) :
    ∃ g, ka = some ⟨g, 0, none⟩ ∧ g < w.heap.size ∧ ∀ r, r < 5 → w.cell? ⟨g, k * 5 + r, none⟩ = ((es[k]'(by omega)).cells)[r]? := by
  rcases hown.2 with ⟨_, h0⟩ | ⟨g, cap, cur, hv, hg, hh, _, _, _, ht⟩
  · omega
  · injection hv with h1 h2 h3
    refine ⟨g, h1, lt_of_block hh, fun r hr => ?_⟩
    rw [cell_of_row w g _ cur _ _ hh, ← flat_get es k r (by omega) hr, ← ht, List.getElem?_take_of_lt (by omega)]
    simp

set_option maxRecDepth 100000 in
set_option maxHeartbeats 1000000 in
theorem looks_any (B b c N : Nat) (w : World) (h : BookAt w B b c N) (hc : c ≤ 9) :
    Calls Tryd.prog 25 #[.pointer (some ⟨b, 0, none⟩)] w fun e w' => e = .returned (.bool true) ∧ Below w.heap.size w w' := by
  obtain ⟨hB, kv, es, hel, hblk, hown, hes⟩ := h
  obtain ⟨ka, kc, rfl⟩ : ∃ ao c', kv = .slice ao (4 * c) c' := by
    rcases hown.2 with ⟨rfl, h0⟩ | ⟨g, cap, cur, rfl, _⟩
    · rw [h0]; exact ⟨_, _, rfl⟩
    · exact ⟨_, _, rfl⟩
  have HBLK : Hid (Blk w b 37 [.int .i64 c, .slice ka (4 * c) kc]) := hblk
  have HOWN : Hid (w.ownsRow B 82 5 (.slice ka (4 * c) kc) (4 * c) (es.flatMap Ent.cells)) := hown
  have HES : Hid (∀ e, e ∈ es → e.ok w N) := hes
  clear hblk hown hes
  go_enter Tryd.func25, Tryd.ntmps25
  go_wp2
  go_loopw [3] (fun i wr => ∃ k : Nat, k ≤ 4 * c ∧ i = .int .i64 k ∧ Below w.heap.size w wr) (fun i _ => 4 * c - (intOf i).toNat)
  case atStart => exact ⟨0, Nat.zero_le _, rfl, Below.refl _ _⟩
  case round =>
    obtain ⟨k, hk, rfl, hbel⟩ := hrel
    have hb1 := HBLK.out.to hbel
    have c1 := hb1.cell_some (k := 1) rfl
    clear hb1
    have e4 : ((4 * c : Nat) : Int) = 4 * (c : Int) := by omega
    by_cases hlt : k < 4 * c
    · obtain ⟨g, rfl, hglt, hce⟩ := ent_cells HOWN.out hel k hlt
      have hok := HES.out (es[k]'(by omega)) (List.getElem_mem _)
      generalize es[k]'(by omega) = en at hce hok
      obtain ⟨n, size, tv⟩ := en
      have d0 := (hbel.cell (p := ⟨g, k * 5 + 0, none⟩) hglt).trans (hce 0 (by decide))
      have d1 := (hbel.cell (p := ⟨g, k * 5 + 1, none⟩) hglt).trans (hce 1 (by decide))
      have d2 := (hbel.cell (p := ⟨g, k * 5 + 2, none⟩) hglt).trans (hce 2 (by decide))
      have d3 := (hbel.cell (p := ⟨g, k * 5 + 3, none⟩) hglt).trans (hce 3 (by decide))
      have d4 := (hbel.cell (p := ⟨g, k * 5 + 4, none⟩) hglt).trans (hce 4 (by decide))
      simp only [Ent.cells, List.getElem?_cons_zero, List.getElem?_cons_succ, Nat.add_zero] at d0 d1 d2 d3 d4
      have hok1 : Ent.ok wr wr.heap.size ⟨n, size, tv⟩ := by
        obtain ⟨x1, x2, x3, x4⟩ := hok
        refine ⟨x1, x2, x3, ?_⟩
        obtain ⟨ao, cap, h, hx⟩ := x4
        refine ⟨ao, cap, h, ?_⟩
        rcases hx with hx | ⟨g', off, cur, h1', _, hg', r⟩
        · exact .inl hx
        · exact .inr ⟨g', off, cur, h1', Nat.lt_of_lt_of_le (lt_of_block hg') hbel.size, (hbel.block g' (lt_of_block hg')).trans hg', r⟩
      have HOK : Hid (Ent.ok wr wr.heap.size ⟨n, size, tv⟩) := hok1
      clear hok hok1 hce
      go_wp2_with fail
      refine (full_any n size _ tv _ HOK.out).mono ?_
      rintro e w2 ⟨rfl, hw2⟩
      go_wp2
      go_roundw
      case rel => exact ⟨k + 1, by omega, by go_num, hbel.trans (hw2.mono hbel.size)⟩
      case measure => simp [intOf]; omega
    · have hge : 4 * (c : Int) ≤ (k : Int) := by omega
      go_wp2
      go_ret
      exact ⟨rfl, hbel⟩
end Go.Proofs.YtmlnejlhgbonpaaDoor.Book
