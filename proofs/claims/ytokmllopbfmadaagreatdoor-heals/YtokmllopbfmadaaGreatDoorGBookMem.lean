import Derived.Test.YtokmllopbfmadaaGreatDoorGLend
import Derived.BigQuiet
import Derived.ArgAppend
/- The owner's book of lists: what it holds. -/
namespace Go.Proofs.YtokmllopbfmadaaGreatDoor.Book
open Go.RowKit Mem FieldWalks Tab ByTab Parts

/-- The slice v reads as these strings, in a row of strings below block number N. -/
def StrsIn (w : World) (N : Nat) (v : Value) (ss : List ByteArray) : Prop :=
  ∃ ao cap, v = .slice ao ss.length cap ∧ (ss = [] ∨ ∃ g off cur, ao = some ⟨g, off, none⟩ ∧ g < N ∧ w.heap[g]? = some (.cells cur 9 (0, 0)) ∧ ∀ k, (h : k < ss.length) → cur[off + k]? = some (.string ss[k]))
theorem StrsIn.at {w : World} {N : Nat} {v : Value} {ss : List ByteArray} (h : StrsIn w N v ss) : StrsAt w v ss := by
  obtain ⟨ao, cap, rfl, h⟩ := h
  refine ⟨ao, cap, rfl, ?_⟩
  rcases h with h | ⟨g, off, cur, rfl, _, hg, hc⟩
  · exact .inl h
  · exact .inr ⟨g, off, rfl, lt_of_block hg, fun k hk => by rw [cell_of_row w g _ cur _ _ hg]; exact hc k hk⟩
theorem StrsIn.mono {w : World} {N M : Nat} {v : Value} {ss : List ByteArray} (h : StrsIn w N v ss) (hM : N ≤ M) : StrsIn w M v ss := by
  obtain ⟨ao, cap, rfl, h⟩ := h
  refine ⟨ao, cap, rfl, ?_⟩
  rcases h with h | ⟨g, off, cur, rfl, hN, r⟩
  · exact .inl h
  · exact .inr ⟨g, off, cur, rfl, Nat.lt_of_lt_of_le hN hM, r⟩
/-- It stays so where every row of strings below N stays. -/
theorem StrsIn.keep {w w' : World} {N : Nat} {v : Value} {ss : List ByteArray} (h : StrsIn w N v ss) (hk : ∀ (g : Nat) (cur : Array Value), g < N → w.heap[g]? = some (.cells cur 9 (0, 0)) → w'.heap[g]? = w.heap[g]?) : StrsIn w' N v ss := by
  obtain ⟨ao, cap, rfl, h⟩ := h
  refine ⟨ao, cap, rfl, ?_⟩
  rcases h with h | ⟨g, off, cur, rfl, hN, hg, r⟩
  · exact .inl h
  · exact .inr ⟨g, off, cur, rfl, hN, (hk g cur hN hg).trans hg, r⟩
/-- An entry: its number, its length, its list. -/
structure Ent where
  n : Nat
  size : Nat
  t : Value
def Ent.cells (e : Ent) : List Value := [.int .i64 e.n, .int .i64 e.size, e.t, .slice none 0 0, .slice none 0 0]
def Ent.ok (w : World) (N : Nat) (e : Ent) : Prop := 1 ≤ e.n ∧ e.n ≤ 9 ∧ e.size ≤ 100 ∧ StrsIn w N e.t (List.replicate e.size (markS e.n))
/-- The book at block b: c lists are in it, each with those that are longer. -/
def BookAt (w : World) (B b c N : Nat) : Prop :=
  B ≤ b ∧ ∃ (kv : Value) (es : List Ent), es.length = 4 * c ∧ Blk w b 25 [.int .i64 c, kv] ∧ w.ownsRow B 61 5 kv (4 * c) (es.flatMap Ent.cells) ∧ ∀ e, e ∈ es → e.ok w N
theorem BookAt.start (w : World) (B : Nat) (hB : B ≤ w.heap.size) (N : Nat) : BookAt (w.alloc (.cells #[.int .i64 0, .slice none 0 0] 25)) B w.heap.size 0 N :=
  ⟨hB, .slice none 0 0, [], rfl, Blk.new w _ _, World.ownsRow_nil _ _ _ _, fun e he => by cases he⟩
theorem ownsRow_kept {w w' : World} {base : Nat} {e : TypeId} {size : Nat} {v : Value} {n : Nat} {xs : List Value} (h : w.ownsRow base e size v n xs) (hk : ∀ (g : Nat) (cur : Array Value), w.heap[g]? = some (.cells cur e (0, 0)) → w'.heap[g]? = w.heap[g]?) : w'.ownsRow base e size v n xs := by
  obtain ⟨h1, h2⟩ := h
  refine ⟨h1, ?_⟩
  rcases h2 with h2 | ⟨g, cap, cur, hv, hg, hh, r⟩
  · exact Or.inl h2
  · exact Or.inr ⟨g, cap, cur, hv, hg, (hk g cur hh).trans hh, r⟩
theorem BookAt.to {w w' : World} {B b c N : Nat} (h : BookAt w B b c N) (hb : Below w.heap.size w w') : BookAt w' B b c N := by
  obtain ⟨hB, kv, es, hl, hblk, hown, hes⟩ := h
  refine ⟨hB, kv, es, hl, hblk.to hb, ownsRow_to hown hb, fun e he => ?_⟩
  obtain ⟨h1, h2, h3, h4⟩ := hes e he
  exact ⟨h1, h2, h3, h4.keep fun g cur _ hg => hb.block g (lt_of_block hg)⟩
theorem BookAt.mono {w : World} {B b c N M : Nat} (h : BookAt w B b c N) (hM : N ≤ M) : BookAt w B b c M := by
  obtain ⟨hB, kv, es, hl, hblk, hown, hes⟩ := h
  refine ⟨hB, kv, es, hl, hblk, hown, fun e he => ?_⟩
  obtain ⟨h1, h2, h3, h4⟩ := hes e he
  exact ⟨h1, h2, h3, h4.mono hM⟩
end Go.Proofs.YtokmllopbfmadaaGreatDoor.Book

namespace Go.Proofs.YtokmllopbfmadaaGreatDoor.Book
open Go.RowKit Mem FieldWalks Tab ByTab Parts

set_option maxRecDepth 100000 in
set_option maxHeartbeats 1000000 in
theorem full_any (n size N : Nat) (tv : Value) (w : World) (h : Ent.ok w N ⟨n, size, tv⟩) :
    Calls Tryz.prog 25 #[.agg #[.int .i64 n, .int .i64 size, tv, .slice none 0 0, .slice none 0 0]] w fun e w' => e = .returned (.bool true) ∧ Below w.heap.size w w' := by
  have h1 : 1 ≤ n := h.1
  have h2 : n ≤ 9 := h.2.1
  have h3 : size ≤ 100 := h.2.2.1
  have h5 : StrsAt w tv (List.replicate size (markS n)) := h.2.2.2.at
  obtain ⟨ao, cap, htv, hcell⟩ := h5
  rw [List.length_replicate] at htv
  subst htv
  have hne : ((size : Int) != (size : Int)) = false := by simp
  have HC : Hid (List.replicate size (markS n) = [] ∨ ∃ b off, ao = some ⟨b, off, none⟩ ∧ b < w.heap.size ∧ ∀ k, (h : k < (List.replicate size (markS n)).length) → w.cell? ⟨b, off + k, none⟩ = some (.string (List.replicate size (markS n))[k])) := hcell
  clear h hcell
  go_enter Tryz.func25, Tryz.ntmps25
  go_wp2_with fail
  refine (mark_any n h1 h2 _).mono ?_
  rintro e w1 ⟨rfl, hw1⟩
  obtain ⟨q, hq⟩ : ∃ q, q = markS n := ⟨_, rfl⟩
  rw [← hq]
  rw [← hq] at HC
  clear hq
  have hK0 := (Blk.new w #[.int .i64 n, .int .i64 size, .slice ao size cap, .slice none 0 0, .slice none 0 0] 61).to hw1
  have hbel : Below w.heap.size w w1 := (((Below.refl _ _).alloc (Nat.le_refl _) _)).trans (hw1.mono (by simp))
  have k2 := hK0.cell_some (k := 2) rfl
  have k3 := hK0.cell_some (k := 3) rfl
  have k4 := hK0.cell_some (k := 4) rfl
  clear hK0 hw1
  go_wp2
  go_loop [4, 5] (fun o i => ∃ k : Nat, k ≤ size ∧ i = .int .i64 k ∧ o = .bool true) (fun _ i => size - (intOf i).toNat)
  case atStart => exact ⟨0, Nat.zero_le _, rfl, rfl⟩
  case round =>
    obtain ⟨k, hk, rfl, rfl⟩ := hrel
    by_cases hlt : k < size
    · obtain ⟨b, off, rfl, hb, hc⟩ : ∃ b off, ao = some ⟨b, off, none⟩ ∧ b < w.heap.size ∧ ∀ k, (h : k < (List.replicate size q).length) → w.cell? ⟨b, off + k, none⟩ = some (.string (List.replicate size q)[k]) := by
        rcases HC.out with h | h
        · have := congrArg List.length h; simp at this; omega
        · exact h
      have c1 := hc k (by simpa using hlt)
      rw [List.getElem_replicate, ← hbel.cell (p := ⟨b, off + k, none⟩) hb] at c1
      clear hc
      go_wp2
      go_round
      case rel => exact ⟨k + 1, by omega, by go_num, rfl⟩
      case measure => simp [intOf]; omega
    · obtain rfl : k = size := by omega
      go_wp2
      refine wp_loop_rounds 1 ?_
      rw [rounds_succ]
      go_wp2
      refine wp_loop_rounds 1 ?_
      rw [rounds_succ]
      go_wp2
      go_ret
      exact ⟨rfl, hbel⟩

theorem flat_get (es : List Ent) : ∀ (k r : Nat) (h : k < es.length), r < 5 → (es.flatMap Ent.cells)[k * 5 + r]? = (es[k].cells)[r]? := by
  induction es with
  | nil => intro k r h; simp at h
  | cons e es ih =>
    intro k r h hr
    have hl : e.cells.length = 5 := rfl
    rw [List.flatMap_cons]
    cases k with
    | zero => rw [Nat.zero_mul, Nat.zero_add, List.getElem?_append_left (by omega)]; rfl
    | succ k =>
      rw [List.getElem?_append_right (by omega), show (k + 1) * 5 + r - e.cells.length = k * 5 + r by omega]
      exact ih k r (by simpa using h) hr
/-- The five cells of an entry. -/
theorem ent_cells {w : World} {B c : Nat} {ka : Option Addr} {kc : Nat} {es : List Ent} (hown : w.ownsRow B 61 5 (.slice ka (4 * c) kc) (4 * c) (es.flatMap Ent.cells)) (hel : es.length = 4 * c) (k : Nat) (hk : k < 4 * c) :
    ∃ g, ka = some ⟨g, 0, none⟩ ∧ g < w.heap.size ∧ ∀ r, r < 5 → w.cell? ⟨g, k * 5 + r, none⟩ = ((es[k]'(by omega)).cells)[r]? := by
  rcases hown.2 with ⟨_, h0⟩ | ⟨g, cap, cur, hv, hg, hh, _, _, _, ht⟩
  · omega
  · injection hv with h1 h2 h3
    refine ⟨g, h1, lt_of_block hh, fun r hr => ?_⟩
    rw [cell_of_row w g _ cur _ _ hh, ← flat_get es k r (by omega) hr, ← ht, List.getElem?_take_of_lt (by omega)]
    simp

set_option maxRecDepth 100000 in
set_option maxHeartbeats 1000000 in
theorem looks_any (B b c N : Nat) (w : World) (h : BookAt w B b c N) (hc : c ≤ 9) :
    Calls Tryz.prog 13 #[.pointer (some ⟨b, 0, none⟩)] w fun e w' => e = .returned (.bool true) ∧ Below w.heap.size w w' := by
  obtain ⟨hB, kv, es, hel, hblk, hown, hes⟩ := h
  obtain ⟨ka, kc, rfl⟩ : ∃ ao c', kv = .slice ao (4 * c) c' := by
    rcases hown.2 with ⟨rfl, h0⟩ | ⟨g, cap, cur, rfl, _⟩
    · rw [h0]; exact ⟨_, _, rfl⟩
    · exact ⟨_, _, rfl⟩
  have HBLK : Hid (Blk w b 25 [.int .i64 c, .slice ka (4 * c) kc]) := hblk
  have HOWN : Hid (w.ownsRow B 61 5 (.slice ka (4 * c) kc) (4 * c) (es.flatMap Ent.cells)) := hown
  have HES : Hid (∀ e, e ∈ es → e.ok w N) := hes
  clear hblk hown hes
  go_enter Tryz.func13, Tryz.ntmps13
  go_wp2
  go_loopw [3] (fun i wr => ∃ k : Nat, k ≤ 4 * c ∧ i = .int .i64 k ∧ Below w.heap.size w wr) (fun i _ => 4 * c - (intOf i).toNat)
  case atStart => exact ⟨0, Nat.zero_le _, rfl, Below.refl _ _⟩
  case round =>
    obtain ⟨k, hk, rfl, hbel⟩ := hrel
    have hb1 := HBLK.out.to hbel
    have c1 := hb1.cell_some (k := 1) rfl
    clear hb1
    have e4 : ((4 * c : Nat) : Int) = 4 * (c : Int) := by omega
    by_cases hlt : k < 4 * c
    · obtain ⟨g, rfl, hglt, hce⟩ := ent_cells HOWN.out hel k hlt
      have hok := HES.out (es[k]'(by omega)) (List.getElem_mem _)
      generalize es[k]'(by omega) = en at hce hok
      obtain ⟨n, size, tv⟩ := en
      have d0 := (hbel.cell (p := ⟨g, k * 5 + 0, none⟩) hglt).trans (hce 0 (by decide))
      have d1 := (hbel.cell (p := ⟨g, k * 5 + 1, none⟩) hglt).trans (hce 1 (by decide))
      have d2 := (hbel.cell (p := ⟨g, k * 5 + 2, none⟩) hglt).trans (hce 2 (by decide))
      have d3 := (hbel.cell (p := ⟨g, k * 5 + 3, none⟩) hglt).trans (hce 3 (by decide))
      have d4 := (hbel.cell (p := ⟨g, k * 5 + 4, none⟩) hglt).trans (hce 4 (by decide))
      simp only [Ent.cells, List.getElem?_cons_zero, List.getElem?_cons_succ, Nat.add_zero] at d0 d1 d2 d3 d4
      have hok1 : Ent.ok wr wr.heap.size ⟨n, size, tv⟩ := by
        obtain ⟨x1, x2, x3, x4⟩ := hok
        refine ⟨x1, x2, x3, ?_⟩
        obtain ⟨ao, cap, h, hx⟩ := x4
        refine ⟨ao, cap, h, ?_⟩
        rcases hx with hx | ⟨g', off, cur, h1', _, hg', r⟩
        · exact .inl hx
        · exact .inr ⟨g', off, cur, h1', Nat.lt_of_lt_of_le (lt_of_block hg') hbel.size, (hbel.block g' (lt_of_block hg')).trans hg', r⟩
      have HOK : Hid (Ent.ok wr wr.heap.size ⟨n, size, tv⟩) := hok1
      clear hok hok1 hce
      go_wp2_with fail
      refine (full_any n size _ tv _ HOK.out).mono ?_
      rintro e w2 ⟨rfl, hw2⟩
      go_wp2
      go_roundw
      case rel => exact ⟨k + 1, by omega, by go_num, hbel.trans (hw2.mono hbel.size)⟩
      case measure => simp [intOf]; omega
    · have hge : 4 * (c : Int) ≤ (k : Int) := by omega
      go_wp2
      go_ret
      exact ⟨rfl, hbel⟩
end Go.Proofs.YtokmllopbfmadaaGreatDoor.Book

/- The book while a list is being written into it. -/
namespace Go.Proofs.YtokmllopbfmadaaGreatDoor.Book
open Go.RowKit Mem FieldWalks Tab ByTab Parts

/-- The book with its number raised and its lists as they were. -/
structure St (w0 w : World) (B b c lb : Nat) (kv : Value) (es : List Ent) : Prop where
  low : B ≤ b
  high : B ≤ lb
  blk : Blk w b 25 [.int .i64 (c + 1 : Nat), kv]
  own : w.ownsRow B 61 5 kv (4 * c) (es.flatMap Ent.cells)
  ok : ∀ e, e ∈ es → e.ok w lb
  below : Below B w0 w
theorem St.to {w0 w w' : World} {B b c lb : Nat} {kv : Value} {es : List Ent} (h : St w0 w B b c lb kv es) (hb : Below w.heap.size w w') : St w0 w' B b c lb kv es :=
  ⟨h.low, h.high, h.blk.to hb, ownsRow_to h.own hb, fun e he => by
    obtain ⟨h1, h2, h3, h4⟩ := h.ok e he
    exact ⟨h1, h2, h3, h4.keep fun g cur _ hg => hb.block g (lt_of_block hg)⟩, h.below.trans (hb.mono (by have := h.blk.lt; have := h.low; omega))⟩
theorem St.set {w0 w : World} {B b c lb : Nat} {kv : Value} {es : List Ent} {us : List Value} (h : St w0 w B b c lb kv es) (hl : Blk w lb 9 us) (k : Nat) (v : Value) : St w0 (w.setCell ⟨lb, k, none⟩ v) B b c lb kv es := by
  refine ⟨h.low, h.high, h.blk.other (h.blk.type_ne hl (by decide)) _, ownsRow_kept h.own fun g cur hg => ?_, fun e he => ?_, h.below.setCell h.high _⟩
  · exact Below.heap_setCell _ _ _ _ (Blk.type_ne (w := w) (vs := cur.toList) (by unfold Blk; rw [hg]) hl (by decide))
  · obtain ⟨h1, h2, h3, h4⟩ := h.ok e he
    exact ⟨h1, h2, h3, h4.keep fun g cur hlt _ => Below.heap_setCell _ _ _ _ (show g ≠ lb by omega)⟩
theorem St.start {w : World} {B b c lb : Nat} {kv : Value} {es : List Ent} (hB : B ≤ b) (hlb : B ≤ lb) (hblk : Blk w b 25 [.int .i64 c, kv]) (hown : w.ownsRow B 61 5 kv (4 * c) (es.flatMap Ent.cells)) (hes : ∀ e, e ∈ es → e.ok w lb) :
    St w (w.setCell ⟨b, 0, none⟩ (.int .i64 ((c : Int) + 1))) B b c lb kv es := by
  refine ⟨hB, hlb, ?_, ownsRow_kept hown fun g cur hg => ?_, fun e he => ?_, (Below.refl _ _).setCell hB _⟩
  · have := hblk.set 0 (.int .i64 ((c : Int) + 1))
    simpa using this
  · exact Below.heap_setCell _ _ _ _ (Blk.type_ne (w := w) (vs := cur.toList) (by unfold Blk; rw [hg]) hblk (by decide))
  · obtain ⟨h1, h2, h3, h4⟩ := hes e he
    exact ⟨h1, h2, h3, h4.keep fun g cur _ hg => Below.heap_setCell _ _ _ _ (Blk.type_ne (w := w) (b := g) (t := 9) (vs := cur.toList) (by unfold Blk; rw [hg]) hblk (by decide))⟩

theorem StrsIn.of_owns {w : World} {base : Nat} {v : Value} {n : Nat} {ss : List ByteArray} (h : w.ownsRow base 9 1 v n (ss.map Value.string)) : StrsIn w w.heap.size v ss := by
  obtain ⟨hl, h2⟩ := h
  simp only [List.length_map, Nat.mul_one] at hl
  rcases h2 with ⟨rfl, h0⟩ | ⟨g, cap, cur, rfl, hg, hh, _, _, _, ht⟩
  · exact ⟨none, 0, by rw [hl, h0], .inl (List.eq_nil_of_length_eq_zero (by omega))⟩
  · refine ⟨_, cap, by rw [hl], .inr ⟨g, 0, cur, rfl, lt_of_block hh, hh, fun k hk => ?_⟩⟩
    rw [Nat.zero_add]
    rw [Nat.mul_one] at ht
    have : (cur.toList.take n)[k]? = some (.string ss[k]) := by rw [ht]; simp [hk]
    rw [List.getElem?_take_of_lt (by omega)] at this
    simpa using this
theorem StrsIn.of_blk {w : World} {lb : Nat} {ss : List ByteArray} (h : Blk w lb 9 (ss.map Value.string)) (n : Nat) (hn : ss.length = n) : StrsIn w w.heap.size (.slice (some ⟨lb, 0, none⟩) n n) ss := by
  subst hn
  exact ⟨_, _, rfl, .inr ⟨lb, 0, _, rfl, h.lt, h, fun k hk => by simp [hk]⟩⟩

/-- append of marks onto a list that is full of them: a new list. -/
theorem wpList_append_marks {P : Program} (w : World) {ops : Array Oper} {rest : List Oper} {o : Oper} {a : Act} {Q : Exit → Act → World → Prop}
    (hgd : o.guard = none) (s x : Operand) (t : TypeId) (hop : o.op = Op.call { callee := Callee.builtin Builtin.append, args := #[s, x], argTypes := #[t, t] })
    (ht : P.underlying t = some (.slice 9)) (hinfo : (P.info? 9).map (fun i => (i.zero, i.size, i.bytes)) = some (some (.string ByteArray.empty), 1, 16))
    (ao : Option Addr) (n m : Nat) (q : ByteArray) (hs : a.eval s = .slice ao n n) (hn : n ≤ 1000) (hm : 0 < m) (hm2 : m ≤ 10)
    (hnone : ao = none → n = 0) (holds : ∀ b, ao = some b → ∀ j, j < n → w.cell? (b.add j) = some (.string q))
    (ad : Addr) (c : Nat) (hx : a.eval x = .slice (some ad) m c) (hc : ∀ j, j < m → w.cell? (ad.add j) = some (.string q))
    (hK : ∀ ao' c' w', StrsIn w' w'.heap.size (.slice ao' (n + m) c') (List.replicate (n + m) q) → Below w.heap.size w w' → wpList P ops Q rest (a.put o.dst (.slice ao' (n + m) c')) w') :
    wpList P ops Q (o :: rest) a w := by
  obtain ⟨i0, hi, hz0, hz1, hz2⟩ := info_parts hinfo
  refine wpList_append_grows _ hgd s x t hop 9 i0 _ 1 16 ht hi hz0 hz1 hz2 rfl (by decide) ao n n (List.replicate n (.string q)) hs (fun h => ⟨hnone h, hnone h⟩) (by simp) (fun b hb j u hu => ?_) ad m c (List.replicate m (.string q)) hx (by simp) (fun j u hu => ?_) (fun u hu => ?_) (by omega) (by unfold maxLen; omega) (by omega) (fun v' w' ho hg => ?_)
  · have hj : j < n := by have := (List.getElem?_eq_some_iff.1 hu).1; simpa using this
    rw [List.getElem?_replicate, if_pos hj] at hu
    rw [holds b hb j hj]; exact hu
  · have hj : j < m := by have := (List.getElem?_eq_some_iff.1 hu).1; simpa using this
    rw [List.getElem?_replicate, if_pos hj] at hu
    rw [hc j hj]; exact hu
  · have := List.eq_of_mem_replicate hu; subst this; rfl
  · obtain ⟨ao', c', rfl⟩ := Ref.owns_slice ho
    have e : List.replicate n (Value.string q) ++ List.replicate m (.string q) = (List.replicate (n + m) q).map Value.string := by simp [List.replicate_append_replicate]
    rw [e] at ho
    exact hK _ _ _ (StrsIn.of_owns ho) ((Below.refl _ _).grown hg (Nat.le_refl _) (fun k hk => by cases hk))

/-- append of several elements onto a row of the call's own, as one step of a region that draws its order. -/
theorem step_append_many {P : Program} {w : World} {ops : Array Oper} {o : Oper} {a : Act} {K : Act → World → Prop} {Q : Exit → Act → World → Prop} {E : Prop}
    (hgd : o.guard = none) (s x : Operand) (t : TypeId) (hop : o.op = Op.call { callee := Callee.builtin Builtin.append, args := #[s, x], argTypes := #[t, t] })
    (base : Nat) (e : TypeId) (z : Value) (size bytes : Nat) (ht : P.underlying t = some (.slice e)) (hinfo : (P.info? e).map (fun i => (i.zero, i.size, i.bytes)) = some (some z, size, bytes)) (hz : z.cells.size = size) (hsz : 0 < size)
    (v : Value) (n : Nat) (xs : List Value) (hs : a.eval s = v) (hown : w.ownsRow base e size v n xs) (ad : Addr) (m c : Nat) (news : List Value) (hx : a.eval x = .slice (some ad) m c) (hl : news.length = m * size) (hu : ∀ j u, news[j]? = some u → w.cell? (ad.add j) = some u) (h1 : ∀ u ∈ news, u.oneCell' = true)
    (b1 : n + m ≤ maxLen) (b2 : (n + m) * bytes ≤ 140737488355328) (hbase : base ≤ w.heap.size)
    (hK : ∀ v' w', w'.ownsRow base e size v' (n + m) (xs ++ news) → w.grownBy w' v.ownBlock → K (a.put o.dst v') w') :
    if Region.wanted o (yielded ops a.tmps) = true then Oper.wp P o a w K Q else E := by
  have hw : Region.wanted o (yielded ops a.tmps) = true := by simp [Region.wanted, hgd]
  rw [if_pos hw]
  obtain ⟨i0, hi, hz0, hz1, hz2⟩ := info_parts hinfo
  obtain ⟨v', w', hrun, ho, hg, _⟩ := run_append_own (P := P) w base t o.type e i0 z size bytes ht hi hz0 hz1 hz2 hz hsz v n xs hown ad m c news hl hu h1 b1 b2 hbase
  unfold Oper.wp
  simp [execOp, hop, resolve, invoke, builtin, hs, hx, hrun, Result.andThen]
  exact hK v' w' ho hg
theorem infoKept : (Tryz.prog.info? 61).map (fun i => (i.zero, i.size, i.bytes)) = some (some (.agg #[.int .i64 0, .int .i64 0, .slice none 0 0, .slice none 0 0, .slice none 0 0]), 5, 88) := by kernel_rfl
/-- Behind the append and the store the book holds four more. -/
theorem St.book {w0 w w1 w2 : World} {B b c lb : Nat} {kv kv' : Value} {es news : List Ent} (h : St w0 w B b c lb kv es) (hb : Below w.heap.size w w1) (hel : es.length = 4 * c) (hnl : news.length = 4)
    (ho : w2.ownsRow B 61 5 kv' (4 * c + 4) (es.flatMap Ent.cells ++ news.flatMap Ent.cells)) (hg : w1.grownBy w2 kv.ownBlock)
    (hnew : ∀ e, e ∈ news → e.ok w1 w1.heap.size) : BookAt (w2.setCell ⟨b, 1, none⟩ kv') B b (c + 1) (w2.setCell ⟨b, 1, none⟩ kv').heap.size ∧ Below B w0 (w2.setCell ⟨b, 1, none⟩ kv') := by
  have h1 := h.to hb
  have hsz1 := h1.blk.lt
  have hlow := h1.low
  -- a row of another type is kept by the append
  have keep : ∀ (g : Nat) (t : TypeId) (cur : Array Value), t ≠ 61 → w1.heap[g]? = some (.cells cur t (0, 0)) → w2.heap[g]? = w1.heap[g]? := by
    intro g t cur ht hg1
    refine hg.block g (lt_of_block hg1) (fun e => ?_)
    rcases h1.own.2 with ⟨rfl, _⟩ | ⟨g', cap, cur', rfl, _, hh, _⟩
    · simp [Value.ownBlock] at e
    · simp [Value.ownBlock] at e
      subst e
      rw [hg1] at hh
      simp at hh
      exact ht hh.2
  have hblk2 : Blk w2 b 25 [.int .i64 (c + 1 : Nat), kv] := by
    unfold Blk; rw [keep b 25 _ (by decide) h1.blk]; exact h1.blk
  have hB2 : Below B w0 w2 := h1.below.grown hg (by omega) (fun k hk => (h1.own.lt k hk).1)
  have hset := hblk2.set 1 kv'
  refine ⟨⟨h.low, kv', es ++ news, by simp [hel, hnl]; omega, by simpa using hset, ?_, fun e he => ?_⟩, hB2.setCell h.low _⟩
  · have e1 : 4 * (c + 1) = 4 * c + 4 := by omega
    rw [e1, List.flatMap_append]
    exact ownsRow_kept ho fun g cur hgg => Below.heap_setCell _ _ _ _ (Blk.type_ne (w := w2) (b := g) (t := 61) (vs := cur.toList) (by unfold Blk; rw [hgg]) hblk2 (by decide))
  · have hok : e.ok w1 w1.heap.size := by
      rcases List.mem_append.1 he with he | he
      · obtain ⟨x1, x2, x3, x4⟩ := h1.ok e he
        obtain ⟨ao, cap, ht, hx⟩ := x4
        refine ⟨x1, x2, x3, ao, cap, ht, ?_⟩
        rcases hx with hx | ⟨g, off, cur, h1', _, hg', r⟩
        · exact .inl hx
        · exact .inr ⟨g, off, cur, h1', lt_of_block hg', hg', r⟩
      · exact hnew e he
    obtain ⟨x1, x2, x3, x4⟩ := hok
    refine ⟨x1, x2, x3, (x4.keep (w' := w2.setCell ⟨b, 1, none⟩ kv') fun g cur _ hgg => ?_).mono (by rw [size_setCell]; exact hg.size)⟩
    rw [Below.heap_setCell _ _ _ _ (Blk.type_ne (w := w1) (b := g) (t := 9) (vs := cur.toList) (by unfold Blk; rw [hgg]) h1.blk (by decide))]
    exact keep g 9 cur (by decide) hgg
end Go.Proofs.YtokmllopbfmadaaGreatDoor.Book
