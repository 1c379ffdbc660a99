import Derived.Test.YtokmllopbfmadaaGreatDoorGBookMem
import Derived.Test.YtokmllopbfmadaaGreatDoorGBookTexts
import Derived.Test.YtokmllopbfmadaaGreatDoorGPairMap
/- The owner's book, of lists of texts and of numbers. -/
namespace Go.Proofs.YtokmllopbfmadaaGreatDoor.BookN
open Go.RowKit Mem FieldWalks Tab ByTab Parts Plans
open Book (StrsIn markS)

set_option maxRecDepth 100000 in
set_option maxHeartbeats 400000 in
theorem sameI_yes (l : List Nat) (a b : Value) (w : World) (ha : IntsAt w a l) (hb : IntsAt w b l) (hn : l.length ≤ 1000) :
    Calls Tryz.prog 9 #[a, b] w fun e w' => e = .returned (.bool true) ∧ ∃ n, w' = w.drewN n := by
  obtain ⟨aao, acap, rfl, _, hac⟩ := ha
  obtain ⟨bao, bcap, rfl, _, hbc⟩ := hb
  have hne : ((l.length : Int) != (l.length : Int)) = false := by simp
  have HAC : Hid (l = [] ∨ ∃ g us, aao = some ⟨g, 0, none⟩ ∧ Blk w g 3 us ∧ ∀ k, (h : k < l.length) → us[k]? = some (.int .i64 (l[k] : Nat))) := hac
  have HBC : Hid (l = [] ∨ ∃ g us, bao = some ⟨g, 0, none⟩ ∧ Blk w g 3 us ∧ ∀ k, (h : k < l.length) → us[k]? = some (.int .i64 (l[k] : Nat))) := hbc
  clear hac hbc
  go_enter Tryz.func9, Tryz.ntmps9
  go_wp2
  go_loopw [5] (fun i wr => ∃ k n : Nat, k ≤ l.length ∧ i = .int .i64 k ∧ wr = w.drewN n) (fun i _ => l.length - (intOf i).toNat)
  case atStart => exact ⟨0, 0, Nat.zero_le _, rfl, rfl⟩
  case round =>
    obtain ⟨k, n, hk, rfl, rfl⟩ := hrel
    by_cases hlt : k < l.length
    · obtain ⟨x, us, rfl, hx, hxc⟩ : ∃ g us, aao = some ⟨g, 0, none⟩ ∧ Blk w g 3 us ∧ ∀ k, (h : k < l.length) → us[k]? = some (.int .i64 (l[k] : Nat)) := by
        rcases HAC.out with h | h
        · rw [h] at hlt; simp at hlt
        · exact h
      obtain ⟨y, vs, rfl, hy, hyc⟩ : ∃ g us, bao = some ⟨g, 0, none⟩ ∧ Blk w g 3 us ∧ ∀ k, (h : k < l.length) → us[k]? = some (.int .i64 (l[k] : Nat)) := by
        rcases HBC.out with h | h
        · rw [h] at hlt; simp at hlt
        · exact h
      have c1 := hx.cell_some (hxc k hlt)
      have c2 := hy.cell_some (hyc k hlt)
      generalize l[k] = z at c1 c2
      clear hxc hyc hx hy
      have hki : (k : Int) < (l.length : Int) := by omega
      go_wp2
      go_quiet (fail)
      go_wp2
      go_roundw
      case rel => exact ⟨k + 1, n + nq, by omega, by go_num, rfl⟩
      case measure => simp [intOf]; omega
    · obtain rfl : k = l.length := by omega
      go_wp2
      go_ret
      exact ⟨rfl, n, rfl⟩

/-- The mark of a list of numbers. -/
def mN (n : Nat) : Value := .int .i64 (-1000 - (n : Int))
/-- The slice v is full of marks: so many; its row lies below block number N. -/
def NIn (w : World) (N : Nat) (v : Value) (size n : Nat) : Prop :=
  ∃ ao cap, v = .slice ao size cap ∧ (size = 0 ∨ ∃ g cur, ao = some ⟨g, 0, none⟩ ∧ g < N ∧ w.heap[g]? = some (.cells cur 3 (0, 0)) ∧ ∀ k, k < size → cur[k]? = some (mN n))
theorem NIn.mono {w : World} {N M : Nat} {v : Value} {size n : Nat} (h : NIn w N v size n) (hM : N ≤ M) : NIn w M v size n := by
  obtain ⟨ao, cap, rfl, h⟩ := h
  refine ⟨ao, cap, rfl, ?_⟩
  rcases h with h | ⟨g, cur, rfl, hN, r⟩
  · exact .inl h
  · exact .inr ⟨g, cur, rfl, Nat.lt_of_lt_of_le hN hM, r⟩
theorem NIn.keep {w w' : World} {N : Nat} {v : Value} {size n : Nat} (h : NIn w N v size n) (hk : ∀ (g : Nat) (cur : Array Value), g < N → w.heap[g]? = some (.cells cur 3 (0, 0)) → w'.heap[g]? = w.heap[g]?) : NIn w' N v size n := by
  obtain ⟨ao, cap, rfl, h⟩ := h
  refine ⟨ao, cap, rfl, ?_⟩
  rcases h with h | ⟨g, cur, rfl, hN, hg, r⟩
  · exact .inl h
  · exact .inr ⟨g, cur, rfl, hN, (hk g cur hN hg).trans hg, r⟩
theorem NIn.later {w w' : World} {v : Value} {size n : Nat} (h : NIn w w.heap.size v size n) (hb : Below w.heap.size w w') : NIn w' w'.heap.size v size n :=
  (h.keep fun g _ _ hg => hb.block g (lt_of_block hg)).mono hb.size
/-- An entry: its number, its length, its list of texts or of numbers. -/
structure Ent where
  n : Nat
  size : Nat
  t : Value
  i : Value
def Ent.cells (e : Ent) : List Value := [.int .i64 e.n, .int .i64 e.size, e.t, e.i, .slice none 0 0]
/-- It is full of its mark. -/
def Ent.fits (w : World) (N M : Nat) (e : Ent) : Prop := (e.i = .slice none 0 0 ∧ StrsIn w N e.t (List.replicate e.size (markS e.n))) ∨ (e.t = .slice none 0 0 ∧ NIn w M e.i e.size e.n)
def Ent.ok (w : World) (N M : Nat) (e : Ent) : Prop := 1 ≤ e.n ∧ e.n ≤ 9 ∧ e.size ≤ 100 ∧ e.fits w N M
theorem Ent.keep {w w' : World} {N M : Nat} {e : Ent} (h : e.ok w N M) (h1 : ∀ (g : Nat) (cur : Array Value), g < N → w.heap[g]? = some (.cells cur 9 (0, 0)) → w'.heap[g]? = w.heap[g]?)
    (h2 : ∀ (g : Nat) (cur : Array Value), g < M → w.heap[g]? = some (.cells cur 3 (0, 0)) → w'.heap[g]? = w.heap[g]?) : e.ok w' N M :=
  ⟨h.1, h.2.1, h.2.2.1, h.2.2.2.imp (fun x => ⟨x.1, x.2.keep h1⟩) (fun x => ⟨x.1, x.2.keep h2⟩)⟩
theorem Ent.mono {w : World} {N M N' M' : Nat} {e : Ent} (h : e.ok w N M) (hN : N ≤ N') (hM : M ≤ M') : e.ok w N' M' :=
  ⟨h.1, h.2.1, h.2.2.1, h.2.2.2.imp (fun x => ⟨x.1, x.2.mono hN⟩) (fun x => ⟨x.1, x.2.mono hM⟩)⟩
theorem Ent.to {w w' : World} {N M : Nat} {e : Ent} (h : e.ok w N M) (hb : Below w.heap.size w w') : e.ok w' N M :=
  Ent.keep h (fun g _ _ hg => hb.block g (lt_of_block hg)) (fun g _ _ hg => hb.block g (lt_of_block hg))
/-- Its texts lie in the memory that there is. -/
theorem Ent.hereT {w : World} {N M : Nat} {e : Ent} (h : e.ok w N M) : e.ok w w.heap.size M := by
  refine ⟨h.1, h.2.1, h.2.2.1, h.2.2.2.imp (fun x => ⟨x.1, ?_⟩) id⟩
  obtain ⟨ao, cap, ht, hx⟩ := x.2
  refine ⟨ao, cap, ht, ?_⟩
  rcases hx with hx | ⟨g, off, cur, h1', _, hg', r⟩
  · exact .inl hx
  · exact .inr ⟨g, off, cur, h1', lt_of_block hg', hg', r⟩
/-- Its numbers lie in the memory that there is. -/
theorem Ent.hereI {w : World} {N M : Nat} {e : Ent} (h : e.ok w N M) : e.ok w N w.heap.size := by
  refine ⟨h.1, h.2.1, h.2.2.1, h.2.2.2.imp id (fun x => ⟨x.1, ?_⟩)⟩
  obtain ⟨ao, cap, ht, hx⟩ := x.2
  refine ⟨ao, cap, ht, ?_⟩
  rcases hx with hx | ⟨g, cur, h1', _, hg', r⟩
  · exact .inl hx
  · exact .inr ⟨g, cur, h1', lt_of_block hg', hg', r⟩
/-- The book at block b: c lists are in it, each with those that are longer; texts below N, numbers below M. -/
def BookAt (w : World) (B b c N M : Nat) : Prop :=
  B ≤ b ∧ ∃ (kv : Value) (es : List Ent), es.length = 4 * c ∧ Blk w b 25 [.int .i64 c, kv] ∧ w.ownsRow B 61 5 kv (4 * c) (es.flatMap Ent.cells) ∧ ∀ e, e ∈ es → e.ok w N M
theorem BookAt.start (w : World) (B : Nat) (hB : B ≤ w.heap.size) (N M : Nat) : BookAt (w.alloc (.cells #[.int .i64 0, .slice none 0 0] 25)) B w.heap.size 0 N M :=
  ⟨hB, .slice none 0 0, [], rfl, Blk.new w _ _, World.ownsRow_nil _ _ _ _, fun e he => by cases he⟩
theorem BookAt.to {w w' : World} {B b c N M : Nat} (h : BookAt w B b c N M) (hb : Below w.heap.size w w') : BookAt w' B b c N M := by
  obtain ⟨hB, kv, es, hl, hblk, hown, hes⟩ := h
  exact ⟨hB, kv, es, hl, hblk.to hb, ownsRow_to hown hb, fun e he => Ent.to (hes e he) hb⟩
theorem BookAt.mono {w : World} {B b c N M N' M' : Nat} (h : BookAt w B b c N M) (hN : N ≤ N') (hM : M ≤ M') : BookAt w B b c N' M' := by
  obtain ⟨hB, kv, es, hl, hblk, hown, hes⟩ := h
  exact ⟨hB, kv, es, hl, hblk, hown, fun e he => Ent.mono (hes e he) hN hM⟩

set_option maxRecDepth 100000 in
set_option maxHeartbeats 1000000 in
theorem full_num (n size N : Nat) (iv : Value) (w : World) (h1 : 1 ≤ n) (h2 : n ≤ 9) (h3 : size ≤ 100) (h : NIn w N iv size n) :
    Calls Tryz.prog 25 #[.agg #[.int .i64 n, .int .i64 size, .slice none 0 0, iv, .slice none 0 0]] w fun e w' => e = .returned (.bool true) ∧ Below w.heap.size w w' := by
  obtain ⟨ao, cap, rfl, hcell⟩ := h
  have hne : ((size : Int) != (size : Int)) = false := by simp
  have HC : Hid (size = 0 ∨ ∃ g cur, ao = some ⟨g, 0, none⟩ ∧ g < N ∧ w.heap[g]? = some (.cells cur 3 (0, 0)) ∧ ∀ k, k < size → cur[k]? = some (mN n)) := hcell
  clear hcell
  go_enter Tryz.func25, Tryz.ntmps25
  go_wp2_with fail
  refine (Book.mark_any n h1 h2 _).mono ?_
  rintro e w1 ⟨rfl, hw1⟩
  obtain ⟨q, hq⟩ : ∃ q, q = Book.markS n := ⟨_, rfl⟩
  rw [← hq]
  clear hq
  have hK0 := (Blk.new w #[.int .i64 n, .int .i64 size, .slice none 0 0, .slice ao size cap, .slice none 0 0] 61).to hw1
  have hbel : Below w.heap.size w w1 := (((Below.refl _ _).alloc (Nat.le_refl _) _)).trans (hw1.mono (by simp))
  have k0 := hK0.cell_some (k := 0) rfl
  have k2 := hK0.cell_some (k := 2) rfl
  have k3 := hK0.cell_some (k := 3) rfl
  have k4 := hK0.cell_some (k := 4) rfl
  clear hK0 hw1
  go_wp2
  refine wp_loop_rounds 1 ?_
  rw [rounds_succ]
  go_wp2
  go_loopw [4, 6] (fun o i wr => ∃ k m : Nat, k ≤ size ∧ i = .int .i64 k ∧ o = .bool true ∧ wr = w1.drewN m) (fun _ i _ => size - (intOf i).toNat)
  case atStart => exact ⟨0, 0, Nat.zero_le _, rfl, rfl, rfl⟩
  case round =>
    obtain ⟨k, m, hk, rfl, rfl, rfl⟩ := hrel
    by_cases hlt : k < size
    · obtain ⟨g, cur, rfl, hN, hg, hc⟩ : ∃ g cur, ao = some ⟨g, 0, none⟩ ∧ g < N ∧ w.heap[g]? = some (.cells cur 3 (0, 0)) ∧ ∀ k, k < size → cur[k]? = some (mN n) := by
        rcases HC.out with h | h
        · omega
        · exact h
      have hg1 := (hbel.block g (lt_of_block hg)).trans hg
      have d0 := (cell_of_row w1 g k cur _ _ hg1).trans (hc k hlt)
      unfold mN at d0
      have hki : (k : Int) < (size : Int) := by omega
      clear hc hg hg1
      go_wp2
      go_quiet (fail)
      go_wp2
      go_roundw
      case rel => exact ⟨k + 1, m + nq, by omega, by go_num, rfl, rfl⟩
      case measure => simp [intOf]; omega
    · obtain rfl : k = size := by omega
      go_wp2
      refine wp_loop_rounds 1 ?_
      rw [rounds_succ]
      go_wp2
      go_ret
      exact ⟨rfl, below_drewN hbel m⟩
theorem full_any (n size N M : Nat) (tv iv : Value) (w : World) (h : Ent.ok w N M ⟨n, size, tv, iv⟩) :
    Calls Tryz.prog 25 #[.agg #[.int .i64 n, .int .i64 size, tv, iv, .slice none 0 0]] w fun e w' => e = .returned (.bool true) ∧ Below w.heap.size w w' := by
  obtain ⟨h1, h2, h3, h4⟩ := h
  rcases h4 with ⟨h5, h6⟩ | ⟨h5, h6⟩
  · obtain rfl : iv = .slice none 0 0 := h5
    exact Book.full_any n size N tv w ⟨h1, h2, h3, h6⟩
  · obtain rfl : tv = .slice none 0 0 := h5
    exact full_num n size M iv w h1 h2 h3 h6
theorem flat_get (es : List Ent) : ∀ (k r : Nat) (h : k < es.length), r < 5 → (es.flatMap Ent.cells)[k * 5 + r]? = (es[k].cells)[r]? := by
  induction es with
  | nil => intro k r h; simp at h
  | cons e es ih =>
    intro k r h hr
    have hl : e.cells.length = 5 := rfl
    rw [List.flatMap_cons]
    cases k with
    | zero => rw [Nat.zero_mul, Nat.zero_add, List.getElem?_append_left (by omega)]; rfl
    | succ k =>
      rw [List.getElem?_append_right (by omega), show (k + 1) * 5 + r - e.cells.length = k * 5 + r by omega]
      exact ih k r (by simpa using h) hr
/-- The five cells of an entry. -/
theorem ent_cells {w : World} {B c : Nat} {ka : Option Addr} {kc : Nat} {es : List Ent} (hown : w.ownsRow B 61 5 (.slice ka (4 * c) kc) (4 * c) (es.flatMap Ent.cells)) (hel : es.length = 4 * c) (k : Nat) (hk : k < 4 * c) :
    ∃ g, ka = some ⟨g, 0, none⟩ ∧ g < w.heap.size ∧ ∀ r, r < 5 → w.cell? ⟨g, k * 5 + r, none⟩ = ((es[k]'(by omega)).cells)[r]? := by
  rcases hown.2 with ⟨_, h0⟩ | ⟨g, cap, cur, hv, hg, hh, _, _, _, ht⟩
  · omega
  · injection hv with h1 h2 h3
    refine ⟨g, h1, lt_of_block hh, fun r hr => ?_⟩
    rw [cell_of_row w g _ cur _ _ hh, ← flat_get es k r (by omega) hr, ← ht, List.getElem?_take_of_lt (by omega)]
    simp
set_option maxRecDepth 100000 in
set_option maxHeartbeats 1000000 in
theorem looks_any (B b c N M : Nat) (w : World) (h : BookAt w B b c N M) (hc : c ≤ 9) :
    Calls Tryz.prog 13 #[.pointer (some ⟨b, 0, none⟩)] w fun e w' => e = .returned (.bool true) ∧ Below w.heap.size w w' := by
  obtain ⟨hB, kv, es, hel, hblk, hown, hes⟩ := h
  obtain ⟨ka, kc, rfl⟩ : ∃ ao c', kv = .slice ao (4 * c) c' := by
    rcases hown.2 with ⟨rfl, h0⟩ | ⟨g, cap, cur, rfl, _⟩
    · rw [h0]; exact ⟨_, _, rfl⟩
    · exact ⟨_, _, rfl⟩
  have HBLK : Hid (Blk w b 25 [.int .i64 c, .slice ka (4 * c) kc]) := hblk
  have HOWN : Hid (w.ownsRow B 61 5 (.slice ka (4 * c) kc) (4 * c) (es.flatMap Ent.cells)) := hown
  have HES : Hid (∀ e, e ∈ es → e.ok w N M) := hes
  clear hblk hown hes
  go_enter Tryz.func13, Tryz.ntmps13
  go_wp2
  go_loopw [3] (fun i wr => ∃ k : Nat, k ≤ 4 * c ∧ i = .int .i64 k ∧ Below w.heap.size w wr) (fun i _ => 4 * c - (intOf i).toNat)
  case atStart => exact ⟨0, Nat.zero_le _, rfl, Below.refl _ _⟩
  case round =>
    obtain ⟨k, hk, rfl, hbel⟩ := hrel
    have hb1 := HBLK.out.to hbel
    have c1 := hb1.cell_some (k := 1) rfl
    clear hb1
    have e4 : ((4 * c : Nat) : Int) = 4 * (c : Int) := by omega
    by_cases hlt : k < 4 * c
    · obtain ⟨g, rfl, hglt, hce⟩ := ent_cells HOWN.out hel k hlt
      have hok := HES.out (es[k]'(by omega)) (List.getElem_mem _)
      generalize es[k]'(by omega) = en at hce hok
      obtain ⟨n, size, tv, iv⟩ := en
      have d0 := (hbel.cell (p := ⟨g, k * 5 + 0, none⟩) hglt).trans (hce 0 (by decide))
      have d1 := (hbel.cell (p := ⟨g, k * 5 + 1, none⟩) hglt).trans (hce 1 (by decide))
      have d2 := (hbel.cell (p := ⟨g, k * 5 + 2, none⟩) hglt).trans (hce 2 (by decide))
      have d3 := (hbel.cell (p := ⟨g, k * 5 + 3, none⟩) hglt).trans (hce 3 (by decide))
      have d4 := (hbel.cell (p := ⟨g, k * 5 + 4, none⟩) hglt).trans (hce 4 (by decide))
      simp only [Ent.cells, List.getElem?_cons_zero, List.getElem?_cons_succ, Nat.add_zero] at d0 d1 d2 d3 d4
      have hok1 : Ent.ok wr N M ⟨n, size, tv, iv⟩ := Ent.to hok hbel
      have HOK : Hid (Ent.ok wr N M ⟨n, size, tv, iv⟩) := hok1
      obtain ⟨tv1, tv2, tv3, rfl⟩ : ∃ a b c, tv = .slice a b c := by
        rcases hok1.2.2.2 with ⟨_, ao, cap, h, _⟩ | ⟨h, _⟩
        · exact ⟨_, _, _, h⟩
        · exact ⟨_, _, _, h⟩
      obtain ⟨iv1, iv2, iv3, rfl⟩ : ∃ a b c, iv = .slice a b c := by
        rcases hok1.2.2.2 with ⟨h, _⟩ | ⟨_, ao, cap, h, _⟩
        · exact ⟨_, _, _, h⟩
        · exact ⟨_, _, _, h⟩
      clear hok hok1 hce
      go_wp2_with fail
      refine (full_any n size _ _ _ _ _ HOK.out).mono ?_
      rintro e w2 ⟨rfl, hw2⟩
      go_wp2
      go_roundw
      case rel => exact ⟨k + 1, by omega, by go_num, hbel.trans (hw2.mono hbel.size)⟩
      case measure => simp [intOf]; omega
    · have hge : 4 * (c : Int) ≤ (k : Int) := by omega
      go_wp2
      go_ret
      exact ⟨rfl, hbel⟩
end Go.Proofs.YtokmllopbfmadaaGreatDoor.BookN
