import Derived.Test.YtokmllopbfmadaaDoorGSpreads
import Derived.OpenShut
import Derived.Deep.Strs
import Derived.ChangeSlices
import Derived.SizedLaws
import Derived.Carry
import Derived.Laws.StructEq
import Derived.Test.YtokmllopbfmadaaDoorGBookTexts
import Derived.Test.YtokmllopbfmadaaDoorGPairMap
namespace Go.Proofs.YtokmllopbfmadaaDoor.Ref
open Go.RowKit Mem FieldWalks Tab ByTab Parts Book
open Plans (But)

/-- Only one block between lo and hi was written, and new ones made. -/
def Wrote (lo hi : Nat) (w w' : World) : Prop := w' = w ∨ ∃ S, lo ≤ S ∧ S < hi ∧ But S w w'
section
variable {lo hi : Nat} {w w' : World}
theorem Wrote.below (h : Wrote lo hi w w') {w0 : World} {B : Nat} (hb : Below B w0 w) (hB : B ≤ w.heap.size) (hlo : B ≤ lo) : Below B w0 w' := by
  rcases h with rfl | ⟨S, h1, _, h3⟩
  · exact hb
  · exact h3.below hb (Nat.le_trans hlo h1) hB
theorem Wrote.size (h : Wrote lo hi w w') : w.heap.size ≤ w'.heap.size := by
  rcases h with rfl | ⟨S, _, _, h3⟩
  · exact Nat.le_refl _
  · exact h3.size
theorem Wrote.blk (h : Wrote lo hi w w') {b : Nat} {t : TypeId} {vs : List Value} (hb : Blk w b t vs) (hl : hi ≤ b) : Blk w' b t vs := by
  rcases h with rfl | ⟨S, _, h2, h3⟩
  · exact hb
  · exact h3.blk hb (by omega)
theorem Wrote.blk_low (h : Wrote lo hi w w') {b : Nat} {t : TypeId} {vs : List Value} (hb : Blk w b t vs) (hl : b < lo) : Blk w' b t vs := by
  rcases h with rfl | ⟨S, h1, _, h3⟩
  · exact hb
  · exact h3.blk hb (by omega)
theorem Wrote.strs (h : Wrote lo hi w w') {v : Value} {ss : List ByteArray} (hs : StrsNew w hi v ss) : StrsNew w' hi v ss := by
  rcases h with rfl | ⟨S, _, h2, h3⟩
  · exact hs
  · obtain ⟨ao, cap, rfl, hs⟩ := hs
    refine ⟨ao, cap, rfl, ?_⟩
    rcases hs with hs | ⟨b, off, rfl, h4, h5, h6⟩
    · exact .inl hs
    · exact .inr ⟨b, off, rfl, h4, Nat.lt_of_lt_of_le h5 h3.size, fun k hk => by rw [h3.cell (p := ⟨b, off + k, none⟩) (by show b ≠ S; omega) h5]; exact h6 k hk⟩
end
/-- A list that came in: none, or one that lies in a block that is there. -/
def CameT (w : World) (pv : Value) (n : Nat) : Prop := pv = .slice none 0 0 ∨ ∃ ad cp, pv = .slice (some ad) n cp ∧ ad.block < w.heap.size
theorem CameT.to {w w' : World} {pv : Value} {n : Nat} (h : CameT w pv n) (hb : w.heap.size ≤ w'.heap.size) : CameT w' pv n := by
  rcases h with h | ⟨ad, cp, h1, h2⟩
  · exact .inl h
  · exact .inr ⟨ad, cp, h1, Nat.lt_of_lt_of_le h2 hb⟩

theorem lendT_both (pieces : List ByteArray) (pv : Value) (w : World) (hp : CameT w pv pieces.length) (hst : StrsAt w pv pieces) (hpl : pieces.length ≤ 8796093022204) :
    Calls Tryd.prog 61 #[pv] w fun e w1 => ∃ p, e = .returned p ∧ StrsAt w1 p pieces ∧ Below w.heap.size w w1 ∧
      ∀ w3, Below w1.heap.size w1 w3 → Calls Tryd.prog 64 #[p, pv] w3 fun e w4 => e = .returned (.bool true) ∧ Wrote w.heap.size w1.heap.size w3 w4 := by
  rcases hp with rfl | ⟨ad, cp, rfl, hlt⟩
  · refine (lendT_nil w).mono ?_
    rintro e w1 ⟨rfl, rfl⟩
    refine ⟨_, rfl, hst, Below.refl _ _, fun w3 _ => (wholeT_nil _ w3).mono ?_⟩
    rintro e w4 ⟨rfl, rfl⟩
    exact ⟨rfl, .inl rfl⟩
  · refine (lendT_any pieces ad cp w hst hpl).mono ?_
    rintro e w1 ⟨b, hb, rfl, hblk, hb1⟩
    refine ⟨_, rfl, ?_, hb1, fun w3 hb3 => ?_⟩
    · refine ⟨_, _, rfl, .inr ⟨b, 0, rfl, hblk.lt, fun k hk => ?_⟩⟩
      rw [Nat.zero_add]
      refine hblk.cell_some ?_
      rw [lent_get _ _ _ pieces.length k (by simp [strV]), if_pos hk]
      simp [strV, hk]
    · refine (wholeT_any pieces ad cp b w3 ((hst.to hb1).to hb3) (hblk.to hb3) (by omega) hpl).mono ?_
      rintro e w4 ⟨rfl, hbut⟩
      exact ⟨rfl, .inr ⟨b, hb, hblk.lt, hbut⟩⟩
theorem lendI_both (l : List Int) (pv : Value) (w : World) (hp : CameT w pv l.length) (hst : IsC w pv l) (hpl : l.length ≤ 17592186044412) :
    Calls Tryd.prog 62 #[pv] w fun e w1 => ∃ p, e = .returned p ∧ IsC w1 p l ∧ Below w.heap.size w w1 ∧
      ∀ w3, IsC w3 pv l → (∀ b t vs, b < w1.heap.size → w.heap.size ≤ b → Blk w1 b t vs → Blk w3 b t vs) → Calls Tryd.prog 65 #[p, pv] w3 fun e w4 => e = .returned (.bool true) ∧ Wrote w.heap.size w1.heap.size w3 w4 := by
  rcases hp with rfl | ⟨ad, cp, rfl, hlt⟩
  · refine (lendI_nil w).mono ?_
    rintro e w1 ⟨rfl, rfl⟩
    refine ⟨_, rfl, hst, Below.refl _ _, fun w3 _ _ => (wholeI_nil _ w3).mono ?_⟩
    rintro e w4 ⟨rfl, rfl⟩
    exact ⟨rfl, .inl rfl⟩
  · refine (lendI_any l ad cp w hst hpl).mono ?_
    rintro e w1 ⟨b, hb, rfl, hblk, hb1⟩
    refine ⟨_, rfl, ?_, hb1, fun w3 hi3 hk3 => ?_⟩
    · refine ⟨_, 4, rfl, .inr ⟨b, 0, rfl, hblk.lt, fun k hk => ?_⟩⟩
      rw [Nat.zero_add]
      refine hblk.cell_some ?_
      rw [lent_get _ _ _ l.length k (by simp [intV]), if_pos hk]
      simp [intV, hk]
    · refine (wholeI_any l ad cp b w3 hi3 (hk3 b _ _ hblk.lt hb hblk) (by omega) hpl).mono ?_
      rintro e w4 ⟨rfl, hbut⟩
      exact ⟨rfl, .inr ⟨b, hb, hblk.lt, hbut⟩⟩
end Go.Proofs.YtokmllopbfmadaaDoor.Ref

/- Lists that come in, opened: strings, numbers. -/
namespace Go.Proofs.YtokmllopbfmadaaDoor.CardArgs
open Go.ChangeShapes Go.WideShapes Go.ChangeAt Go.RowKit Mem Ref

theorem laidOut : laidOutB Tryd.prog = true := by kernel_rfl
theorem cellsStr : Tryd.prog.cellsOf 9 = 1 := by kernel_rfl
theorem cellsInt : Tryd.prog.cellsOf 3 = 1 := by kernel_rfl
theorem bytesStr : Tryd.prog.bytesOf 9 = 16 := by kernel_rfl
theorem bytesInt : Tryd.prog.bytesOf 3 = 8 := by kernel_rfl

/-- A slice that is one lies in a block that is there, at no inner place. -/
theorem slice_plain {P : Program} {W : World} {r : Reach} {base : Nat} {t e : TypeId} {a : Addr} {len cap : Nat} (ht : P.underlying t = some (.slice e)) (h : Value.okWide P W r base t (.slice (some a) len cap)) : ∃ b off, a = ⟨b, off, none⟩ ∧ b < W.heap.size := by
  simp only [Value.okWide, ht, Cell.okWide, Cell.ok] at h
  obtain ⟨_, _, _, h1, row, cells, h2, _⟩ := h
  refine ⟨a.block, a.off, ?_, ?_⟩
  · cases a; simp at h1; subst h1; rfl
  · apply Classical.byContradiction
    intro hn
    have : W.heap[a.block]? = none := by simp; omega
    simp [World.shape?, this] at h2

theorem wf_i64 {x : Int} (h : (Lit.int .i64 x).wf = true) : -9223372036854775808 ≤ x ∧ x ≤ 9223372036854775807 := by
  have h1 : IntKind.i64.min = -9223372036854775808 := by decide
  have h2 : IntKind.i64.max = 9223372036854775807 := by decide
  simp only [Lit.wf, h1, h2, Bool.and_eq_true, decide_eq_true_eq] at h
  exact h
theorem weights_all {H : Type} {P : Program} {e : TypeId} {d : DataW H} {n : Nat} : ∀ {l : List (DataW H)}, d ∈ l → n ∈ d.weights P e → n ∈ DataW.weightsAll P e l
  | [], h, _ => by cases h
  | x :: l, h, hn => by
    simp only [DataW.weightsAll, List.mem_append]
    rcases List.mem_cons.1 h with rfl | h
    · exact .inl hn
    · exact .inr (weights_all h hn)

section
set_option maxRecDepth 100000
variable {H : Type} {enc : TypeId × Value → H} {W : World} {base j : Nat} {v : Value} {d : DataW H} {p : List MemPlace} {ts : List TypeId} {ds : List (DataW H)}
theorem strs_arg (hval : Value.okWide Tryd.prog W .any base 38 v) (h : DataW.Trod enc Tryd.prog W 0 (fun _ => true) true 38 v d p) (hsz : (DataW.weightsEach Tryd.prog ts ds).all (· ≤ reachBytes) = true) (hts : ts[j]? = some 38) (hds : ds[j]? = some d) :
    ∃ pieces : List ByteArray, CameT W v pieces.length ∧ StrsAt W v pieces ∧ pieces.length ≤ 8796093022204 ∧ ∀ q, (h : q < pieces.length) → pieces[q].size < 2 ^ 62 := by
  obtain ⟨fuel, h⟩ := h
  obtain ⟨a0, len0, cap0, rfl⟩ := okWide_slice Tryd.underlying38 hval
  have hcs : (Value.slice a0 len0 cap0).cells.toList = [.slice a0 len0 cap0] := rfl
  rw [hcs] at h
  rcases Deep.open_strs Tryd.underlying38 Tryd.underlying9 cellsStr h with ⟨h1, h2⟩ | ⟨a, len, cap, m, Sx, h1, h2, h3, h4, h5, h6, h7⟩
  · injection h1 with h1 _
    rw [h1]
    exact ⟨[], .inl rfl, ⟨none, 0, rfl, .inl rfl⟩, by simp, fun q hq => by simp at hq⟩
  · injection h1 with h1 _
    rw [h1] at hval ⊢
    obtain ⟨b, off, rfl, hb⟩ := slice_plain Tryd.underlying38 hval
    simp only [Prod.mk.injEq] at h6
    obtain ⟨rfl, _⟩ := h6
    have hm : m = cap := by simpa using h5
    have hbytes := sized_slice hsz hts hds Tryd.underlying38
    rw [bytesStr] at hbytes
    simp only [List.length_map, List.length_range] at hbytes
    have hr : reachBytes = 140737488351232 := by decide
    refine ⟨(List.range len).map Sx, .inr ⟨⟨b, off, none⟩, cap, by simp, hb⟩, ⟨_, cap, by simp, .inr ⟨b, off, rfl, hb, fun k hk => ?_⟩⟩, ?_, fun q hq => ?_⟩
    · have hk' : k < len := by simpa using hk
      have := (h7 k (by omega)).1
      rw [Addr.add_lit] at this
      rw [this]; simp
    · simp only [List.length_map, List.length_range]; omega
    · have hq' : q < len := by simpa using hq
      have hmem : (DataW.lit (.string (Sx q).data.toList) : DataW H) ∈ (List.range len).map fun i => (DataW.lit (.string (Sx i).data.toList) : DataW H) := List.mem_map.2 ⟨q, List.mem_range.2 hq', rfl⟩
      have hw := weights_all (P := Tryd.prog) (e := 9) (n := (Sx q).data.toList.length) hmem (by simp [DataW.weights])
      have hall := List.all_eq_true.1 hsz _ (DataW.weights_mem_each hts hds ((Sx q).data.toList.length) (by
        simp only [DataW.weights, Tryd.underlying38, List.mem_cons, List.mem_append]
        exact .inr (.inl hw)))
      have hsq : (Sx q).size = (Sx q).data.toList.length := by rw [Array.length_toList]; rfl
      simp only [List.getElem_map, List.getElem_range]
      rw [hsq]
      have : (Sx q).data.toList.length ≤ reachBytes := by simpa using hall
      omega
theorem ints_arg (hval : Value.okWide Tryd.prog W .any base 45 v) (h : DataW.Trod enc Tryd.prog W 0 (fun _ => true) true 45 v d p) (hsz : (DataW.weightsEach Tryd.prog ts ds).all (· ≤ reachBytes) = true) (hts : ts[j]? = some 45) (hds : ds[j]? = some d) :
    ∃ l : List Int, CameT W v l.length ∧ IsC W v l ∧ l.length ≤ 17592186044412 ∧ ∀ x, x ∈ l → -9223372036854775808 ≤ x ∧ x ≤ 9223372036854775807 := by
  obtain ⟨fuel, h⟩ := h
  obtain ⟨a0, len0, cap0, rfl⟩ := okWide_slice Tryd.underlying45 hval
  have hcs : (Value.slice a0 len0 cap0).cells.toList = [.slice a0 len0 cap0] := rfl
  rw [hcs] at h
  rcases open_ints Tryd.underlying45 Tryd.underlying3 cellsInt h with ⟨h1, h2⟩ | ⟨a, len, cap, zs, h1, h2, h3, h4, h5, h6, h7, h8⟩
  · injection h1 with h1 _
    rw [h1]
    exact ⟨[], .inl rfl, ⟨none, 0, rfl, .inl rfl⟩, by simp, fun q hq => by simp at hq⟩
  · injection h1 with h1 _
    rw [h1] at hval ⊢
    obtain ⟨b, off, rfl, hb⟩ := slice_plain Tryd.underlying45 hval
    simp only [Prod.mk.injEq] at h6
    obtain ⟨rfl, _⟩ := h6
    have hm : zs.length = cap := by simpa using h5
    have hbytes := sized_slice hsz hts hds Tryd.underlying45
    rw [bytesInt] at hbytes
    simp only [lits, List.length_map, List.length_take, List.length_drop] at hbytes
    have hr : reachBytes = 140737488351232 := by decide
    have hlt : (zs.take len).length = len := by rw [List.length_take]; omega
    refine ⟨zs.take len, .inr ⟨⟨b, off, none⟩, cap, by rw [hlt], hb⟩, ⟨_, cap - len, by rw [hlt]; congr 1; omega, .inr ⟨b, off, rfl, hb, fun k hk => ?_⟩⟩, ?_, fun x hx => ?_⟩
    · rw [hlt] at hk
      have := h7 k (by omega)
      rw [Addr.add_lit] at this
      rw [this]; simp [show k < zs.length by omega]
    · rw [hlt]; omega
    · have := h8 x (List.mem_of_mem_take hx)
      exact wf_i64 this
end
end Go.Proofs.YtokmllopbfmadaaDoor.CardArgs

/- The owner's book, of lists of steps. -/
namespace Go.Proofs.YtokmllopbfmadaaDoor.BookS
open Go.RowKit Mem FieldWalks Tab ByTab Parts Plans

set_option maxRecDepth 100000 in
set_option maxHeartbeats 1000000 in
theorem sameS_yes (ss : List Stp) (a b : Value) (w : World) (ha : StepsAt w a ss) (hb : StepsAt w b ss) (hn : ss.length ≤ 1000000) :
    Calls Tryd.prog 40 #[a, b] w fun e w' => e = .returned (.bool true) ∧ ∃ n, w' = w.drewN n := by
  obtain ⟨aao, acap, rfl, hac⟩ := ha
  obtain ⟨bao, bcap, rfl, hbc⟩ := hb
  have hne : ((ss.length : Int) != (ss.length : Int)) = false := by simp
  have HAC : Hid (ss = [] ∨ ∃ g cur, aao = some ⟨g, 0, none⟩ ∧ w.heap[g]? = some (.cells cur 73 (0, 0)) ∧ ∀ k, (h : k < ss.length) → ∀ r, r < 3 → cur[k * 3 + r]? = (ss[k].cells)[r]?) := hac
  have HBC : Hid (ss = [] ∨ ∃ g cur, bao = some ⟨g, 0, none⟩ ∧ w.heap[g]? = some (.cells cur 73 (0, 0)) ∧ ∀ k, (h : k < ss.length) → ∀ r, r < 3 → cur[k * 3 + r]? = (ss[k].cells)[r]?) := hbc
  clear hac hbc
  go_enter Tryd.func40, Tryd.ntmps40
  go_wp2
  go_loopw [5] (fun i wr => ∃ k n : Nat, k ≤ ss.length ∧ i = .int .i64 k ∧ wr = w.drewN n) (fun i _ => ss.length - (intOf i).toNat)
  case atStart => exact ⟨0, 0, Nat.zero_le _, rfl, rfl⟩
  case round =>
    obtain ⟨k, n, hk, rfl, rfl⟩ := hrel
    by_cases hlt : k < ss.length
    · obtain ⟨g, cur, rfl, hg, hc⟩ : ∃ g cur, aao = some ⟨g, 0, none⟩ ∧ w.heap[g]? = some (.cells cur 73 (0, 0)) ∧ ∀ k, (h : k < ss.length) → ∀ r, r < 3 → cur[k * 3 + r]? = (ss[k].cells)[r]? := by
        rcases HAC.out with h | h
        · rw [h] at hlt; simp at hlt
        · exact h
      obtain ⟨g2, cur2, rfl, hg2, hc2⟩ : ∃ g cur, bao = some ⟨g, 0, none⟩ ∧ w.heap[g]? = some (.cells cur 73 (0, 0)) ∧ ∀ k, (h : k < ss.length) → ∀ r, r < 3 → cur[k * 3 + r]? = (ss[k].cells)[r]? := by
        rcases HBC.out with h | h
        · rw [h] at hlt; simp at hlt
        · exact h
      have d0 := (cell_of_row w g (k * 3 + 0) cur _ _ hg).trans (hc k hlt 0 (by decide))
      have d1 := (cell_of_row w g (k * 3 + 1) cur _ _ hg).trans (hc k hlt 1 (by decide))
      have d2 := (cell_of_row w g (k * 3 + 2) cur _ _ hg).trans (hc k hlt 2 (by decide))
      have e0 := (cell_of_row w g2 (k * 3 + 0) cur2 _ _ hg2).trans (hc2 k hlt 0 (by decide))
      have e1 := (cell_of_row w g2 (k * 3 + 1) cur2 _ _ hg2).trans (hc2 k hlt 1 (by decide))
      have e2 := (cell_of_row w g2 (k * 3 + 2) cur2 _ _ hg2).trans (hc2 k hlt 2 (by decide))
      generalize ss[k] = s at d0 d1 d2 e0 e1 e2
      obtain ⟨tt, src, fresh⟩ := s
      simp only [Stp.cells, List.getElem?_cons_zero, List.getElem?_cons_succ, Nat.add_zero] at d0 d1 d2 e0 e1 e2
      clear hc hc2 hg hg2
      have hki : (k : Int) < (ss.length : Int) := by omega
      go_wp2
      go_quiet (fail)
      go_wp2
      exact ⟨⟨k + 1, n + nq, by omega, by go_num, rfl⟩, by simp [intOf]; omega⟩
    · obtain rfl : k = ss.length := by omega
      go_wp2
      go_ret
      exact ⟨rfl, n, rfl⟩

/-- The mark of a list of steps. -/
def qC (n : Nat) : List Value := [.int .i64 (-(n : Int)), .int .i64 0, .bool false]
/-- The slice v is full of marks: so many; its row lies below block number N. -/
def SIn (w : World) (N : Nat) (v : Value) (size n : Nat) : Prop :=
  ∃ ao cap, v = .slice ao size cap ∧ (size = 0 ∨ ∃ g cur, ao = some ⟨g, 0, none⟩ ∧ g < N ∧ w.heap[g]? = some (.cells cur 73 (0, 0)) ∧ ∀ k, k < size → ∀ r, r < 3 → cur[k * 3 + r]? = (qC n)[r]?)
theorem SIn.mono {w : World} {N M : Nat} {v : Value} {size n : Nat} (h : SIn w N v size n) (hM : N ≤ M) : SIn w M v size n := by
  obtain ⟨ao, cap, rfl, h⟩ := h
  refine ⟨ao, cap, rfl, ?_⟩
  rcases h with h | ⟨g, cur, rfl, hN, r⟩
  · exact .inl h
  · exact .inr ⟨g, cur, rfl, Nat.lt_of_lt_of_le hN hM, r⟩
theorem SIn.keep {w w' : World} {N : Nat} {v : Value} {size n : Nat} (h : SIn w N v size n) (hk : ∀ (g : Nat) (cur : Array Value), g < N → w.heap[g]? = some (.cells cur 73 (0, 0)) → w'.heap[g]? = w.heap[g]?) : SIn w' N v size n := by
  obtain ⟨ao, cap, rfl, h⟩ := h
  refine ⟨ao, cap, rfl, ?_⟩
  rcases h with h | ⟨g, cur, rfl, hN, hg, r⟩
  · exact .inl h
  · exact .inr ⟨g, cur, rfl, hN, (hk g cur hN hg).trans hg, r⟩
theorem SIn.later {w w' : World} {v : Value} {size n : Nat} (h : SIn w w.heap.size v size n) (hb : Below w.heap.size w w') : SIn w' w'.heap.size v size n :=
  (h.keep fun g _ _ hg => hb.block g (lt_of_block hg)).mono hb.size
structure Ent where
  n : Nat
  size : Nat
  s : Value
def Ent.cells (e : Ent) : List Value := [.int .i64 e.n, .int .i64 e.size, .slice none 0 0, .slice none 0 0, e.s]
def Ent.ok (w : World) (N : Nat) (e : Ent) : Prop := 1 ≤ e.n ∧ e.n ≤ 9 ∧ e.size ≤ 100010 ∧ SIn w N e.s e.size e.n
def BookAt (w : World) (B b c N : Nat) : Prop :=
  B ≤ b ∧ ∃ (kv : Value) (es : List Ent), es.length = 4 * c ∧ Blk w b 37 [.int .i64 c, kv] ∧ w.ownsRow B 88 5 kv (4 * c) (es.flatMap Ent.cells) ∧ ∀ e, e ∈ es → e.ok w N
theorem BookAt.start (w : World) (B : Nat) (hB : B ≤ w.heap.size) (N : Nat) : BookAt (w.alloc (.cells #[.int .i64 0, .slice none 0 0] 37)) B w.heap.size 0 N :=
  ⟨hB, .slice none 0 0, [], rfl, Blk.new w _ _, World.ownsRow_nil _ _ _ _, fun e he => by cases he⟩
theorem BookAt.to {w w' : World} {B b c N : Nat} (h : BookAt w B b c N) (hb : Below w.heap.size w w') : BookAt w' B b c N := by
  obtain ⟨hB, kv, es, hl, hblk, hown, hes⟩ := h
  refine ⟨hB, kv, es, hl, hblk.to hb, ownsRow_to hown hb, fun e he => ?_⟩
  obtain ⟨h1, h2, h3, h4⟩ := hes e he
  exact ⟨h1, h2, h3, h4.keep fun g cur _ hg => hb.block g (lt_of_block hg)⟩
theorem BookAt.mono {w : World} {B b c N M : Nat} (h : BookAt w B b c N) (hM : N ≤ M) : BookAt w B b c M := by
  obtain ⟨hB, kv, es, hl, hblk, hown, hes⟩ := h
  refine ⟨hB, kv, es, hl, hblk, hown, fun e he => ?_⟩
  obtain ⟨h1, h2, h3, h4⟩ := hes e he
  exact ⟨h1, h2, h3, h4.mono hM⟩

set_option maxRecDepth 100000 in
set_option maxHeartbeats 1000000 in
theorem full_any (n size N : Nat) (sv : Value) (w : World) (h : Ent.ok w N ⟨n, size, sv⟩) :
    Calls Tryd.prog 58 #[.agg #[.int .i64 n, .int .i64 size, .slice none 0 0, .slice none 0 0, sv]] w fun e w' => e = .returned (.bool true) ∧ Below w.heap.size w w' := by
  have h1 : 1 ≤ n := h.1
  have h2 : n ≤ 9 := h.2.1
  have h3 : size ≤ 100010 := h.2.2.1
  obtain ⟨ao, cap, htv, hcell⟩ : SIn w N sv size n := h.2.2.2
  subst htv
  have hne : ((size : Int) != (size : Int)) = false := by simp
  have HC : Hid (size = 0 ∨ ∃ g cur, ao = some ⟨g, 0, none⟩ ∧ g < N ∧ w.heap[g]? = some (.cells cur 73 (0, 0)) ∧ ∀ k, k < size → ∀ r, r < 3 → cur[k * 3 + r]? = (qC n)[r]?) := hcell
  clear h hcell
  go_enter Tryd.func58, Tryd.ntmps58
  go_wp2_with fail
  refine (Book.mark_any n h1 h2 _).mono ?_
  rintro e w1 ⟨rfl, hw1⟩
  obtain ⟨q, hq⟩ : ∃ q, q = Book.markS n := ⟨_, rfl⟩
  rw [← hq]
  clear hq
  have hK0 := (Blk.new w #[.int .i64 n, .int .i64 size, .slice none 0 0, .slice none 0 0, .slice ao size cap] 88).to hw1
  have hbel : Below w.heap.size w w1 := (((Below.refl _ _).alloc (Nat.le_refl _) _)).trans (hw1.mono (by simp))
  have k0 := hK0.cell_some (k := 0) rfl
  have k2 := hK0.cell_some (k := 2) rfl
  have k3 := hK0.cell_some (k := 3) rfl
  have k4 := hK0.cell_some (k := 4) rfl
  clear hK0 hw1
  go_wp2
  refine wp_loop_rounds 1 ?_
  rw [rounds_succ]
  go_wp2
  refine wp_loop_rounds 1 ?_
  rw [rounds_succ]
  go_wp2
  go_loopw [4, 7] (fun o i wr => ∃ k m : Nat, k ≤ size ∧ i = .int .i64 k ∧ o = .bool true ∧ wr = w1.drewN m) (fun _ i _ => size - (intOf i).toNat)
  case atStart => exact ⟨0, 0, Nat.zero_le _, rfl, rfl, rfl⟩
  case round =>
    obtain ⟨k, m, hk, rfl, rfl, rfl⟩ := hrel
    by_cases hlt : k < size
    · obtain ⟨g, cur, rfl, hN, hg, hc⟩ : ∃ g cur, ao = some ⟨g, 0, none⟩ ∧ g < N ∧ w.heap[g]? = some (.cells cur 73 (0, 0)) ∧ ∀ k, k < size → ∀ r, r < 3 → cur[k * 3 + r]? = (qC n)[r]? := by
        rcases HC.out with h | h
        · omega
        · exact h
      have hg1 := (hbel.block g (lt_of_block hg)).trans hg
      have d0 := (cell_of_row w1 g (k * 3 + 0) cur _ _ hg1).trans (hc k hlt 0 (by decide))
      have d1 := (cell_of_row w1 g (k * 3 + 1) cur _ _ hg1).trans (hc k hlt 1 (by decide))
      have d2 := (cell_of_row w1 g (k * 3 + 2) cur _ _ hg1).trans (hc k hlt 2 (by decide))
      simp only [qC, List.getElem?_cons_zero, List.getElem?_cons_succ, Nat.add_zero] at d0 d1 d2
      have hki : (k : Int) < (size : Int) := by omega
      have hwn : IntKind.i64.wrap (-(n : Int)) = -(n : Int) := by rw [IntKind.wrap_i64]; omega
      clear hc hg hg1
      go_wp2
      go_quiet (fail)
      go_wp2
      exact ⟨⟨k + 1, m + nq, by omega, by go_num, rfl, rfl⟩, by simp [intOf]; omega⟩
    · obtain rfl : k = size := by omega
      go_wp2
      go_ret
      exact ⟨rfl, hbel.trans ⟨rfl, rfl, rfl, Nat.le_refl _, fun _ _ => rfl⟩⟩
theorem flat_get (es : List Ent) : ∀ (k r : Nat) (h : k < es.length), r < 5 → (es.flatMap Ent.cells)[k * 5 + r]? = (es[k].cells)[r]? := by
  induction es with
  | nil => intro k r h; simp at h
  | cons e es ih =>
    intro k r h hr
    have hl : e.cells.length = 5 := rfl
    rw [List.flatMap_cons]
    cases k with
    | zero => rw [Nat.zero_mul, Nat.zero_add, List.getElem?_append_left (by omega)]; rfl
    | succ k =>
      rw [List.getElem?_append_right (by omega), show (k + 1) * 5 + r - e.cells.length = k * 5 + r by omega]
      exact ih k r (by simpa using h) hr
/-- The five cells of an entry. -/
theorem ent_cells {w : World} {B c : Nat} {ka : Option Addr} {kc : Nat} {es : List Ent} (hown : w.ownsRow B 88 5 (.slice ka (4 * c) kc) (4 * c) (es.flatMap Ent.cells)) (hel : es.length = 4 * c) (k : Nat) (hk : k < 4 * c) :
    ∃ g, ka = some ⟨g, 0, none⟩ ∧ g < w.heap.size ∧ ∀ r, r < 5 → w.cell? ⟨g, k * 5 + r, none⟩ = ((es[k]'(by omega)).cells)[r]? := by
  rcases hown.2 with ⟨_, h0⟩ | ⟨g, cap, cur, hv, hg, hh, _, _, _, ht⟩
  · omega
  · injection hv with h1 h2 h3
    refine ⟨g, h1, lt_of_block hh, fun r hr => ?_⟩
    rw [cell_of_row w g _ cur _ _ hh, ← flat_get es k r (by omega) hr, ← ht, List.getElem?_take_of_lt (by omega)]
    simp

set_option maxRecDepth 100000 in
set_option maxHeartbeats 1000000 in
theorem looks_any (B b c N : Nat) (w : World) (h : BookAt w B b c N) (hc : c ≤ 9) :
    Calls Tryd.prog 26 #[.pointer (some ⟨b, 0, none⟩)] w fun e w' => e = .returned (.bool true) ∧ Below w.heap.size w w' := by
  obtain ⟨hB, kv, es, hel, hblk, hown, hes⟩ := h
  obtain ⟨ka, kc, rfl⟩ : ∃ ao c', kv = .slice ao (4 * c) c' := by
    rcases hown.2 with ⟨rfl, h0⟩ | ⟨g, cap, cur, rfl, _⟩
    · rw [h0]; exact ⟨_, _, rfl⟩
    · exact ⟨_, _, rfl⟩
  have HBLK : Hid (Blk w b 37 [.int .i64 c, .slice ka (4 * c) kc]) := hblk
  have HOWN : Hid (w.ownsRow B 88 5 (.slice ka (4 * c) kc) (4 * c) (es.flatMap Ent.cells)) := hown
  have HES : Hid (∀ e, e ∈ es → e.ok w N) := hes
  clear hblk hown hes
  go_enter Tryd.func26, Tryd.ntmps26
  go_wp2
  go_loopw [3] (fun i wr => ∃ k : Nat, k ≤ 4 * c ∧ i = .int .i64 k ∧ Below w.heap.size w wr) (fun i _ => 4 * c - (intOf i).toNat)
  case atStart => exact ⟨0, Nat.zero_le _, rfl, Below.refl _ _⟩
  case round =>
    obtain ⟨k, hk, rfl, hbel⟩ := hrel
    have hb1 := HBLK.out.to hbel
    have c1 := hb1.cell_some (k := 1) rfl
    clear hb1
    have e4 : ((4 * c : Nat) : Int) = 4 * (c : Int) := by omega
    by_cases hlt : k < 4 * c
    · obtain ⟨g, rfl, hglt, hce⟩ := ent_cells HOWN.out hel k hlt
      have hok := HES.out (es[k]'(by omega)) (List.getElem_mem _)
      generalize es[k]'(by omega) = en at hce hok
      obtain ⟨n, size, tv⟩ := en
      have d0 := (hbel.cell (p := ⟨g, k * 5 + 0, none⟩) hglt).trans (hce 0 (by decide))
      have d1 := (hbel.cell (p := ⟨g, k * 5 + 1, none⟩) hglt).trans (hce 1 (by decide))
      have d2 := (hbel.cell (p := ⟨g, k * 5 + 2, none⟩) hglt).trans (hce 2 (by decide))
      have d3 := (hbel.cell (p := ⟨g, k * 5 + 3, none⟩) hglt).trans (hce 3 (by decide))
      have d4 := (hbel.cell (p := ⟨g, k * 5 + 4, none⟩) hglt).trans (hce 4 (by decide))
      simp only [Ent.cells, List.getElem?_cons_zero, List.getElem?_cons_succ, Nat.add_zero] at d0 d1 d2 d3 d4
      have hok1 : Ent.ok wr wr.heap.size ⟨n, size, tv⟩ := by
        obtain ⟨x1, x2, x3, x4⟩ := hok
        refine ⟨x1, x2, x3, ?_⟩
        obtain ⟨ao, cap, h, hx⟩ := x4
        refine ⟨ao, cap, h, ?_⟩
        rcases hx with hx | ⟨g', cur, h1', _, hg', r⟩
        · exact .inl hx
        · exact .inr ⟨g', cur, h1', Nat.lt_of_lt_of_le (lt_of_block hg') hbel.size, (hbel.block g' (lt_of_block hg')).trans hg', r⟩
      have HOK : Hid (Ent.ok wr wr.heap.size ⟨n, size, tv⟩) := hok1
      clear hok hok1 hce
      go_wp2_with fail
      refine (full_any n size _ tv _ HOK.out).mono ?_
      rintro e w2 ⟨rfl, hw2⟩
      go_wp2
      go_roundw
      case rel => exact ⟨k + 1, by omega, by go_num, hbel.trans (hw2.mono hbel.size)⟩
      case measure => simp [intOf]; omega
    · have hge : 4 * (c : Int) ≤ (k : Int) := by omega
      go_wp2
      go_ret
      exact ⟨rfl, hbel⟩
end Go.Proofs.YtokmllopbfmadaaDoor.BookS

namespace Go.Proofs.YtokmllopbfmadaaDoor.BookS
open Go.RowKit Mem FieldWalks Tab ByTab Parts Plans

def marksL (m c : Nat) : List Value := (List.replicate m (qC c)).flatten
theorem marksL_length (m c : Nat) : (marksL m c).length = m * 3 := by simp [marksL, qC]
theorem marksL_succ (m c : Nat) : marksL (m + 1) c = qC c ++ marksL m c := by simp [marksL, List.replicate_succ]
theorem marksL_get (c : Nat) : ∀ (m k r : Nat), k < m → r < 3 → (marksL m c)[k * 3 + r]? = (qC c)[r]?
  | 0, k, r, h, _ => by omega
  | m + 1, 0, r, _, hr => by
    rw [marksL_succ, Nat.zero_mul, Nat.zero_add, List.getElem?_append_left (by simp [qC]; omega)]
  | m + 1, k + 1, r, h, hr => by
    rw [marksL_succ, List.getElem?_append_right (by simp [qC]; omega), show (k + 1) * 3 + r - (qC c).length = k * 3 + r by simp [qC]; omega]
    exact marksL_get c m k r (by omega) hr
theorem marksL_add (a b c : Nat) : marksL a c ++ marksL b c = marksL (a + b) c := by
  unfold marksL; rw [← List.flatten_append, List.replicate_append_replicate]
/-- The first M elements are marks. -/
def Mk (us : List Value) (M c : Nat) : Prop := ∀ k, k < M → ∀ r, r < 3 → us[k * 3 + r]? = (qC c)[r]?
theorem Mk.take {us : List Value} {M c n : Nat} (h : Mk us M c) (hn : n ≤ M) (hl : n * 3 ≤ us.length) : us.take (n * 3) = marksL n c := by
  apply List.ext_getElem?
  intro i
  by_cases hi : i < n * 3
  · rw [List.getElem?_take_of_lt hi]
    have e : i = i / 3 * 3 + i % 3 := by omega
    rw [e, h (i / 3) (by omega) (i % 3) (by omega), marksL_get c n (i / 3) (i % 3) (by omega) (by omega)]
  · rw [List.getElem?_eq_none (by simp; omega), List.getElem?_eq_none (by rw [marksL_length]; omega)]
theorem Mk.le {us : List Value} {M c n : Nat} (h : Mk us M c) (hn : n ≤ M) : Mk us n c := fun k hk r hr => h k (by omega) r hr
/-- The list that is being marked. -/
def LSt (w : World) (v : Value) (n cap c : Nat) : Prop :=
  (n = 0 ∧ cap = 0 ∧ v = .slice none 0 0) ∨ ∃ g us M, v = .slice (some ⟨g, 0, none⟩) n cap ∧ Blk w g 73 us ∧ us.length = cap * 3 ∧ n ≤ M ∧ n ≤ cap ∧ cap ≤ maxLen ∧ Mk us M c
theorem LSt.to {w w' : World} {v : Value} {n cap c : Nat} (h : LSt w v n cap c) (hb : Below w.heap.size w w') : LSt w' v n cap c := by
  rcases h with h | ⟨g, us, M, h1, h2, r⟩
  · exact .inl h
  · exact .inr ⟨g, us, M, h1, h2.to hb, r⟩
theorem LSt.sIn {w : World} {v : Value} {n cap c : Nat} (h : LSt w v n cap c) : SIn w w.heap.size v n c := by
  rcases h with ⟨rfl, rfl, rfl⟩ | ⟨g, us, M, rfl, h2, h3, h4, _, _, h5⟩
  · exact ⟨_, _, rfl, .inl rfl⟩
  · exact ⟨_, _, rfl, .inr ⟨g, us.toArray, rfl, h2.lt, h2, fun k hk r hr => by simpa using h5 k (by omega) r hr⟩⟩
theorem mk_room {us : List Value} {M c n m : Nat} (h : Mk us M c) (hn : n ≤ M) (hl : (n + m) * 3 ≤ us.length) : ∀ K, Mk us K c → Mk (us.take (n * 3) ++ marksL m c ++ us.drop (n * 3 + (marksL m c).length)) (max K (n + m)) c := by
  intro K hK k hk r hr
  rw [h.take hn (by omega), marksL_add]
  by_cases h1 : k < n + m
  · rw [List.getElem?_append_left (by rw [marksL_length]; omega)]; exact marksL_get c _ k r h1 hr
  · rw [List.getElem?_append_right (by rw [marksL_length]; omega), List.getElem?_drop, marksL_length, marksL_length, show n * 3 + m * 3 + (k * 3 + r - (n + m) * 3) = k * 3 + r by omega]
    exact hK k (by omega) r hr
theorem sIn_new (w : World) (A : Array Value) (rest : List Value) {k c : Nat} (hA : A.toList = marksL k c ++ rest) (cap : Nat) : SIn (w.drew.alloc (.cells A 73)) (w.drew.alloc (.cells A 73)).heap.size (.slice (some ⟨w.heap.size, 0, none⟩) k cap) k c :=
  ⟨_, _, rfl, .inr ⟨w.heap.size, A, rfl, by simp, heap_alloc_new w.drew _, fun j hj r hr => by
    have e : A[j * 3 + r]? = A.toList[j * 3 + r]? := by simp
    rw [e, hA, List.getElem?_append_left (by rw [marksL_length]; omega)]; exact marksL_get c k j r hj hr⟩⟩
theorem addr_add' (B j : Nat) : (⟨B, 0, none⟩ : Addr).add j = ⟨B, j, none⟩ := by cases j <;> simp [Addr.add]
set_option maxRecDepth 100000 in
/-- append of marks onto the list: what it reads as, and what stays. -/
theorem run_marks (w : World) (v : Value) (n cap c m : Nat) (h : LSt w v n cap c) (ad : Addr) (cc : Nat) (hm : 0 < m) (hm2 : m ≤ 10) (hn : n ≤ 1000000) (hnews : ∀ (j : Nat) (u : Value), (marksL m c)[j]? = some u → w.cell? (ad.add j) = some u) (ty : TypeId) :
    ∃ v' w', (Builtin.append_ #[64, 64] ty #[v, .slice (some ad) m cc]).run Tryd.prog w = .ok v' w' ∧ SIn w' w'.heap.size v' (n + m) c ∧ (∃ ao' c', v' = .slice ao' (n + m) c') ∧ LSt w' v n cap c ∧ (∀ N v2 n2, SIn w N v2 n2 c → SIn w' N v2 n2 c) ∧ w.grownBy w' v.ownBlock := by
  obtain ⟨i0, hi, hz0, hz1, hz2⟩ := info_parts infoStep
  have hone : ∀ u ∈ marksL m c, u.oneCell' = true := by
    intro u hu
    simp only [marksL, List.mem_flatten, List.mem_replicate] at hu
    obtain ⟨l, ⟨_, rfl⟩, hu⟩ := hu
    simp only [qC, List.mem_cons, List.not_mem_nil, or_false] at hu
    rcases hu with rfl | rfl | rfl <;> rfl
  have hnl : (marksL m c).length = m * i0.size := by rw [marksL_length, hz1]
  have h63 : ((n + m : Nat) : Int) ≤ 9223372036854775807 := by omega
  rcases h with ⟨rfl, rfl, rfl⟩ | ⟨g, us, M, rfl, hg, hul, hM, hnc, hcm, hmk⟩
  · have hr := run_append_nil (P := Tryd.prog) w 64 ty 73 i0 _ Tryd.underlying64 hi hz0 ad m cc (marksL m c) hnl hnews hm (by omega) (by rw [hz2]; omega)
    have hb : Below w.heap.size w (w.drew.alloc (.cells ((marksL m c).toArray ++ Builtin.zeroCells (Value.agg #[.int .i64 0, .int .i64 0, .bool false]).cells (grownCap w m 0 73 - m)) 73)) := (Below.refl _ _).drew.alloc (Nat.le_refl _) _
    refine ⟨_, _, hr, ?_, ⟨_, _, by rw [Nat.zero_add]⟩, .inl ⟨rfl, rfl, rfl⟩, fun N v2 n2 h2 => h2.keep fun g cur _ hg => hb.block g (lt_of_block hg), ⟨hb.os, hb.tape, hb.output, hb.size, fun k hk _ => hb.block k hk⟩⟩
    rw [Nat.zero_add]
    exact sIn_new w _ _ (by rw [Array.toList_append, List.toList_toArray]) _
  · by_cases hroom : n + m ≤ cap
    · have hg' : w.heap[g]? = some (.cells us.toArray 73 (0, 0)) := hg
      have hr := run_append_room (P := Tryd.prog) w 64 ty 73 i0 Tryd.underlying64 hi g n cap us.toArray hg' ad m cc (marksL m c) hnl hnews hone hroom (by rw [marksL_length, hz1]; simp; omega)
      rw [hz1, List.toList_toArray] at hr
      have hb2 := hg.row (us.take (n * 3) ++ marksL m c ++ us.drop (n * 3 + (marksL m c).length)).toArray
      rw [List.toList_toArray] at hb2
      have hmm := mk_room hmk hM (m := m) (by omega)
      have hlen : (us.take (n * 3) ++ marksL m c ++ us.drop (n * 3 + (marksL m c).length)).length = cap * 3 := by
        simp only [List.length_append, List.length_take, List.length_drop, marksL_length]; omega
      have hgr : w.grownBy (w.setRow g (us.take (n * 3) ++ marksL m c ++ us.drop (n * 3 + (marksL m c).length)).toArray) (some g) := ⟨rfl, rfl, rfl, by simp [World.setRow], fun k _ hk => setRow_other w g k _ (fun e => hk (by rw [e]))⟩
      have hst : LSt (w.setRow g (us.take (n * 3) ++ marksL m c ++ us.drop (n * 3 + (marksL m c).length)).toArray) (.slice (some ⟨g, 0, none⟩) n cap) n cap c := .inr ⟨g, _, _, rfl, hb2, hlen, by omega, hnc, hcm, hmm M hmk⟩
      refine ⟨_, _, hr, ?_, ⟨_, _, rfl⟩, hst, fun N v2 n2 h2 => ?_, hgr⟩
      · exact ⟨_, _, rfl, .inr ⟨g, _, rfl, hb2.lt, hb2, fun k hk r hr2 => by simpa using hmm M hmk k (by omega) r hr2⟩⟩
      · obtain ⟨ao, cap2, rfl, hx⟩ := h2
        refine ⟨ao, cap2, rfl, ?_⟩
        rcases hx with hx | ⟨g2, cur2, rfl, hN, hg2, hc2⟩
        · exact .inl hx
        · by_cases e : g2 = g
          · subst e
            rw [hg'] at hg2
            have e2 : cur2 = us.toArray := by injection hg2 with hg2; injection hg2 with hg2; exact hg2.symm
            refine .inr ⟨g2, _, rfl, hN, hb2, fun k hk r hr2 => ?_⟩
            have := hmm n2 (fun k hk r hr => by have := hc2 k hk r hr; rw [e2] at this; simpa using this) k (by omega) r hr2
            simpa using this
          · exact .inr ⟨g2, cur2, rfl, hN, by rw [setRow_other w g g2 _ e]; exact hg2, hc2⟩
    · have hxs : us.take (n * 3) = marksL n c := hmk.take hM (by omega)
      have holds : ∀ (j : Nat) (u : Value), (marksL n c)[j]? = some u → w.cell? ((⟨g, 0, none⟩ : Addr).add j) = some u := fun j u hu => by
        rw [addr_add', hg.cell]
        have hj : j < n * 3 := by have := (List.getElem?_eq_some_iff.1 hu).1; rwa [marksL_length] at this
        rw [← hxs, List.getElem?_take_of_lt hj] at hu; exact hu
      have hr := run_append_grow (P := Tryd.prog) w 64 ty 73 i0 _ Tryd.underlying64 hi hz0 ⟨g, 0, none⟩ n cap (marksL n c) (by rw [marksL_length, hz1]) holds ad m cc (marksL m c) hnl hnews (by omega) h63 (growslice_fits (by omega) (by rw [hz2]; omega))
      have hb : Below w.heap.size w (w.drew.alloc (.cells ((marksL n c).toArray ++ (marksL m c).toArray ++ Builtin.zeroCells (Value.agg #[.int .i64 0, .int .i64 0, .bool false]).cells (grownCap w (n + m) cap 73 - (n + m))) 73)) := (Below.refl _ _).drew.alloc (Nat.le_refl _) _
      have hst : LSt w (.slice (some ⟨g, 0, none⟩) n cap) n cap c := .inr ⟨g, us, M, rfl, hg, hul, hM, hnc, hcm, hmk⟩
      exact ⟨_, _, hr, sIn_new w _ _ (by rw [Array.toList_append, Array.toList_append, List.toList_toArray, List.toList_toArray, marksL_add]) _, ⟨_, _, rfl⟩, hst.to hb, fun N v2 n2 h2 => h2.keep fun g cur _ hg => hb.block g (lt_of_block hg), ⟨hb.os, hb.tape, hb.output, hb.size, fun k hk _ => hb.block k hk⟩⟩
end Go.Proofs.YtokmllopbfmadaaDoor.BookS
