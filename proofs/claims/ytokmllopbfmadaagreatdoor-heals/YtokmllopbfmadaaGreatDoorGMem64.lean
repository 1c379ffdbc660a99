import Derived.Test.YtokmllopbfmadaaGreatDoorGTables
/- Rows of words, as the rows of bytes. -/
namespace Go.Proofs.YtokmllopbfmadaaGreatDoor.Planes
open Go.RowKit Mem
/-- The slice v reads as these bytes. -/
def WsAt (w : World) (v : Value) (l : List Nat) : Prop :=
  ∃ ao cap, v = .slice ao l.length cap ∧ (l = [] ∨ ∃ b off, ao = some ⟨b, off, none⟩ ∧ b < w.heap.size ∧ ∀ k, (h : k < l.length) → w.cell? ⟨b, off + k, none⟩ = some (.int .u64 (l[k] : Nat)))
/-- The slice v reads as these rows of bytes. -/
def WRowsAt (w : World) (v : Value) (rows : List (List Nat)) : Prop :=
  ∃ ao cap, v = .slice ao rows.length cap ∧ (rows = [] ∨ ∃ b off, ao = some ⟨b, off, none⟩ ∧ b < w.heap.size ∧ ∀ k, (h : k < rows.length) → ∃ u, w.cell? ⟨b, off + k, none⟩ = some u ∧ WsAt w u rows[k])

section
variable {w w' : World} {v : Value}
theorem WsAt.to {l : List Nat} (h : WsAt w v l) (hb : Below w.heap.size w w') : WsAt w' v l := by
  obtain ⟨ao, cap, rfl, h⟩ := h
  refine ⟨ao, cap, rfl, ?_⟩
  rcases h with h | ⟨b, off, rfl, hlt, hc⟩
  · exact .inl h
  · exact .inr ⟨b, off, rfl, Nat.lt_of_lt_of_le hlt hb.size, fun k hk => by rw [hb.cell (p := ⟨b, off + k, none⟩) hlt]; exact hc k hk⟩
theorem WRowsAt.to {rows : List (List Nat)} (h : WRowsAt w v rows) (hb : Below w.heap.size w w') : WRowsAt w' v rows := by
  obtain ⟨ao, cap, rfl, h⟩ := h
  refine ⟨ao, cap, rfl, ?_⟩
  rcases h with h | ⟨b, off, rfl, hlt, hc⟩
  · exact .inl h
  · refine .inr ⟨b, off, rfl, Nat.lt_of_lt_of_le hlt hb.size, fun k hk => ?_⟩
    obtain ⟨u, hu, hr⟩ := hc k hk
    exact ⟨u, by rw [hb.cell (p := ⟨b, off + k, none⟩) hlt]; exact hu, hr.to hb⟩
theorem WsAt.of_blk {b : Nat} {t : TypeId} {l : List Nat} (h : Blk w b t (wordsV l)) (n cap : Nat) (hn : n = l.length) : WsAt w (.slice (some ⟨b, 0, none⟩) n cap) l := by
  subst hn
  exact ⟨_, _, rfl, .inr ⟨b, 0, rfl, h.lt, fun k hk => by rw [Nat.zero_add, h.cell k, wordsV_at hk]⟩⟩
theorem WsAt.pos {l : List Nat} (h : WsAt w v l) (hl : 0 < l.length) : ∃ b off cap, v = .slice (some ⟨b, off, none⟩) l.length cap ∧ b < w.heap.size ∧ ∀ k, (h : k < l.length) → w.cell? ⟨b, off + k, none⟩ = some (.int .u64 (l[k] : Nat)) := by
  obtain ⟨ao, cap, rfl, h1⟩ := h
  rcases h1 with h | ⟨b, off, rfl, hlt, hc⟩
  · subst h; simp at hl
  · exact ⟨b, off, cap, rfl, hlt, hc⟩
theorem WRowsAt.pos {rows : List (List Nat)} (h : WRowsAt w v rows) (hl : 0 < rows.length) : ∃ b off cap, v = .slice (some ⟨b, off, none⟩) rows.length cap ∧ b < w.heap.size ∧ ∀ k, (h : k < rows.length) → ∃ u, w.cell? ⟨b, off + k, none⟩ = some u ∧ WsAt w u rows[k] := by
  obtain ⟨ao, cap, rfl, h1⟩ := h
  rcases h1 with h | ⟨b, off, rfl, hlt, hc⟩
  · subst h; simp at hl
  · exact ⟨b, off, cap, rfl, hlt, hc⟩
end

/-- A row of bytes of the call's own: a block of its own, of just that length. -/
def OwnW (w : World) (u : Value) (l : List Nat) : Prop := ∃ b, u = .slice (some ⟨b, 0, none⟩) l.length l.length ∧ Blk w b 149 (wordsV l)
theorem OwnW.bs {w : World} {u : Value} {l : List Nat} (h : OwnW w u l) : WsAt w u l := by
  obtain ⟨b, rfl, hb⟩ := h
  exact WsAt.of_blk hb _ _ rfl
theorem OwnW.to {w w' : World} {u : Value} {l : List Nat} (h : OwnW w u l) (hb : Below w.heap.size w w') : OwnW w' u l := by
  obtain ⟨b, rfl, h⟩ := h
  exact ⟨b, rfl, h.to hb⟩

theorem OwnW.set {w : World} {u : Value} {l : List Nat} (h : OwnW w u l) {B : Nat} {t : TypeId} {us : List Value} (hB : Blk w B t us) (ht : 149 ≠ t) (k : Nat) (x : Value) : OwnW (w.setCell ⟨B, k, none⟩ x) u l := by
  obtain ⟨b, rfl, h⟩ := h
  exact ⟨b, rfl, h.other (h.type_ne hB ht) _⟩
/-- A row of rows that is being filled: the first i are made. -/
def FilledW (w : World) (B n i : Nat) (f : Nat → List Nat) : Prop := ∃ us : List Value, us.length = n ∧ Blk w B 144 us ∧ ∀ k, k < i → ∃ u, us[k]? = some u ∧ OwnW w u (f k)
theorem FilledW.to {w w' : World} {B n i : Nat} {f : Nat → List Nat} (h : FilledW w B n i f) (hb : Below w.heap.size w w') : FilledW w' B n i f := by
  obtain ⟨us, hl, hB, hf⟩ := h
  refine ⟨us, hl, hB.to hb, fun k hk => ?_⟩
  obtain ⟨u, hu, ho⟩ := hf k hk
  exact ⟨u, hu, ho.to hb⟩
theorem FilledW.lt {w : World} {B n i : Nat} {f : Nat → List Nat} (h : FilledW w B n i f) : B < w.heap.size := by
  obtain ⟨us, hl, hB, hf⟩ := h; exact hB.lt
theorem FilledW.cell {w : World} {B n i : Nat} {f : Nat → List Nat} (h : FilledW w B n i f) {k : Nat} (hk : k < n) : (∃ v, w.cell? ⟨B, k, none⟩ = some v) ∧ w.frozen? ⟨B, k, none⟩ = false := by
  obtain ⟨us, hl, hB, hf⟩ := h
  exact ⟨⟨us[k]'(by omega), hB.cell_some (by simp [show k < us.length by omega])⟩, hB.free k⟩
theorem FilledW.step {w : World} {B n i : Nat} {f : Nat → List Nat} (h : FilledW w B n i f) (hi : i < n) {u : Value} (ho : OwnW w u (f i)) : FilledW (w.setCell ⟨B, i, none⟩ u) B n (i + 1) f := by
  obtain ⟨us, hl, hB, hf⟩ := h
  refine ⟨us.set i u, by simpa using hl, hB.set i u, fun k hk => ?_⟩
  by_cases e : k = i
  · subst e
    exact ⟨u, by simp [show k < us.length by omega], ho.set hB (by decide) _ _⟩
  · obtain ⟨v, hv, hov⟩ := hf k (by omega)
    exact ⟨v, by rw [List.getElem?_set_ne (by omega)]; exact hv, hov.set hB (by decide) _ _⟩
theorem FilledW.zero {w : World} {B n : Nat} {us : List Value} (h : Blk w B 144 us) (hl : us.length = n) (f : Nat → List Nat) : FilledW w B n 0 f := ⟨us, hl, h, fun k hk => by omega⟩
theorem FilledW.row {w : World} {B n i : Nat} {f : Nat → List Nat} (h : FilledW w B n i f) {k : Nat} (hk : k < i) : ∃ u, w.cell? ⟨B, k, none⟩ = some u ∧ OwnW w u (f k) := by
  obtain ⟨us, hl, hB, hf⟩ := h
  obtain ⟨u, hu, ho⟩ := hf k hk
  exact ⟨u, hB.cell_some hu, ho⟩
theorem FilledW.rows {w : World} {B n : Nat} {f : Nat → List Nat} (h : FilledW w B n n f) {rows : List (List Nat)} (hr : rows.length = n) (he : ∀ k, (h : k < rows.length) → rows[k] = f k) : WRowsAt w (.slice (some ⟨B, 0, none⟩) n n) rows := by
  refine ⟨_, _, by rw [hr], .inr ⟨B, 0, rfl, h.lt, fun k hk => ?_⟩⟩
  obtain ⟨u, hu, ho⟩ := h.row (k := k) (by omega)
  exact ⟨u, by rw [Nat.zero_add]; exact hu, by rw [he k hk]; exact ho.bs⟩
end Go.Proofs.YtokmllopbfmadaaGreatDoor.Planes

namespace Go.Proofs.YtokmllopbfmadaaGreatDoor.Planes
open Go.RowKit Mem FieldWalks Tab ByTab
open Gf (Bytes sumTo addTo)

def Words (l : List Nat) : Prop := ∀ x, x ∈ l → x < 18446744073709551616
theorem Words.at {l : List Nat} (h : Words l) (k : Nat) (hk : k < l.length) : l[k] < 18446744073709551616 := h _ (List.getElem_mem hk)
def waddTo (f : Nat) (acc p : List Nat) : List Nat := List.zipWith (fun a x => a ^^^ Gf.moved f x 8) acc p
/-- The sum of the first j pieces' words, each moved by its factor. -/
def wsumTo (row : List Nat) (ps : List (List Nat)) (L : Nat) : Nat → List Nat
  | 0 => List.replicate L 0
  | j + 1 => waddTo (row.getD j 0) (wsumTo row ps L j) (ps.getD j [])
theorem wsumTo_length (row : List Nat) (ps : List (List Nat)) (L : Nat) (hl : ∀ j, (h : j < ps.length) → ps[j].length = L) : ∀ j, j ≤ ps.length → (wsumTo row ps L j).length = L
  | 0, _ => by simp [wsumTo]
  | j + 1, h => by
    have ih := wsumTo_length row ps L hl j (by omega)
    have hj : (ps.getD j []).length = L := by simp [show j < ps.length by omega, hl j (by omega)]
    rw [wsumTo, waddTo, List.length_zipWith]; omega
theorem wsumTo_words (row : List Nat) (ps : List (List Nat)) (L : Nat) : ∀ j, Words (wsumTo row ps L j)
  | 0 => by intro x hx; simp [wsumTo] at hx; omega
  | j + 1 => by
    intro x hx
    simp only [wsumTo, waddTo, List.mem_iff_getElem, List.getElem_zipWith, List.length_zipWith] at hx
    obtain ⟨k, hk, rfl⟩ := hx
    exact Nat.xor_lt_two_pow (n := 64) ((wsumTo_words row ps L j).at k (by omega)) (Gf.moved_lt _ _ _)
theorem wsumTo_next (row : List Nat) (ps : List (List Nat)) (L j k : Nat) (hj : j < ps.length) (hjr : j < row.length) (hk : k < ps[j].length) (h1 : k < (wsumTo row ps L j).length) (h2 : k < (wsumTo row ps L (j + 1)).length) :
    (wsumTo row ps L (j + 1))[k] = (wsumTo row ps L j)[k] ^^^ Gf.moved row[j] ps[j][k] 8 := by
  simp only [wsumTo, waddTo, List.getElem_zipWith]
  have e1 : row.getD j 0 = row[j] := by simp [hjr]
  have e2 : ps.getD j [] = ps[j] := by simp [hj]
  simp only [e1, e2]
theorem mix_words (a b : List Nat) (k : Nat) : wordsV (mix a b k) = mix (wordsV a) (wordsV b) k := by simp [wordsV, mix, List.map_take, List.map_drop]

theorem wround_facts (row : List Nat) (ps : List (List Nat)) (L j k f : Nat) (w wq : World) (S : Nat) (ao : Option Addr) (hlt : j < ps.length) (hrow : ps.length ≤ row.length) (hl : ∀ j, (h : j < ps.length) → ps[j].length = L)
    (_hb1 : Bytes row) (hb2 : ∀ j, (h : j < ps.length) → Words ps[j]) (hf : row[j] = f)
    (hx : ps[j] = [] ∨ ∃ b off, ao = some ⟨b, off, none⟩ ∧ b < w.heap.size ∧ ∀ k, (h : k < ps[j].length) → w.cell? ⟨b, off + k, none⟩ = some (.int .u64 (ps[j][k] : Nat)))
    (hk : k < L) (hbq : Below w.heap.size w wq) (hb : Blk wq S 149 (wordsV (mix (wsumTo row ps L (j + 1)) (wsumTo row ps L j) k))) :
    ∃ o x b off, ao = some ⟨b, off, none⟩ ∧ x < 18446744073709551616 ∧ wq.cell? ⟨b, off + k, none⟩ = some (.int .u64 (x : Nat)) ∧ wq.cell? ⟨S, k, none⟩ = some (.int .u64 (o : Nat)) ∧
      (wordsV (mix (wsumTo row ps L (j + 1)) (wsumTo row ps L j) k)).set k (.int .u64 (bits .xor .u64 (o : Nat) (Gf.moved f x 8 : Nat))) = wordsV (mix (wsumTo row ps L (j + 1)) (wsumTo row ps L j) (k + 1)) := by
  have hlj := hl j hlt
  have l0 : (wsumTo row ps L j).length = L := wsumTo_length row ps L hl _ (by omega)
  have l1 : (wsumTo row ps L (j + 1)).length = L := wsumTo_length row ps L hl _ (by omega)
  have le : (wsumTo row ps L (j + 1)).length = (wsumTo row ps L j).length := by omega
  rcases hx with h | ⟨b, off, rfl, hblt, hc⟩
  · rw [h] at hlj; simp at hlj; omega
  · refine ⟨(wsumTo row ps L j)[k]'(by omega), ps[j][k]'(by omega), b, off, rfl, (hb2 j hlt).at k _, ?_, ?_, ?_⟩
    · rw [hbq.cell (p := ⟨b, off + k, none⟩) hblt]; exact hc k (by omega)
    · refine hb.cell_some ?_
      simp [wordsV, mix_at le (show k < (wsumTo row ps L j).length by omega)]
    · rw [← hf, u64_xor_nat _ _ ((wsumTo_words row ps L j).at k _) (Gf.moved_lt _ _ _), ← wsumTo_next row ps L j k hlt (by omega) (by omega) (by omega) (by omega), wordsV_set, mix_set le (by omega)]

set_option maxRecDepth 100000 in
set_option maxHeartbeats 1000000 in
theorem sumOfWords_any (row : List Nat) (ps : List (List Nat)) (L : Nat) (rv pv : Value) (w : World) (ht : Table w) (hr : BsAt w rv row) (hp : WRowsAt w pv ps)
    (hne : 0 < ps.length) (hn : ps.length ≤ 100) (hl : ∀ j, (h : j < ps.length) → ps[j].length = L) (hrow : ps.length ≤ row.length) (hb1 : Bytes row) (hb2 : ∀ j, (h : j < ps.length) → Words ps[j]) (hL : L ≤ 1000) :
    Calls Tryz.prog 96 #[rv, pv] w fun e w' => ∃ b, w.heap.size ≤ b ∧ e = .returned (.slice (some ⟨b, 0, none⟩) L L) ∧ Blk w' b 149 (wordsV (wsumTo row ps L ps.length)) ∧ Below w.heap.size w w' := by
  obtain ⟨rb, roff, rcap, rfl, hrlt, hrc⟩ := hr.pos (by omega)
  obtain ⟨pb, poff, pcap, rfl, hplt, hpc⟩ := hp.pos hne
  obtain ⟨u0, hu0, ao0, cap0, rfl, hx0⟩ := hpc 0 hne
  rw [hl 0 hne, Nat.add_zero] at hu0
  have hmk := fun w => make_words L (by omega) w
  have HPC : Hid (∀ k, (h : k < ps.length) → ∃ u, w.cell? ⟨pb, poff + k, none⟩ = some u ∧ WsAt w u ps[k]) := hpc
  have HRC : Hid (∀ k, (h : k < row.length) → w.cell? ⟨rb, roff + k, none⟩ = some (.int .u8 (row[k] : Nat))) := hrc
  have HL : Hid (∀ j, (h : j < ps.length) → ps[j].length = L) := hl
  clear hpc hrc hl hx0
  go_enter Tryz.func96, Tryz.ntmps96
  go_wp2
  clear hu0
  go_loopw [18] (fun i wr => ∃ j : Nat, j ≤ ps.length ∧ i = .int .i64 j ∧ Blk wr w.heap.size 149 (wordsV (wsumTo row ps L j)) ∧ Below w.heap.size w wr) (fun i _ => ps.length - (intOf i).toNat)
  case atStart => exact ⟨0, Nat.zero_le _, rfl, made_words w L, (Below.refl _ _).alloc (Nat.le_refl _) _⟩
  case round =>
    obtain ⟨j, hj, rfl, hb, hbel⟩ := hrel
    by_cases hlt : j < ps.length
    · obtain ⟨u, hu, hbs⟩ := HPC.out j hlt
      have hrj := HRC.out j (by omega)
      have hbs' := hbs
      obtain ⟨ao, cap, rfl, hx⟩ := hbs'
      rw [HL.out j hlt] at hu
      rw [← hbel.cell (p := ⟨pb, poff + j, none⟩) hplt] at hu
      rw [← hbel.cell (p := ⟨rb, roff + j, none⟩) hrlt] at hrj
      have hf : row[j] < 256 := hb1.at j (by omega)
      generalize hfe : row[j] = f at hrj hf
      have HFE : Hid (row[j] = f) := hfe
      have HX : Hid (ps[j] = [] ∨ ∃ b off, ao = some ⟨b, off, none⟩ ∧ b < w.heap.size ∧ ∀ k, (h : k < ps[j].length) → w.cell? ⟨b, off + k, none⟩ = some (.int .u64 (ps[j][k] : Nat))) := hx
      have HB : Hid (Blk wr w.heap.size 149 (wordsV (wsumTo row ps L j))) := hb
      clear hfe hx hbs hb
      go_wp2_with fail
      refine (planeMoves_any f hf _ (table_to ht hbel)).mono ?_
      rintro e w1 ⟨rfl, hw1⟩
      have HS : Hid ((Tryz.prog.info? 158).map (·.size) = some (wordsV (movesOf f)).toArray.size) := by show _ = _; rw [infoMoves]; simp [movesOf]
      go_wp2_with (refine wpList_store_row rfl 158 _ _ rfl w1.heap.size _ rfl rfl 158 _ (heap_alloc_new w1 _) HS.out (by simp [movesOf]) (wordsV_one _) ?_)
      have hsz1 := hbel.size
      have hsz2 := hw1.size
      have hS := HB.out.lt
      go_loopw [30] (fun i wq => ∃ k : Nat, k ≤ L ∧ i = .int .i64 k ∧ Blk wq w.heap.size 149 (wordsV (mix (wsumTo row ps L (j + 1)) (wsumTo row ps L j) k)) ∧ Blk wq w1.heap.size 158 (wordsV (movesOf f)) ∧ Below w.heap.size w wq) (fun i _ => L - (intOf i).toNat)
      case atStart =>
        refine ⟨0, Nat.zero_le _, rfl, ?_, ?_, ?_⟩
        · rw [mix_zero]; exact ((HB.out.to hw1).alloc _).row_other (by omega) _
        · exact (Blk.new w1 _ _).row _
        · exact below_row (((hbel.trans (hw1.mono hsz1))).alloc (by omega) _) (by omega) _
      case round =>
        obtain ⟨k, hk, rfl, hb, hT, hbq⟩ := hrel
        by_cases hklt : k < L
        · obtain ⟨o, x, b, off, rfl, hxb, hcx, hcs, hset⟩ := wround_facts row ps L j k f w wr w.heap.size ao hlt hrow HL.out hb1 hb2 HFE.out HX.out hklt hbq hb
          have hfs := hb.free k
          have HXB : Hid (x < 18446744073709551616) := hxb
          clear hxb
          have HSET : Hid _ := hset
          have HBQ : Hid _ := hb
          have HTQ : Hid _ := hT
          have hSlt := hb.lt
          have hTlt := hT.lt
          have hne : w1.heap.size ≠ w.heap.size := by omega
          have hr0 : wr.drew.rangeAt w1.heap.size 0 (wordsV (movesOf f)) := range_blk hT
          have hsz : (Tryz.prog.info? 158).map (·.size) = some (wordsV (movesOf f)).length := by rw [infoMoves]; simp [movesOf]
          have HR0 : Hid _ := hr0
          have HSZ : Hid _ := hsz
          clear hset hb hT hu hrj HX hr0 hsz
          go_wp2_with fail
          refine wp_region_held (S := fun wx => wx.rangeAt w1.heap.size 0 (wordsV (movesOf f))) rfl ?_
          refine wpAnyH_take (i := 0) (v := .slice (some ⟨w.heap.size, 0, none⟩) L L) rfl (by kernel_rfl) (by kernel_rfl) (by kernel_rfl) (fun _ _ _ h => h) (Or.inl ⟨by rfl, fun w _ => by go_simp⟩) HR0.out ?_
          refine wpAnyH_take (i := 1) (v := .int .i64 k) rfl (by kernel_rfl) (by kernel_rfl) (by kernel_rfl) (fun _ _ _ h => h) (Or.inl ⟨by rfl, fun w _ => by go_simp⟩) HR0.out ?_
          refine wpAnyH_take (i := 4) (v := .agg (wordsV (movesOf f)).toArray) rfl (by kernel_rfl) (by kernel_rfl) (by kernel_rfl) (fun _ _ _ h => h) (yieldsIf_load_mid (by rfl) _ _ rfl _ _ rfl _ _ (fun w h => h) Tryz.underlying158 rfl HSZ.out) HR0.out ?_
          refine wpAnyH_take (i := 2) (v := .pointer (some ⟨w.heap.size, k, none⟩)) rfl (by kernel_rfl) (by kernel_rfl) (by kernel_rfl) (fun _ _ _ h => h) (Or.inl ⟨by rfl, fun w _ => by go_simp⟩) HR0.out ?_
          refine wpAnyH_take (i := 5) (v := .int .u64 x) rfl (by kernel_rfl) (by kernel_rfl) (by kernel_rfl) (fun _ _ _ h => h) (Or.inl ⟨by rfl, fun w _ => by go_simp⟩) HR0.out ?_
          simp only [Act.put, List.setIfInBounds_toArray]
          refine wpAnyH_ready (rs := [3, 6]) (by kernel_rfl) (by simp) ?_
          refine AllReadyH.cons rfl (fun K hK => ?_) (AllReadyH.cons rfl (fun K hK => ?_) AllReadyH.nil)
          · go_simp
            refine hK.out _ _ HR0.out (fun _ => ?_)
            clear hK K
            refine wpAnyH_ready (rs := [6]) (by kernel_rfl) (by simp) ?_
            refine AllReadyH.cons rfl (fun K hK => ?_) AllReadyH.nil
            go_simp
            refine (movePlanes_any f x HXB.out _).mono ?_
            rintro e w2 ⟨rfl, hw2⟩
            have c3 := (hw2.cell (p := ⟨w.heap.size, k, none⟩) (by exact hSlt)).trans hcs
            have f3 := (hw2.frozen (p := ⟨w.heap.size, k, none⟩) (by exact hSlt)).trans hfs
            have HR2 : Hid _ := range_to HR0.out hw2 hTlt
            dsimp only
            refine hK.out _ _ HR2.out (fun _ => ?_)
            clear hK K
            refine wpAnyH_take (i := 7) (v := .int .u64 (bits .xor .u64 (o : Nat) (Gf.moved f x 8 : Nat))) rfl (by kernel_rfl) (by kernel_rfl) (by kernel_rfl) (fun _ _ _ h => h) (Or.inl ⟨by rfl, fun w _ => by go_simp⟩) HR2.out ?_
            refine wpAnyH_take (i := 8) (v := .pointer (some ⟨w.heap.size, k, none⟩)) rfl (by kernel_rfl) (by kernel_rfl) (by kernel_rfl) (fun _ _ _ h => h) (Or.inl ⟨by rfl, fun w _ => by go_simp⟩) HR2.out ?_
            simp only [Act.put, List.setIfInBounds_toArray]
            refine wpAnyH_ready (rs := [9]) (by kernel_rfl) (by simp) ?_
            refine AllReadyH.cons rfl (fun K hK => ?_) AllReadyH.nil
            go_simp
            refine hK.out _ _ (range_set HR2.out hne _) (fun _ => ?_)
            clear hK K
            refine wpAnyH_done (by kernel_rfl) ?_ _
            go_wp2
            go_roundw
            case rel =>
              refine ⟨k + 1, by omega, by go_num, ?_, ?_, ?_⟩
              · exact ((Blk.below (w := wr.drew) HBQ.out hw2 (by exact hSlt)).set k _).eq HSET.out
              · exact (Blk.below (w := wr.drew) HTQ.out hw2 (by exact hTlt)).other hne _
              · exact (hbq.drew.trans (hw2.mono (by show _ ≤ wr.heap.size; omega))).setCell (Nat.le_refl _) _
            case measure => simp [intOf]; omega
          · go_simp
            refine (movePlanes_any f x HXB.out _).mono ?_
            rintro e w2 ⟨rfl, hw2⟩
            have c3 := (hw2.cell (p := ⟨w.heap.size, k, none⟩) (by exact hSlt)).trans hcs
            have f3 := (hw2.frozen (p := ⟨w.heap.size, k, none⟩) (by exact hSlt)).trans hfs
            have HR2 : Hid _ := range_to HR0.out hw2 hTlt
            dsimp only
            refine hK.out _ _ HR2.out (fun _ => ?_)
            clear hK K
            refine wpAnyH_ready (rs := [3]) (by kernel_rfl) (by simp) ?_
            refine AllReadyH.cons rfl (fun K hK => ?_) AllReadyH.nil
            go_simp
            refine hK.out _ _ HR2.out (fun _ => ?_)
            clear hK K
            refine wpAnyH_take (i := 7) (v := .int .u64 (bits .xor .u64 (o : Nat) (Gf.moved f x 8 : Nat))) rfl (by kernel_rfl) (by kernel_rfl) (by kernel_rfl) (fun _ _ _ h => h) (Or.inl ⟨by rfl, fun w _ => by go_simp⟩) HR2.out ?_
            refine wpAnyH_take (i := 8) (v := .pointer (some ⟨w.heap.size, k, none⟩)) rfl (by kernel_rfl) (by kernel_rfl) (by kernel_rfl) (fun _ _ _ h => h) (Or.inl ⟨by rfl, fun w _ => by go_simp⟩) HR2.out ?_
            simp only [Act.put, List.setIfInBounds_toArray]
            refine wpAnyH_ready (rs := [9]) (by kernel_rfl) (by simp) ?_
            refine AllReadyH.cons rfl (fun K hK => ?_) AllReadyH.nil
            go_simp
            refine hK.out _ _ (range_set HR2.out hne _) (fun _ => ?_)
            clear hK K
            refine wpAnyH_done (by kernel_rfl) ?_ _
            go_wp2
            go_roundw
            case rel =>
              refine ⟨k + 1, by omega, by go_num, ?_, ?_, ?_⟩
              · exact ((Blk.below (w := wr.drew) HBQ.out hw2 (by exact hSlt)).set k _).eq HSET.out
              · exact (Blk.below (w := wr.drew) HTQ.out hw2 (by exact hTlt)).other hne _
              · exact (hbq.drew.trans (hw2.mono (by show _ ≤ wr.heap.size; omega))).setCell (Nat.le_refl _) _
            case measure => simp [intOf]; omega
        · obtain rfl : k = L := by omega
          go_wp2
          go_roundw
          case rel =>
            refine ⟨j + 1, by omega, by go_num, ?_, hbq⟩
            refine hb.eq ?_
            have l0 : (wsumTo row ps k j).length = k := wsumTo_length row ps k HL.out _ (by omega)
            have l1 : (wsumTo row ps k (j + 1)).length = k := wsumTo_length row ps k HL.out _ (by omega)
            have e := mix_all (show (wsumTo row ps k (j + 1)).length = (wsumTo row ps k j).length by omega)
            rw [l0] at e
            rw [e]
          case measure => simp [intOf]; omega
    · obtain rfl : j = ps.length := by omega
      go_wp2
      go_ret
      exact ⟨w.heap.size, Nat.le_refl _, rfl, hb, hbel⟩
end Go.Proofs.YtokmllopbfmadaaGreatDoor.Planes

namespace Go.Proofs.YtokmllopbfmadaaGreatDoor.Planes
open Go.RowKit Mem FieldWalks Tab ByTab
open Gf (Bytes sumTo addTo)

theorem infoWSlice : (Tryz.prog.info? 144).map (fun i => (i.zero, i.size, i.bytes)) = some (some (.slice none 0 0), 1, 24) := by kernel_rfl
theorem make_wrows (n : Nat) (hn : n ≤ 100000) (w : World) :
    (Instr.makeSlice 143 (.int .i64 (n : Int)) (.int .i64 (n : Int))).run Tryz.prog w = .ok (.slice (some ⟨w.heap.size, 0, none⟩) n n) (w.alloc (.cells (madeCells #[.slice none 0 0] n) 144)) :=
  run_make_row' 143 144 (.slice none 0 0) 24 Tryz.underlying143 infoWSlice rfl .i64 .i64 n (by omega) (by omega) w
theorem made_wrows (w : World) (n : Nat) (f : Nat → List Nat) : FilledW (w.alloc (.cells (madeCells #[.slice none 0 0] n) 144)) w.heap.size n 0 f :=
  FilledW.zero ((Blk.new w _ _).eq (toList_madeCells_one _ n)) (by simp) f

/-- The words of all pieces. -/
def wordRows (ps : List (List Nat)) (n : Nat) : List (List Nat) := ps.map fun p => wordsOf p n
theorem wordsOf_words (p : List Nat) (n : Nat) : Words (wordsOf p n) := by
  intro x hx
  simp only [wordsOf, List.mem_map] at hx
  obtain ⟨i, _, rfl⟩ := hx
  unfold wordAt Gf.planes
  exact Gf.bitsOf_lt 64 _
theorem wordsOf_zero (L n : Nat) : wordsOf (List.replicate L 0) n = List.replicate n 0 := by
  apply List.ext_getElem
  · simp [wordsOf]
  · intro i h1 h2
    simp only [wordsOf, List.getElem_map, List.getElem_range, List.getElem_replicate]
    unfold wordAt Gf.planes
    refine (Gf.eq_bitsOf (n := 64) (Nat.two_pow_pos 64) fun j _ => ?_).symm
    have : (List.replicate L 0).getD (8 * i + j % 8) 0 = 0 := by
      by_cases h : 8 * i + j % 8 < L
      · simp [h]
      · simp [List.getElem?_eq_none (show (List.replicate L 0).length ≤ 8 * i + j % 8 by simp; omega)]
    show Nat.testBit 0 j = ((List.replicate L 0).getD (8 * i + j % 8) 0).testBit (j / 8)
    rw [this]; simp
theorem addTo_getD (f : Nat) (hf : f < 256) (acc p : List Nat) (h : p.length = acc.length) (q : Nat) : (addTo f acc p).getD q 0 = acc.getD q 0 ^^^ Gf.times f (p.getD q 0) := by
  by_cases hq : q < acc.length
  · have h1 : q < (addTo f acc p).length := by rw [Gf.addTo_length h]; exact hq
    have e1 : (addTo f acc p).getD q 0 = (addTo f acc p)[q] := by simp [h1]
    have e2 : acc.getD q 0 = acc[q] := by simp [hq]
    have e3 : p.getD q 0 = p[q]'(by omega) := by simp [show q < p.length by omega]
    rw [e1, e2, e3]; simp [addTo]
  · have e1 : (addTo f acc p).getD q 0 = 0 := by simp [List.getElem?_eq_none (show (addTo f acc p).length ≤ q by rw [Gf.addTo_length h]; omega)]
    have e2 : acc.getD q 0 = 0 := by simp [List.getElem?_eq_none (show acc.length ≤ q by omega)]
    have e3 : p.getD q 0 = 0 := by simp [List.getElem?_eq_none (show p.length ≤ q by omega)]
    rw [e1, e2, e3, Gf.times_zero f hf]; rfl
theorem bytes_getD {p : List Nat} (h : Bytes p) (q : Nat) : p.getD q 0 < 256 := h.getD q
/-- ████ The sums of the words are the words of the sums. ████ -/
theorem wsumTo_words_of (row : List Nat) (ps : List (List Nat)) (L n : Nat) (hr : Bytes row) (hl : ∀ j, (h : j < ps.length) → ps[j].length = L) (hb : ∀ j, (h : j < ps.length) → Bytes ps[j]) :
    ∀ j, j ≤ ps.length → wsumTo row (wordRows ps n) n j = wordsOf (sumTo row ps L j) n
  | 0, _ => by rw [wsumTo, sumTo, wordsOf_zero]
  | j + 1, h => by
    have hj : j < ps.length := by omega
    have ih := wsumTo_words_of row ps L n hr hl hb j (by omega)
    have e1 : (wordRows ps n).getD j [] = wordsOf ps[j] n := by simp [wordRows, hj]
    have e2 : ps.getD j [] = ps[j] := by simp [hj]
    have hs : (sumTo row ps L j).length = L := Gf.sumTo_length row ps L hl j (by omega)
    rw [wsumTo, sumTo, ih, e1, e2, waddTo]
    apply List.ext_getElem
    · simp [wordsOf]
    · intro i h1 h2
      simp only [List.getElem_zipWith, wordsOf, List.getElem_map, List.getElem_range]
      have hf := hr.getD j
      generalize row.getD j 0 = f at hf ⊢
      have em := Gf.moved_planes f hf (fun q => ps[j].getD (8 * i + q) 0) (fun q => (hb j hj).getD _)
      show wordAt _ i ^^^ Gf.moved f (wordAt ps[j] i) 8 = _
      unfold wordAt
      rw [em, Gf.planes_xor]
      congr 1
      funext q
      rw [addTo_getD f hf _ _ (by rw [hl j hj, hs])]

theorem bytes_back (row : List Nat) (ps : List (List Nat)) (L n : Nat) (hr : Bytes row) (hl : ∀ j, (h : j < ps.length) → ps[j].length = L) (hb : ∀ j, (h : j < ps.length) → Bytes ps[j]) (hn : L ≤ 8 * n) :
    bytesOf (wsumTo row (wordRows ps n) n (wordRows ps n).length) L = sumTo row ps L ps.length := by
  have e : (wordRows ps n).length = ps.length := by simp [wordRows]
  have hs : (sumTo row ps L ps.length).length = L := Gf.sumTo_length row ps L hl _ (Nat.le_refl _)
  rw [e, wsumTo_words_of row ps L n hr hl hb _ (Nat.le_refl _)]
  have := bytesOf_words (sumTo row ps L ps.length) n (Gf.sumTo_bytes row ps L hr _) (by omega)
  rw [hs] at this
  exact this

set_option maxRecDepth 100000 in
set_option maxHeartbeats 2000000 in
theorem sumsByPlanes_any (rows ps : List (List Nat)) (L : Nat) (rv pv : Value) (w : World) (ht : Table w) (hr : RowsAt w rv rows) (hp : RowsAt w pv ps) (hfit : Fit rows ps L) :
    Calls Tryz.prog 86 #[rv, pv] w fun e w' => ∃ v, e = .returned v ∧ RowsC w' v (sums rows ps L) ∧ Below w.heap.size w w' := by
  obtain ⟨pb, poff, pcap, rfl, hplt, hpc⟩ := hp.pos hfit.some
  obtain ⟨rao, rcap, rfl, hrc⟩ := hr
  obtain ⟨n, hn⟩ : ∃ n, n = (L + 7) / 8 := ⟨_, rfl⟩
  have hmk := fun w => make_wrows ps.length (by have := hfit.few; omega) w
  have hmr := fun w => make_rows rows.length (by have := hfit.less; omega) w
  have hfew := hfit.few
  have hless := hfit.less
  have HN : Hid (n = (L + 7) / 8) := hn
  have HPC : Hid (∀ k, (h : k < ps.length) → ∃ u, w.cell? ⟨pb, poff + k, none⟩ = some u ∧ BsAt w u ps[k]) := hpc
  have HRC : Hid (rows = [] ∨ ∃ b off, rao = some ⟨b, off, none⟩ ∧ b < w.heap.size ∧ ∀ k, (h : k < rows.length) → ∃ u, w.cell? ⟨b, off + k, none⟩ = some u ∧ BsAt w u rows[k]) := hrc
  clear hpc hrc hp hn
  go_enter Tryz.func86, Tryz.ntmps86
  go_wp2
  go_loopw [16] (fun i wr => ∃ k : Nat, k ≤ ps.length ∧ i = .int .i64 k ∧ FilledW wr w.heap.size ps.length k (fun k => wordsOf (ps.getD k []) n) ∧ Below w.heap.size w wr) (fun i _ => ps.length - (intOf i).toNat)
  case atStart => exact ⟨0, Nat.zero_le _, rfl, made_wrows w _ _, (Below.refl _ _).alloc (Nat.le_refl _) _⟩
  case round =>
    obtain ⟨k, hk, rfl, hfl, hbel⟩ := hrel
    by_cases hlt : k < ps.length
    · obtain ⟨u, hu, hbs⟩ := HPC.out k hlt
      rw [← hbel.cell (p := ⟨pb, poff + k, none⟩) hplt] at hu
      have hbs1 := hbs.to hbel
      have hlen := hfit.len k hlt
      have hby := hfit.pbytes k hlt
      have e1 : ps.getD k [] = ps[k] := by simp [hlt]
      have E1 : Hid (ps.getD k [] = ps[k]) := e1
      have hLs := hfit.short
      have HLEN : Hid (ps[k].length = L) := hlen
      clear hbs e1 hlen
      go_wp2_with fail
      refine (toPlanes_any ps[k] _ _ hbs1 hby (by rw [HLEN.out]; exact hLs)).mono ?_
      rintro e w2 ⟨c, hc, rfl, hblk, hw2⟩
      rw [HLEN.out, ← HN.out] at hblk
      rw [HLEN.out, ← HN.out]
      have hfl2 := hfl.to hw2
      obtain ⟨⟨v0, hv0⟩, hfr⟩ := hfl2.cell hlt
      have HF : Hid (FilledW w2 w.heap.size ps.length k (fun k => wordsOf (ps.getD k []) n)) := hfl2
      have HB : Hid (Blk w2 c 149 (wordsV (wordsOf ps[k] n))) := hblk
      clear hfl hfl2 hblk
      go_wp2
      go_roundw
      case rel =>
        refine ⟨k + 1, by omega, by go_num, ?_, ?_⟩
        · have ho : OwnW w2 (.slice (some ⟨c, 0, none⟩) n n) (wordsOf (ps.getD k []) n) := by
            rw [E1.out]
            exact ⟨c, by simp [wordsOf], HB.out⟩
          exact FilledW.step HF.out hlt ho
        · exact (hbel.trans (hw2.mono hbel.size)).setCell (Nat.le_refl _) _
      case measure => simp [intOf]; omega
    · obtain rfl : k = ps.length := by omega
      obtain ⟨wo, rfl⟩ : ∃ wo, wo = wr := ⟨_, rfl⟩
      have hwr : WRowsAt wo (.slice (some ⟨w.heap.size, 0, none⟩) ps.length ps.length) (wordRows ps n) := hfl.rows (by simp [wordRows]) (fun k hk => by
        simp only [wordRows, List.length_map] at hk
        simp [wordRows, hk])
      have HWR : Hid (WRowsAt wo (.slice (some ⟨w.heap.size, 0, none⟩) ps.length ps.length) (wordRows ps n)) := hwr
      have HBO : Hid (Below w.heap.size w wo) := hbel
      have hszo := hbel.size
      clear hfl hwr hbel
      go_wp2
      obtain ⟨u0, hu0, ao0, cap0, rfl, hx0⟩ := HPC.out 0 hfit.some
      rw [hfit.len 0 hfit.some, Nat.add_zero] at hu0
      have HU0 : Hid (w.cell? ⟨pb, poff, none⟩ = some (.slice ao0 L cap0)) := hu0
      clear hu0 hx0
      go_loopw [32] (fun i wr => ∃ k : Nat, k ≤ rows.length ∧ i = .int .i64 k ∧ Filled wr wo.heap.size rows.length k (fun k => sumTo (rows.getD k []) ps L ps.length) ∧ Below wo.heap.size wo wr) (fun i _ => rows.length - (intOf i).toNat)
      case atStart => exact ⟨0, Nat.zero_le _, rfl, made_rows wo _ _, (Below.refl _ _).alloc (Nat.le_refl _) _⟩
      case round =>
        obtain ⟨k, hk, rfl, hfl, hbel⟩ := hrel
        have hbw : Below w.heap.size w wr := HBO.out.trans (hbel.mono hszo)
        by_cases hlt : k < rows.length
        · obtain ⟨b, off, rfl, hb, hc⟩ : ∃ b off, rao = some ⟨b, off, none⟩ ∧ b < w.heap.size ∧ ∀ k, (h : k < rows.length) → ∃ u, w.cell? ⟨b, off + k, none⟩ = some u ∧ BsAt w u rows[k] := by
            rcases HRC.out with h | h
            · rw [h] at hlt; simp at hlt
            · exact h
          obtain ⟨u, hu, hbs⟩ := hc k hlt
          rw [← hbw.cell (p := ⟨b, off + k, none⟩) hb] at hu
          have hp0 := HU0.out
          rw [← hbw.cell (p := ⟨pb, poff, none⟩) hplt] at hp0
          have HBS : Hid (BsAt wr u rows[k]) := hbs.to hbw
          have HWQ : Hid (WRowsAt wr (.slice (some ⟨w.heap.size, 0, none⟩) ps.length ps.length) (wordRows ps n)) := HWR.out.to hbel
          have HT : Hid (Table wr) := table_to ht hbw
          have e1 : rows.getD k [] = rows[k] := by simp [hlt]
          have E1 : Hid (rows.getD k [] = rows[k]) := e1
          have hwl : (wordRows ps n).length = ps.length := by simp [wordRows]
          have HWL : Hid ((wordRows ps n).length = ps.length) := hwl
          have HFL : Hid (Filled wr wo.heap.size rows.length k (fun k => sumTo (rows.getD k []) ps L ps.length)) := hfl
          have hBlt := hfl.lt
          have hplt2 : pb < wr.heap.size := Nat.lt_of_lt_of_le hplt hbw.size
          have hn8 : L ≤ 8 * n := by have := HN.out; omega
          have hnL : n ≤ 1000 := by have := HN.out; have := hfit.short; omega
          have hsh := hfit.short
          have hps : (0 : Int) < (ps.length : Int) := by have := hfit.some; omega
          have HWSL : Hid ((wsumTo rows[k] (wordRows ps n) n (wordRows ps n).length).length = n) := wsumTo_length _ _ _ (fun j hj => by simp [wordRows, wordsOf]) _ (Nat.le_refl _)
          obtain ⟨hcel, hfro⟩ := hfl.cell hlt
          obtain ⟨v0, hv0⟩ := hcel
          clear hc hbs e1 hwl hfl
          go_wp2_with fail
          go_region_with (first | (go_at_call 96; refine (sumOfWords_any rows[k] (wordRows ps n) n _ _ _ (by exact HT.out) (by exact HBS.out) (by rw [← HWL.out]; rw [HWL.out]; exact HWQ.out) (by rw [HWL.out]; exact hfit.some) (by rw [HWL.out]; exact hfit.few) (fun j hj => by simp [wordRows, wordsOf]) (by rw [HWL.out]; exact Nat.le_of_eq (hfit.wide k hlt).symm) (hfit.rbytes k hlt) (fun j hj => by simp only [wordRows, List.getElem_map]; exact wordsOf_words _ _) hnL).mono ?_; rintro e w2 ⟨c, hc2, rfl, hblk2, hw2⟩; have p2 := (hw2.cell (p := ⟨pb, poff, none⟩) (by exact hplt2)).trans hp0; have v2 := (hw2.cell (p := ⟨wo.heap.size, k, none⟩) (by exact hBlt)).trans hv0; have f2 := (hw2.frozen (p := ⟨wo.heap.size, k, none⟩) (by exact hBlt)).trans hfro) | (go_at_call 95; refine (fromPlanes_any (wsumTo rows[k] (wordRows ps n) n (wordRows ps n).length) n L c _ (by exact hblk2) HWSL.out hn8 hsh (wsumTo_words _ _ _ _)).mono ?_; rintro e w3 ⟨c3, hc3, rfl, hblk3, hw3⟩; have hB2 : wo.heap.size < w2.heap.size := Nat.lt_of_lt_of_le hBlt hw2.size; have v3 := (hw3.cell (p := ⟨wo.heap.size, k, none⟩) (by exact hB2)).trans v2; have f3 := (hw3.frozen (p := ⟨wo.heap.size, k, none⟩) (by exact hB2)).trans f2))
          all_goals
            have hw03 : Below wr.heap.size wr w3 := Below.trans (b := w2) (show Below wr.heap.size wr w2 from ⟨hw2.os, hw2.tape, hw2.output, hw2.size, hw2.block⟩) (hw3.mono hw2.size)
            have R := HFL.out.to hw03
            have hbe := bytes_back rows[k] ps L n (hfit.rbytes k hlt) hfit.len hfit.pbytes hn8
            rw [hbe] at hblk3
            have ho : OwnAt w3 (.slice (some ⟨c3, 0, none⟩) L L) (sumTo (rows.getD k []) ps L ps.length) := by
              rw [E1.out]
              exact ⟨c3, by rw [Gf.sumTo_length _ _ _ hfit.len _ (Nat.le_refl _)], hblk3⟩
            have R2 := R.step hlt ho
            have HR2 : Hid (Filled (w3.setCell ⟨wo.heap.size, k, none⟩ (.slice (some ⟨c3, 0, none⟩) L L)) wo.heap.size rows.length (k + 1) (fun k => sumTo (rows.getD k []) ps L ps.length)) := R2
            have HB3 : Hid (Below wo.heap.size wo w3) := hbel.trans (hw03.mono hbel.size)
            clear R R2 ho hbe hblk3 hw03
            go_wp2
            go_roundw
            case rel => exact ⟨k + 1, by omega, by go_num, HR2.out, HB3.out.setCell (Nat.le_refl _) _⟩
            case measure => simp [intOf]; omega
        · obtain rfl : k = rows.length := by omega
          go_wp2
          go_ret
          refine ⟨_, rfl, hfl.rowsC (by simp [sums]) (fun k hk => ?_), hbw⟩
          simp only [sums, List.length_map] at hk
          simp [sums, hk]
end Go.Proofs.YtokmllopbfmadaaGreatDoor.Planes
