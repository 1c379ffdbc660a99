import Derived.Test.YtlnpppdffhibjaaDoorAllGathersCard1
import Derived.Shelf.Bytes.SlJoin
import Derived.Test.YtlnpppdffhibjaaDoorGatherOk
import Derived.OwnWalk
import Derived.Test.YtlnpppdffhibjaaDoorByPlan
import Derived.OpenShut
import Derived.Deep.Strs
import Derived.ChangeSlices
import Derived.SizedLaws
import Derived.Carry
import Derived.Test.YtlnpppdffhibjaaDoorCards
import Derived.Test.YtlnpppdffhibjaaDoorTie
import Derived.Deep.DeepHandedRow
import Derived.Lib.LaidTab
import Derived.LaidMore
import Derived.ChangeMaps5
namespace Go.Proofs.YtlnpppdffhibjaaDoor.Ref
open Go.RowKit Mem FieldWalks Tab ByTab Parts
open Gf (Bytes chosen left_ rowOf enough Wide)
open Plans (But rowF intsV infoInt)

/-- The value u reads as these bytes, and does not lie in the block B. -/
def BsNe (w : World) (B : Nat) (Q : Prop) (u : Value) (l : List Nat) : Prop := ∃ ao c, u = .slice ao l.length c ∧ (Q → l.length ≤ c) ∧ (l = [] ∨ ∃ b off, ao = some ⟨b, off, none⟩ ∧ b ≠ B ∧ b < w.heap.size ∧ ∀ k, (h : k < l.length) → w.cell? ⟨b, off + k, none⟩ = some (.int .u8 (l[k] : Nat)))
theorem BsNe.to {w w' : World} {B : Nat} {Q : Prop} {u : Value} {l : List Nat} (h : BsNe w B Q u l) (hb : Below w.heap.size w w') : BsNe w' B Q u l := by
  obtain ⟨ao, c, rfl, hq, h⟩ := h
  refine ⟨ao, c, rfl, hq, ?_⟩
  rcases h with h | ⟨b, off, rfl, h1, h2, h3⟩
  · exact .inl h
  · exact .inr ⟨b, off, rfl, h1, Nat.lt_of_lt_of_le h2 hb.size, fun k hk => by rw [hb.cell (p := ⟨b, off + k, none⟩) h2]; exact h3 k hk⟩
theorem BsNe.set {w : World} {B : Nat} {Q : Prop} {u : Value} {l : List Nat} (h : BsNe w B Q u l) (i : Nat) (v : Value) : BsNe (w.setCell ⟨B, i, none⟩ v) B Q u l := by
  obtain ⟨ao, c, rfl, hq, h⟩ := h
  refine ⟨ao, c, rfl, hq, ?_⟩
  rcases h with h | ⟨b, off, rfl, h1, h2, h3⟩
  · exact .inl h
  · exact .inr ⟨b, off, rfl, h1, by rw [size_setCell]; exact h2, fun k hk => by rw [World.cell?_setCell_other _ _ _ _ (by intro h; injection h; omega)]; exact h3 k hk⟩
theorem BsNe.bs {w : World} {B : Nat} {Q : Prop} {u : Value} {l : List Nat} (h : BsNe w B Q u l) : BsAt w u l := by
  obtain ⟨ao, c, rfl, hq, h⟩ := h
  refine ⟨ao, c, rfl, ?_⟩
  rcases h with h | ⟨b, off, rfl, h1, h2, h3⟩
  · exact .inl h
  · exact .inr ⟨b, off, rfl, h2, h3⟩
theorem BsNe.bsC {w : World} {B : Nat} {u : Value} {l : List Nat} (h : BsNe w B True u l) : BsC w u l := by
  obtain ⟨ao, c, rfl, hq, h⟩ := h
  have := hq trivial
  refine ⟨ao, c - l.length, by congr 1; omega, ?_⟩
  rcases h with h | ⟨b, off, rfl, h1, h2, h3⟩
  · exact .inl h
  · exact .inr ⟨b, off, rfl, h2, h3⟩
theorem BsC.ne {w : World} {B : Nat} {u : Value} {l : List Nat} (h : BsC w u l) (hB : w.heap.size ≤ B) : BsNe w B True u l := by
  obtain ⟨ao, ex, rfl, h⟩ := h
  refine ⟨ao, _, rfl, fun _ => by omega, ?_⟩
  rcases h with h | ⟨b, off, rfl, h2, h3⟩
  · exact .inl h
  · exact .inr ⟨b, off, rfl, by omega, h2, h3⟩
/-- The first r rows of the list at B are there; the rest are none yet. -/
def Fill9 (w : World) (B n r : Nat) (Q : Prop) (rows : Nat → List Nat) : Prop := ∃ us : List Value, us.length = n ∧ Blk w B 93 us ∧ ∀ k, k < r → ∃ u, us[k]? = some u ∧ BsNe w B Q u (rows k)
section
variable {w w' : World} {B n r : Nat} {Q : Prop} {rows : Nat → List Nat}
theorem Fill9.start {us : List Value} (h : Blk w B 93 us) (hl : us.length = n) (Q : Prop) (rows : Nat → List Nat) : Fill9 w B n 0 Q rows := ⟨us, hl, h, fun k hk => by omega⟩
theorem Fill9.to (h : Fill9 w B n r Q rows) (hb : Below w.heap.size w w') : Fill9 w' B n r Q rows := by
  obtain ⟨us, h1, h2, h3⟩ := h
  refine ⟨us, h1, h2.to hb, fun k hk => ?_⟩
  obtain ⟨u, h4, h5⟩ := h3 k hk
  exact ⟨u, h4, h5.to hb⟩
theorem Fill9.cell (h : Fill9 w B n r Q rows) (k : Nat) (hk : k < n) : (∃ v, w.cell? ⟨B, k, none⟩ = some v) ∧ w.frozen? ⟨B, k, none⟩ = false ∧ B < w.heap.size := by
  obtain ⟨us, h1, h2, h3⟩ := h
  exact ⟨⟨us[k]'(by omega), h2.cell_some (by simp [show k < us.length by omega])⟩, h2.free k, h2.lt⟩
theorem Fill9.step {u : Value} (h : Fill9 w B n r Q rows) (hr : r < n) (hb : BsNe w B Q u (rows r)) : Fill9 (w.setCell ⟨B, r, none⟩ u) B n (r + 1) Q rows := by
  obtain ⟨us, h1, h2, h3⟩ := h
  refine ⟨us.set r u, by simpa using h1, h2.set r _, fun k hk => ?_⟩
  by_cases e : k = r
  · subst e
    exact ⟨u, by simp [show k < us.length by omega], hb.set _ _⟩
  · obtain ⟨u', h4, h5⟩ := h3 k (by omega)
    exact ⟨u', by rw [List.getElem?_set_ne (by omega)]; exact h4, h5.set _ _⟩
/-- A row that is written in new memory behind the list's store. -/
theorem Fill9.laid {W : World} {b m c : Nat} (h : Fill9 w B n r Q rows) (hr : r < n) (hl : Laid w W B r (.slice (some ⟨b, 0, none⟩) m c)) (hm : m = (rows r).length) (hq : Q → m ≤ c) (hbB : b ≠ B) (hb : Row8 W b (rows r)) : Fill9 W B n (r + 1) Q rows := by
  obtain ⟨us, h1, h2, h3⟩ := h
  subst hm
  refine ⟨us.set r _, by simpa using h1, hl.row.trans (h2.set r _), fun k hk => ?_⟩
  by_cases e : k = r
  · subst e
    exact ⟨_, by simp [show k < us.length by omega], _, c, rfl, hq, .inr ⟨b, 0, rfl, hbB, hb.lt, fun k hk => by rw [Nat.zero_add]; exact hb.cell k hk⟩⟩
  · obtain ⟨u', h4, ao', c', rfl, h7, h9⟩ := h3 k (by omega)
    refine ⟨_, by rw [List.getElem?_set_ne (by omega)]; exact h4, ao', c', rfl, h7, ?_⟩
    rcases h9 with h9 | ⟨b', off', rfl, h5, h6, h8⟩
    · exact .inl h9
    · exact .inr ⟨b', off', rfl, h5, Nat.lt_of_lt_of_le h6 hl.size, fun i hi => by rw [World.cell?_of_block (hl.rest b' h5 h6)]; exact h8 i hi⟩
end
theorem Fill9.rows {w : World} {B n : Nat} {Q : Prop} {rows : Nat → List Nat} (h : Fill9 w B n n Q rows) (ls : List (List Nat)) (hl : ls.length = n) (he : ∀ k, (h : k < ls.length) → ls[k] = rows k) : RowsAt w (.slice (some ⟨B, 0, none⟩) n n) ls := by
  obtain ⟨us, h1, h2, h3⟩ := h
  refine ⟨_, n, by rw [hl], .inr ⟨B, 0, rfl, h2.lt, fun k hk => ?_⟩⟩
  obtain ⟨u, h4, h5⟩ := h3 k (by omega)
  exact ⟨u, by rw [Nat.zero_add]; exact h2.cell_some h4, by rw [he k hk]; exact h5.bs⟩
theorem Fill9.rowsC {w : World} {B n : Nat} {rows : Nat → List Nat} (h : Fill9 w B n n True rows) (ls : List (List Nat)) (hl : ls.length = n) (he : ∀ k, (h : k < ls.length) → ls[k] = rows k) : RowsC w (.slice (some ⟨B, 0, none⟩) n n) ls := by
  obtain ⟨us, h1, h2, h3⟩ := h
  refine ⟨_, 0, by rw [hl, Nat.add_zero], .inr ⟨B, 0, rfl, h2.lt, fun k hk => ?_⟩⟩
  obtain ⟨u, h4, h5⟩ := h3 k (by omega)
  exact ⟨u, by rw [Nat.zero_add]; exact h2.cell_some h4, by rw [he k hk]; exact h5.bsC⟩

theorem unit_row (d p : Nat) (hp : p < d) : (List.replicate d 0).set p 1 = rowF d (rowOf d p) := by
  apply List.ext_getElem
  · simp
  · intro k h1 h2
    rw [List.getElem_set]
    simp only [rowF, List.getElem_map, List.getElem_range, rowOf, if_pos hp]
    by_cases e : p = k
    · rw [if_pos e, if_pos e]
    · rw [if_neg e, if_neg e]; simp
theorem spare_row (d p : Nat) (hp : ¬ p < d) : facRow d (p - d) = rowF d (rowOf d p) := by
  unfold facRow rowF
  refine List.map_congr_left fun k _ => ?_
  rw [rowOf, if_neg hp, show d + (p - d) = p by omega]

set_option maxRecDepth 100000 in
set_option maxHeartbeats 2000000 in
theorem madeBy_any (d s : Nat) (ns : List Nat) (nb : Nat) (w : World) (ht : Table w) (hd : 1 ≤ d) (hd2 : d ≤ 10) (hs : s ≤ 6) (hns : ns.length = d) (hlt : ∀ k, (h : k < ns.length) → ns[k] < d + s) (hnb : Blk w nb 3 (intsV ns)) :
    Calls Tryd.prog 91 #[.int .i64 d, .int .i64 s, .slice (some ⟨nb, 0, none⟩) d d] w fun e w' => ∃ v, e = .returned v ∧ RowsAt w' v (ns.map fun p => rowF d (rowOf d p)) ∧ Below w.heap.size w w' := by
  have HNS : Hid (ns.length = d) := hns
  have HLT : Hid (∀ k, (h : k < ns.length) → ns[k] < d + s) := hlt
  have HNB : Hid (Blk w nb 3 (intsV ns)) := hnb
  have hnbl := hnb.lt
  have hmk := fun w => make_rows d (by omega) w
  have hmb := fun w => make_bytes d (by omega) w
  clear hns hlt hnb
  go_enter Tryd.func91, Tryd.ntmps91
  go_wp2_with fail
  refine (factors_new d s (by omega) (by omega) _ ht).mono ?_
  rintro e w1 ⟨fv, rfl, hfac, hb1⟩
  have HFN : Hid (RowsNew w1 w.heap.size fv (facs d s)) := hfac
  obtain ⟨fg, fc, rfl, _⟩ := hfac
  rw [show (facs d s).length = s by simp [facs]] at HFN ⊢
  have HB1 : Hid (Below w.heap.size w w1) := hb1
  clear hb1
  go_wp2
  go_loopw [19] (fun i wr => ∃ k : Nat, k ≤ d ∧ i = .int .i64 k ∧ Fill9 wr w1.heap.size d k False (fun k => rowF d (rowOf d (ns.getD k 0))) ∧ Below w1.heap.size w1 wr) (fun i _ => d - (intOf i).toNat)
  case atStart => exact ⟨0, Nat.zero_le _, rfl, Fill9.start ((Blk.new w1 _ _).eq (toList_madeCells_one _ d)) (by simp) _ _, (Below.refl _ _).alloc (Nat.le_refl _) _⟩
  case round =>
    obtain ⟨k, hk, rfl, hfill, hbel⟩ := hrel
    by_cases hkd : k < d
    · have hkn : k < ns.length := by rw [HNS.out]; exact hkd
      have c1 := ((HNB.out.to HB1.out).to hbel).cell_some (k := k) (v := .int .i64 (ns[k] : Nat)) (by simp [intsV, hkn])
      obtain ⟨p, hp⟩ : ∃ p, p = ns[k] := ⟨_, rfl⟩
      have hpl : p < d + s := by rw [hp]; exact HLT.out k hkn
      rw [← hp] at c1
      have HP : Hid (ns.getD k 0 = p) := by show _ = _; rw [hp]; simp [hkn]
      obtain ⟨⟨ov, k1⟩, k2, k3⟩ := hfill.cell k hkd
      have HF : Hid (Fill9 wr w1.heap.size d k False (fun k => rowF d (rowOf d (ns.getD k 0)))) := hfill
      have HBL : Hid (Below w1.heap.size w1 wr) := hbel
      have hsz := hbel.size
      by_cases hpd : p < d
      · obtain ⟨W1, hW1⟩ : ∃ W1, W1 = (wr.setCell ⟨w1.heap.size, k, none⟩ (.slice (some ⟨wr.heap.size, 0, none⟩) d d)).alloc (.cells ((madeCells #[.int .u8 0] d).setIfInBounds p (.int .u8 1)) 5) := ⟨_, rfl⟩
        have HLA : Hid (Laid wr W1 w1.heap.size k (.slice (some ⟨wr.heap.size, 0, none⟩) d d)) := by rw [hW1]; exact Laid.start wr _ _ _ _ k3
        have HN1 : Hid (Blk W1 wr.heap.size 5 (bytesV (rowF d (rowOf d p)))) := by
          have := Blk.new (wr.setCell ⟨w1.heap.size, k, none⟩ (.slice (some ⟨wr.heap.size, 0, none⟩) d d)) ((madeCells #[.int .u8 0] d).setIfInBounds p (.int .u8 1)) 5
          rw [size_setCell, ← hW1] at this
          refine this.eq ?_
          rw [Array.toList_setIfInBounds, toList_madeCells_one, ← unit_row d p hpd]
          simp [bytesV, List.map_set]
        have HB2 : Hid (Below w1.heap.size w1 W1) := by
          rw [hW1]; exact (hbel.setCell (Nat.le_refl _) _).alloc (by rw [size_setCell]; exact hsz) _
        have HGW : Hid ((wr.setCell ⟨w1.heap.size, k, none⟩ (.slice (some ⟨wr.heap.size, 0, none⟩) d d)).alloc (.cells ((madeCells #[.int .u8 0] d).setIfInBounds p (.int .u8 1)) 5) = W1) := hW1.symm
        have HF2 : Hid (Fill9 W1 w1.heap.size d (k + 1) False (fun k => rowF d (rowOf d (ns.getD k 0)))) :=
          HF.out.laid hkd (b := wr.heap.size) (m := d) (c := d) HLA.out (by simp) (fun h => h.elim) (by omega) (by rw [HP.out]; exact Row8.of_blk HN1.out)
        have hN0 : Blk ((wr.setCell ⟨w1.heap.size, k, none⟩ (.slice (some ⟨wr.heap.size, 0, none⟩) d d)).alloc (.cells (madeCells #[.int .u8 0] d) 5)) wr.heap.size 5 (bytesV (List.replicate d 0)) := by
          have := made_bytes (wr.setCell ⟨w1.heap.size, k, none⟩ (.slice (some ⟨wr.heap.size, 0, none⟩) d d)) d
          rw [size_setCell] at this
          exact this
        have c2 := hN0.cell_some (k := p) (v := .int .u8 0) (by simp [bytesV, hpd])
        have f2 := hN0.free p
        clear hW1 hfill hbel hp hN0
        go_wp2
        go_roundw
        case rel => exact ⟨k + 1, by omega, by go_num, by rw [HGW.out]; exact HF2.out, by rw [HGW.out]; exact HB2.out⟩
        case measure => simp [intOf]; omega
      · obtain ⟨q, hq⟩ : ∃ q, p = d + q := ⟨p - d, by omega⟩
        have hqs : q < s := by omega
        have eq1 : (p : Int) - (d : Int) = (q : Int) := by omega
        have HPQ : Hid (p = d + q) := hq
        obtain ⟨fb, fc', hfb, hfl, gf, ge⟩ : ∃ fb fc', w.heap.size ≤ fb ∧ fb < w1.heap.size ∧ wr.cell? ⟨fg, q, none⟩ = some (.slice (some ⟨fb, 0, none⟩) d fc') ∧ ∀ j, (hj : j < (facRow d q).length) → wr.cell? ⟨fb, j, none⟩ = some (.int .u8 ((facRow d q)[j] : Nat)) := by
          obtain ⟨g', c', he, h1, h2, h3⟩ := HFN.out
          injection he with he _ _
          injection he with he
          injection he with he
          subst he
          obtain ⟨b, c'', h4, h5, h6, h7⟩ := h3 q (by simp [facs]; exact hqs)
          have hlr : (facs d s)[q]'(by simp [facs]; exact hqs) = facRow d q := by simp [facs]
          rw [hlr] at h6
          refine ⟨b, c'', h4, h5, by rw [hbel.cell (p := ⟨_, q, none⟩) h2, h6, facRow_length], fun j hj => ?_⟩
          rw [hbel.cell (p := ⟨b, j, none⟩) h5, h7 j (by rw [hlr]; exact hj)]
          simp [hlr]
        have HF2 : Hid (Fill9 (wr.setCell ⟨w1.heap.size, k, none⟩ (.slice (some ⟨fb, 0, none⟩) d fc')) w1.heap.size d (k + 1) False (fun k => rowF d (rowOf d (ns.getD k 0)))) := by
          refine HF.out.step hkd ?_
          show BsNe wr w1.heap.size False (.slice (some ⟨fb, 0, none⟩) d fc') (rowF d (rowOf d (ns.getD k 0)))
          have e2 : rowF d (rowOf d (ns.getD k 0)) = facRow d q := by
            rw [HP.out, ← spare_row d p hpd, show p - d = q by omega]
          rw [e2]
          exact ⟨_, fc', by rw [facRow_length], fun h => h.elim, .inr ⟨fb, 0, rfl, by omega, by omega, fun j hj => by rw [Nat.zero_add]; exact ge j hj⟩⟩
        clear hfill hbel hp ge hq
        go_wp2
        go_roundw
        case rel => exact ⟨k + 1, by omega, by go_num, HF2.out, HBL.out.setCell (Nat.le_refl _) _⟩
        case measure => simp [intOf]; omega
    · obtain rfl : d = k := by omega
      have HR : Hid (RowsAt wr (.slice (some ⟨w1.heap.size, 0, none⟩) d d) (ns.map fun p => rowF d (rowOf d p))) := hfill.rows _ (by simp [HNS.out]) (fun i hi => by
        have hi' : i < ns.length := by simpa using hi
        simp [hi'])
      have HB9 : Hid (Below w.heap.size w wr) := HB1.out.trans (hbel.mono HB1.out.size)
      clear hfill hbel
      go_wp2
      go_ret
      exact ⟨_, rfl, HR.out, HB9.out⟩
end Go.Proofs.YtlnpppdffhibjaaDoor.Ref

namespace Go.Proofs.YtlnpppdffhibjaaDoor.Ref
open Go.RowKit Mem FieldWalks Tab ByTab Parts
open Gf (Bytes chosen left_ rowOf enough Wide chosen_ker chosen_lt chosen_length)
open Plans (But rowF intsV infoInt)

/-- Is the number lost? -/
def gone_ (lost : List Int) (j : Nat) : Bool := decide ((j : Int) ∈ lost)
/-- The factors of the taken pieces. -/
def takenA (d s : Nat) (lost : List Int) : Nat → Nat → Nat := fun n => rowOf d ((chosen (left_ lost) d s).getD n 0)
/-- The rows that lead back to the lost data pieces. -/
def backs (d j : Nat) (lost : List Int) (M : Nat → Nat → Nat) : List (List Nat) := ((List.range j).filter (gone_ lost)).map fun j => rowF d (fun n => M j (d + n))
theorem backs_next (d j : Nat) (lost : List Int) (M : Nat → Nat → Nat) : backs d (j + 1) lost M = backs d j lost M ++ (if gone_ lost j = true then [rowF d (fun n => M j (d + n))] else []) := by
  unfold backs
  rw [filter_next, List.map_append]
  split <;> rfl

set_option maxRecDepth 100000 in
set_option maxHeartbeats 2000000 in
theorem wayBack_any (d s : Nat) (lost : List Int) (lv : Value) (nb : Nat) (w : World) (ht : Table w) (hl : IsC w lv lost) (hd : 1 ≤ d) (hd2 : d ≤ 10) (hs : s ≤ 6) (hfew : lost.length ≤ s) (hnb : Blk w nb 3 (intsV (chosen (left_ lost) d s))) :
    Calls Tryd.prog 80 #[.int .i64 d, .int .i64 s, .slice (some ⟨nb, 0, none⟩) d d, lv] w fun e w' => ∃ v M, e = .returned v ∧ Wide d d (takenA d s lost) M ∧ RowsAt w' v (backs d d lost M) ∧ Below w.heap.size w w' := by
  have hen := enough d s lost hfew
  have hcl := chosen_length (left_ lost) d s hen
  have HCL : Hid ((chosen (left_ lost) d s).length = d) := hcl
  have hlt : ∀ k, (h : k < (chosen (left_ lost) d s).length) → (chosen (left_ lost) d s)[k] < d + s := fun k h => (chosen_lt (left_ lost) d s _ (List.getElem_mem h)).1
  have HMB := madeBy_any d s (chosen (left_ lost) d s) nb w ht hd hd2 hs hcl hlt hnb
  have HMBH : Hid (Calls Tryd.prog 91 #[.int .i64 d, .int .i64 s, .slice (some ⟨nb, 0, none⟩) d d] w fun e w' => ∃ v, e = .returned v ∧ RowsAt w' v ((chosen (left_ lost) d s).map fun p => rowF d (rowOf d p)) ∧ Below w.heap.size w w') := HMB
  have HA : Hid (∀ n, n < d → ∀ k, k < d → takenA d s lost n k < 256) := fun n hn k hk => by
    have hn' : n < (chosen (left_ lost) d s).length := by omega
    have := hlt n hn'
    unfold takenA
    rw [List.getD_eq_getElem?_getD, List.getElem?_eq_getElem hn', Option.getD_some]
    exact Gf.rowOf_lt _ _ _ (by omega) (by omega)
  have HK : Hid (∀ x : Nat → Nat, (∀ k, x k < 256) → (∀ r, r < d → Gf.dot d (takenA d s lost r) x = 0) → ∀ k, k < d → x k = 0) := fun x hx h0 => by
    refine chosen_ker (left_ lost) d s (by omega) hen x hx fun p hp => ?_
    obtain ⟨n, hn, rfl⟩ := List.mem_iff_getElem.1 hp
    have := h0 n (by omega)
    unfold takenA at this
    rw [List.getD_eq_getElem?_getD, List.getElem?_eq_getElem hn, Option.getD_some] at this
    exact this
  have HRW : Hid (∀ n, (h : n < ((chosen (left_ lost) d s).map fun p => rowF d (rowOf d p)).length) → ((chosen (left_ lost) d s).map fun p => rowF d (rowOf d p))[n] = rowF d (takenA d s lost n)) := fun n hn => by
    have hn' : n < (chosen (left_ lost) d s).length := by simpa using hn
    simp [takenA, hn']
  have HL : Hid (IsC w lv lost) := hl
  have HT : Hid (Table w) := ht
  obtain ⟨i0, hi, hz0, hz1, hz2⟩ := info_parts infoRow8
  clear hen hcl hlt HMB hl ht hnb hi hz0 hz1 hz2
  go_enter Tryd.func80, Tryd.ntmps80
  go_wp2_with fail
  refine Calls.mono HMBH.out ?_
  rintro e w1 ⟨av, rfl, hrows1, hb1⟩
  have hin := inverse_any d (takenA d s lost) _ av w1 (table_to HT.out hb1) hd hd2 (by simp [HCL.out]) HRW.out hrows1 HA.out HK.out
  have HIN : Hid _ := hin
  have HB1 : Hid (Below w.heap.size w w1) := hb1
  clear hin hrows1 hb1
  go_wp2_with fail
  refine Calls.mono HIN.out ?_
  rintro e w2 ⟨bv, M, rfl, hwide, hrows2, hb2⟩
  have HWI : Hid (Wide d d (takenA d s lost) M) := hwide
  have hb02 := HB1.out.trans (hb2.mono HB1.out.size)
  obtain ⟨bb, boff, bcap, rfl, hbbl, hbc⟩ := hrows2.pos (by simp; omega)
  have HBC : Hid (∀ k, (h : k < d) → ∃ u, w2.cell? ⟨bb, boff + k, none⟩ = some u ∧ BsAt w2 u (rowF d (fun n => M k (d + n)))) := fun k hk => by
    obtain ⟨u, h1, h2⟩ := hbc k (by simpa using hk)
    exact ⟨u, h1, by simpa using h2⟩
  rw [show ((List.range d).map fun r => rowF d (fun n => M r (d + n))).length = d by simp]
  have HB02 : Hid (Below w.heap.size w w2) := hb02
  have HL2 : Hid (IsC w2 lv lost) := HL.out.to hb02
  have hlb : lost.length < 2 ^ 62 := by omega
  clear hwide hrows2 hbc hb2 hb02 HIN
  go_wp2
  go_loopw [9, 18] (fun t i wr => ∃ (j : Nat) (us : List Value), j ≤ d ∧ i = .int .i64 j ∧ wr.ownsRow w2.heap.size 93 1 t us.length us ∧ ReadAs w2 us (backs d j lost M) ∧ Below w2.heap.size w2 wr) (fun _ i _ => d - (intOf i).toNat)
  case atStart => exact ⟨0, [], Nat.zero_le _, rfl, World.ownsRow_nil _ _ _ _, ⟨rfl, fun k hk => by simp [backs] at hk⟩, Below.refl _ _⟩
  case round =>
    obtain ⟨j, us, hj, rfl, hown, hread, hbel⟩ := hrel
    by_cases hjd : j < d
    · obtain ⟨u, hu, hbs⟩ := HBC.out j hjd
      rw [← hbel.cell (p := ⟨bb, boff + j, none⟩) hbbl] at hu
      obtain ⟨ta, tc, rfl⟩ := Plans.owns_form hown
      have HIC : Hid (IsC wr lv lost) := HL2.out.to hbel
      have HO : Hid (wr.ownsRow w2.heap.size 93 1 (.slice ta us.length tc) us.length us) := hown
      have HRE : Hid (ReadAs w2 us (backs d j lost M)) := hread
      have hul : us.length ≤ 10 := by
        rw [hread.1]; unfold backs; rw [List.length_map]
        have := List.length_filter_le (gone_ lost) (List.range j)
        rw [List.length_range] at this; omega
      have hsz := hbel.size
      by_cases hm : (j : Int) ∈ lost
      · have HD : Hid (decide ((j : Int) ∈ lost) = true) := decide_eq_true hm
        have HNX : Hid (backs d (j + 1) lost M = backs d j lost M ++ [rowF d (fun n => M j (d + n))]) := by
          show _ = _
          rw [backs_next, if_pos (by simp [gone_, hm])]
        have HRN : Hid (ReadAs w2 (us ++ [u]) (backs d j lost M ++ [rowF d (fun n => M j (d + n))])) := by
          refine hread.append ⟨rfl, fun k hk => ?_⟩
          obtain rfl : k = 0 := by simp at hk; omega
          exact ⟨u, rfl, hbs⟩
        have HU1 : Hid (u.oneCell' = true) := one_of_bs hbs
        obtain ⟨ua, uc, rfl⟩ : ∃ ua uc, u = .slice ua d uc := by
          obtain ⟨ua, uc, h, _⟩ := hbs
          exact ⟨ua, uc, by simpa using h⟩
        clear hown hread hbs hm
        go_wp2_with (first | (go_at_call 78; refine (contains_any lost j lv _ HIC.out hlb).mono ?_; rintro e w' ⟨rfl, rfl⟩; rw [HD.out]) | (at_builtin; refine wpList_append_one _ rfl _ _ 91 rfl w2.heap.size 93 (.slice none 0 0) 24 Tryd.underlying91 infoRow8 rfl (by decide) _ us.length us rfl (HO.out.alloc _) ⟨_, 0, none⟩ 1 (.slice ua d uc) rfl ((Blk.new _ _ _).cell_some rfl) HU1.out (by omega) (by simp; omega) ?_; intro v' w3 hown' hbel'))
        have HO3 : Hid (w3.ownsRow w2.heap.size 93 1 v' (us ++ [Value.slice ua d uc]).length (us ++ [Value.slice ua d uc])) := by
          rw [List.length_append]; exact hown'
        have HB3 : Hid (Below w2.heap.size w2 w3) := hbel' _ _ (hbel.alloc hsz _) (Nat.le_refl _)
        clear hown' hbel'
        go_roundw
        case rel => exact ⟨j + 1, us ++ [Value.slice ua d uc], by omega, by go_num, HO3.out, by rw [HNX.out]; exact HRN.out, HB3.out⟩
        case measure => simp [intOf]; omega
      · have HD : Hid (decide ((j : Int) ∈ lost) = false) := decide_eq_false hm
        have HNX : Hid (backs d (j + 1) lost M = backs d j lost M) := by
          show _ = _
          rw [backs_next, if_neg (by simp [gone_, hm]), List.append_nil]
        clear hown hread hbs hm
        go_wp2_with (go_at_call 78; refine (contains_any lost j lv _ HIC.out hlb).mono ?_; rintro e w' ⟨rfl, rfl⟩; rw [HD.out])
        go_roundw
        case rel => exact ⟨j + 1, us, by omega, by go_num, HO.out, by rw [HNX.out]; exact HRE.out, hbel⟩
        case measure => simp [intOf]; omega
    · obtain rfl : d = j := by omega
      have HR : Hid (RowsAt wr _ (backs d d lost M)) := hread.rows (by rw [← hread.1]; exact hown) hbel
      have HB9 : Hid (Below w.heap.size w wr) := HB02.out.trans (hbel.mono HB02.out.size)
      clear hown hread hbel
      go_wp2
      go_ret
      exact ⟨_, M, rfl, HWI.out, HR.out, HB9.out⟩
end Go.Proofs.YtlnpppdffhibjaaDoor.Ref

namespace Go.Proofs.YtlnpppdffhibjaaDoor.Ref
open Go.RowKit Mem FieldWalks Tab ByTab Parts
open Gf (Bytes chosen left_ rowOf enough Wide chosen_ker chosen_lt chosen_length Fits colOf sumTo)
open Plans (But rowF intsV infoInt)
open Top (SumsOk)

theorem wpList_conv_w {P : Program} (w : World) {ops : Array Oper} {rest : List Oper} {o : Oper} {a : Act} {Q : Exit → Act → World → Prop}
    (hgd : o.guard = none) (src dst : TypeId) (x : Operand) (hop : o.op = Op.convert src dst x) (v r : Value) (w' : World) (hx : a.eval x = v) (hrun : (convert src dst v).run P w = .ok r w')
    (hK : wpList P ops Q rest (a.put o.dst r) w') : wpList P ops Q (o :: rest) a w := by
  refine wpList_plain hgd fun K hK' => ?_
  unfold Oper.wp
  simp [execOp, hop, hx, hrun, Result.andThen]
  exact hK' _ _ hK
/-- The pieces that are taken. -/
def lefts (d s : Nat) (lost : List Int) (pieces : List ByteArray) : List (List Nat) := (chosen (left_ lost) d s).map fun p => nums (pieces.getD p ByteArray.empty)
section
variable {d s L : Nat} {lost : List Int} {pieces : List ByteArray} {ps : List (List Nat)}
theorem lefts_size (hyes : ShapeOk d s L pieces lost) (k : Nat) (h : k < (lefts d s lost pieces).length) : (lefts d s lost pieces)[k].length = L := by
  simp only [lefts, List.getElem_map]
  have hk : k < (chosen (left_ lost) d s).length := by simpa [lefts] using h
  have h1 := chosen_lt (left_ lost) d s _ (List.getElem_mem hk)
  have hp : (chosen (left_ lost) d s)[k] < pieces.length := by rw [hyes.count]; exact h1.1
  rw [nums_length, show pieces.getD (chosen (left_ lost) d s)[k] ByteArray.empty = pieces[(chosen (left_ lost) d s)[k]] by simp [hp]]
  refine hyes.sizes _ hp ?_
  have := h1.2
  simpa [left_] using this
theorem ext_getD (a b : List Nat) (h : a.length = b.length) (e : ∀ t, t < a.length → a.getD t 0 = b.getD t 0) : a = b := by
  apply List.ext_getElem h
  intro t h1 h2
  have := e t h1
  simpa [h1, h2] using this
/-- A data piece that is left stands among the taken ones. -/
theorem left_at (hfit : Fits d L (chosen (left_ lost) d s) (fun p => nums (pieces.getD p ByteArray.empty)) ps) (hyes : ShapeOk d s L pieces lost) (j : Nat) (hj : j < d) (hl : left_ lost j = true) : (lefts d s lost pieces)[((List.range j).filter (left_ lost)).length]? = some (ps.getD j []) := by
  have h1 := Ref.chosen_at (left_ lost) d s j hj hl
  have hmem := List.mem_of_getElem? h1
  unfold lefts
  rw [List.getElem?_map, h1]
  simp only [Option.map_some, Option.some.injEq]
  have hjp : j < ps.length := by rw [hfit.len]; exact hj
  have hpj : ps.getD j [] = ps[j] := by simp [hjp]
  have hjl : j < pieces.length := by rw [hyes.count]; omega
  have hsz : (nums (pieces.getD j ByteArray.empty)).length = L := by
    rw [nums_length, show pieces.getD j ByteArray.empty = pieces[j] by simp [hjl]]
    exact hyes.sizes j hjl (by simpa [left_] using hl)
  rw [hpj]
  refine ext_getD _ _ (by rw [hsz, hfit.size j hjp]) fun t ht => ?_
  rw [hsz] at ht
  rw [← hfit.fits j hmem t ht, Gf.dot_unit d j hj _ (fun k _ => Gf.colOf_lt hfit.byte t k)]
  unfold colOf
  rw [hpj]
/-- What the way back makes of the taken ones is the lost data piece. -/
theorem back_at (hfit : Fits d L (chosen (left_ lost) d s) (fun p => nums (pieces.getD p ByteArray.empty)) ps) (hyes : ShapeOk d s L pieces lost) (hd2 : d ≤ 10) (hs : s ≤ 6) (hfew : lost.length ≤ s) {M : Nat → Nat → Nat} (hw : Wide d d (takenA d s lost) M) (j : Nat) (hj : j < d) (hg : gone_ lost j = true) :
    (sums (backs d d lost M) (lefts d s lost pieces) L)[((List.range j).filter (gone_ lost)).length]? = some (ps.getD j []) := by
  have hcl := chosen_length (left_ lost) d s (enough d s lost hfew)
  have hll : (lefts d s lost pieces).length = d := by simp [lefts, hcl]
  have hjp : j < ps.length := by rw [hfit.len]; exact hj
  have hpj : ps.getD j [] = ps[j] := by simp [hjp]
  unfold sums backs
  rw [List.getElem?_map, List.getElem?_map, filter_at (gone_ lost) j d hj hg]
  simp only [Option.map_some, Option.some.injEq]
  rw [hpj]
  have hsl := Gf.sumTo_length (rowF d (fun n => M j (d + n))) (lefts d s lost pieces) L (fun k hk => lefts_size hyes k hk) (lefts d s lost pieces).length (Nat.le_refl _)
  refine ext_getD _ _ (by rw [hsl, hfit.size j hjp]) fun t ht => ?_
  rw [hsl] at ht
  rw [Gf.sumTo_dot _ _ L t (fun k hk => lefts_size hyes k hk) ht _ (Nat.le_refl _), hll]
  have hA : ∀ n, n < d → ∀ k, k < d → takenA d s lost n k < 256 := fun n hn k hk => by
    have hn' : n < (chosen (left_ lost) d s).length := by omega
    have := (chosen_lt (left_ lost) d s _ (List.getElem_mem hn')).1
    unfold takenA
    rw [List.getD_eq_getElem?_getD, List.getElem?_eq_getElem hn', Option.getD_some]
    exact Gf.rowOf_lt _ _ _ (by omega) (by omega)
  have hb := hw.back hA (colOf ps t) (fun k => Gf.colOf_lt hfit.byte t k) j hj
  have e : colOf ps t j = ps[j].getD t 0 := by unfold colOf; rw [hpj]
  rw [← e, ← hb]
  refine Gf.xs_congr fun n hn => ?_
  have hn' : n < (chosen (left_ lost) d s).length := by omega
  have hnl : n < (lefts d s lost pieces).length := by omega
  rw [rowF_at' d _ n hn]
  congr 1
  have e2 : colOf (lefts d s lost pieces) t n = (nums (pieces.getD (chosen (left_ lost) d s)[n] ByteArray.empty)).getD t 0 := by
    unfold colOf
    rw [show (lefts d s lost pieces).getD n [] = (lefts d s lost pieces)[n] by simp [hnl]]
    simp [lefts]
  rw [e2, ← hfit.fits _ (List.getElem_mem hn') t ht]
  unfold takenA
  rw [List.getD_eq_getElem?_getD, List.getElem?_eq_getElem hn', Option.getD_some]
theorem fit_back (hyes : ShapeOk d s L pieces lost) (hd : 1 ≤ d) (hd2 : d ≤ 10) (hfew : lost.length ≤ s) (hL : L ≤ 400) {M : Nat → Nat → Nat} (hw : Wide d d (takenA d s lost) M) : Fit (backs d d lost M) (lefts d s lost pieces) L := by
  have hcl := chosen_length (left_ lost) d s (enough d s lost hfew)
  have hll : (lefts d s lost pieces).length = d := by simp [lefts, hcl]
  have hbl : (backs d d lost M).length ≤ d := by
    unfold backs; rw [List.length_map]
    have := List.length_filter_le (gone_ lost) (List.range d)
    rw [List.length_range] at this; exact this
  refine ⟨by omega, by omega, by omega, fun j hj => lefts_size hyes j hj, fun i hi => ?_, fun i hi => ?_, fun j hj => ?_, by omega⟩
  · rw [hll]; simp [backs]
  · have hm : (backs d d lost M)[i] ∈ ((List.range d).filter (gone_ lost)).map fun j => rowF d (fun n => M j (d + n)) := List.getElem_mem hi
    obtain ⟨j, hj, e⟩ := List.mem_map.1 hm
    have hjd : j < d := by have := (List.mem_filter.1 hj).1; simpa using this
    rw [← e]
    intro v hv
    simp only [rowF, List.mem_map, List.mem_range] at hv
    obtain ⟨n, hn, rfl⟩ := hv
    exact hw.byte j hjd (d + n) (by omega)
  · simp only [lefts, List.getElem_map]
    exact nums_bytes _
end

set_option maxRecDepth 100000 in
set_option maxHeartbeats 4000000 in
theorem rebuild_any (hS : SumsOk) (d s x L : Nat) (pieces : List ByteArray) (lost : List Int) (ps : List (List Nat)) (pv lv : Value) (w : World) (ht : Table w) (hp : StrsAt w pv pieces) (hl : IsC w lv lost) (hd : 1 ≤ d) (hd2 : d ≤ 10) (hs : s ≤ 6) (hx : x ≤ 2) (hL : L ≤ 400)
    (hyes : ShapeOk d s L pieces lost) (hfew : lost.length ≤ s) (hfit : Fits d L (chosen (left_ lost) d s) (fun p => nums (pieces.getD p ByteArray.empty)) ps) :
    Calls Tryd.prog 67 #[.int .i64 d, .int .i64 s, .int .i64 x, pv, lv] w fun e w' => ∃ b, w.heap.size ≤ b ∧ e = .returned (.slice (some ⟨b, 0, none⟩) d d) ∧ RowsC w' (.slice (some ⟨b, 0, none⟩) d d) ps ∧ Below w.heap.size w w' := by
  have hcl := chosen_length (left_ lost) d s (enough d s lost hfew)
  have HCL : Hid ((chosen (left_ lost) d s).length = d) := hcl
  have HCLT : Hid (∀ k, (h : k < (chosen (left_ lost) d s).length) → (chosen (left_ lost) d s)[k] < d + s ∧ left_ lost (chosen (left_ lost) d s)[k] = true) := fun k h => chosen_lt (left_ lost) d s _ (List.getElem_mem h)
  have HYES : Hid (ShapeOk d s L pieces lost) := hyes
  have HFIT : Hid (Fits d L (chosen (left_ lost) d s) (fun p => nums (pieces.getD p ByteArray.empty)) ps) := hfit
  have HFEW : Hid (lost.length ≤ s) := hfew
  have hcn := hyes.count
  have HCN : Hid (pieces.length = d + s) := hcn
  have HFL := firstLeft_any d s lost lv w hl hd hd2 hs hfew
  have HFLH : Hid _ := HFL
  have HL : Hid (IsC w lv lost) := hl
  have HT : Hid (Table w) := ht
  obtain ⟨pb, poff, pcap, rfl, hplt, hpc⟩ : ∃ b off cap, pv = .slice (some ⟨b, off, none⟩) pieces.length cap ∧ b < w.heap.size ∧ ∀ k, (h : k < pieces.length) → w.cell? ⟨b, off + k, none⟩ = some (.string pieces[k]) := by
    obtain ⟨ao, cap, rfl, h⟩ := hp
    rcases h with h | ⟨b, off, rfl, h1, h2⟩
    · rw [h] at hcn; simp at hcn; omega
    · exact ⟨b, off, cap, rfl, h1, h2⟩
  have HPC : Hid (∀ k, (h : k < pieces.length) → w.cell? ⟨pb, poff + k, none⟩ = some (.string pieces[k])) := hpc
  have hmk := fun w => make_rows d (by omega) w
  obtain ⟨N, hN⟩ : ∃ N, N = pieces.length := ⟨_, rfl⟩
  have HN : Hid (N = pieces.length) := hN
  have hN1 : N ≤ d + s := by omega
  have hN2 : d + s ≤ N := by omega
  rw [← hN]
  have hlb : lost.length < 2 ^ 62 := by omega
  clear hcl hyes hfit hfew hcn HFL hl ht hp hpc hN
  go_enter Tryd.func67, Tryd.ntmps67
  go_wp2_with fail
  refine Calls.mono HFLH.out ?_
  rintro e w1 ⟨nb, hnb, rfl, hints, hb1⟩
  have HIN : Hid (Blk w1 nb 3 (intsV (chosen (left_ lost) d s))) := hints
  have HB1 : Hid (Below w.heap.size w w1) := hb1
  have hnbl := hints.lt
  clear hints hb1 HFLH
  go_wp2
  go_loopw [25] (fun i wr => ∃ k : Nat, k ≤ d ∧ i = .int .i64 k ∧ Fill9 wr w1.heap.size d k True (fun k => nums (pieces.getD ((chosen (left_ lost) d s).getD k 0) ByteArray.empty)) ∧ Below w1.heap.size w1 wr) (fun i _ => d - (intOf i).toNat)
  case atStart => exact ⟨0, Nat.zero_le _, rfl, Fill9.start ((Blk.new w1 _ _).eq (toList_madeCells_one _ d)) (by simp) _ _, (Below.refl _ _).alloc (Nat.le_refl _) _⟩
  case round =>
    obtain ⟨k, hk, rfl, hfill, hbel⟩ := hrel
    by_cases hkd : k < d
    · have hkc : k < (chosen (left_ lost) d s).length := by rw [HCL.out]; exact hkd
      have c0 := (HIN.out.to hbel).cell_some (k := k) (v := .int .i64 ((chosen (left_ lost) d s)[k] : Nat)) (by simp [intsV, hkc])
      obtain ⟨p, hp⟩ : ∃ p, p = (chosen (left_ lost) d s)[k] := ⟨_, rfl⟩
      have hpl := HCLT.out k hkc
      rw [← hp] at c0 hpl
      have hpN : p < pieces.length := by rw [HCN.out]; exact hpl.1
      have c1 := HPC.out p hpN
      rw [← (HB1.out.trans (hbel.mono HB1.out.size)).cell (p := ⟨pb, poff + p, none⟩) hplt] at c1
      obtain ⟨y, hy⟩ : ∃ y, y = pieces[p] := ⟨_, rfl⟩
      rw [← hy] at c1
      have hys : y.size = L := by
        rw [hy]; refine HYES.out.sizes p hpN ?_
        have := hpl.2; simpa [left_] using this
      have HY : Hid (pieces.getD ((chosen (left_ lost) d s).getD k 0) ByteArray.empty = y) := by
        show _ = _
        rw [show (chosen (left_ lost) d s).getD k 0 = p by rw [hp]; simp [hkc], hy]; simp [hpN]
      have hsz := hbel.size
      have HB : Hid (Below w1.heap.size w1 (Lib.bytesWorld wr 5 y)) := hbel.trans ((below_bytes wr y).mono hsz)
      have HF : Hid (Fill9 (Lib.bytesWorld wr 5 y) w1.heap.size d k True (fun k => nums (pieces.getD ((chosen (left_ lost) d s).getD k 0) ByteArray.empty))) := hfill.to (below_bytes wr y)
      have HR : Hid (Row8 (Lib.bytesWorld wr 5 y) wr.heap.size (nums y)) := Row8.new wr y
      obtain ⟨⟨ov, k1⟩, k2, k3⟩ := HF.out.cell k hkd
      have hw1lt := (hfill.cell k hkd).2.2
      have hconv := Lib.run_convert_string_bytes (P := Tryd.prog) wr 9 93 5 y Tryd.underlying9 Tryd.underlying93 Tryd.underlying5
      rw [hys] at hconv
      have hgc := grownCap_ge wr L 0 5
      generalize grownCap wr L 0 5 = gc at hconv hgc
      generalize Lib.bytesWorld wr 5 y = wb at HB HF HR hconv k1 k2 k3
      have HCV : Hid ((convert 9 93 (.string y)).run Tryd.prog wr = .ok (.slice (some ⟨wr.heap.size, 0, none⟩) L gc) wb) := hconv
      have HF2 : Hid (Fill9 (wb.setCell ⟨w1.heap.size, k, none⟩ (.slice (some ⟨wr.heap.size, 0, none⟩) L gc)) w1.heap.size d (k + 1) True (fun k => nums (pieces.getD ((chosen (left_ lost) d s).getD k 0) ByteArray.empty))) := by
        refine HF.out.step hkd ?_
        show BsNe wb w1.heap.size True (.slice (some ⟨wr.heap.size, 0, none⟩) L gc) (nums (pieces.getD ((chosen (left_ lost) d s).getD k 0) ByteArray.empty))
        rw [HY.out]
        refine ⟨_, gc, by rw [nums_length, hys], fun _ => by rw [nums_length, hys]; exact hgc, .inr ⟨wr.heap.size, 0, rfl, by omega, HR.out.lt, fun i hi => by rw [Nat.zero_add]; exact HR.out.cell i hi⟩⟩
      have hpi : (p : Int) < (N : Int) := by omega
      clear hconv hfill hy hys hbel hp hpl
      go_wp2_with (refine wpList_conv_w _ rfl 9 93 _ rfl (.string y) _ wb rfl HCV.out ?_)
      go_roundw
      case rel => exact ⟨k + 1, by omega, by go_num, HF2.out, HB.out.setCell (Nat.le_refl _) _⟩
      case measure => simp [intOf]; omega
    · obtain rfl : d = k := by omega
      obtain ⟨w2, rfl⟩ : ∃ w2, w2 = wr := ⟨_, rfl⟩
      have HLE : Hid (RowsC w2 (.slice (some ⟨w1.heap.size, 0, none⟩) d d) (lefts d s lost pieces)) := hfill.rowsC _ (by simp [lefts, HCL.out]) (fun i hi => by
        have hi' : i < (chosen (left_ lost) d s).length := by simpa [lefts] using hi
        simp [lefts, hi'])
      have HB2 : Hid (Below w.heap.size w w2) := HB1.out.trans (hbel.mono HB1.out.size)
      have hwb := wayBack_any d s lost lv nb w2 (table_to HT.out HB2.out) (HL.out.to HB2.out) hd hd2 hs HFEW.out (HIN.out.to hbel)
      have HWB : Hid _ := hwb
      clear hwb hfill hbel
      go_wp2_with fail
      refine Calls.mono HWB.out ?_
      rintro e w3 ⟨rv, M, rfl, hwide, hback, hb3⟩
      have HW : Hid (Wide d d (takenA d s lost) M) := hwide
      have HB3 : Hid (Below w.heap.size w w3) := HB2.out.trans (hb3.mono HB2.out.size)
      have HLE3 : Hid (RowsC w3 (.slice (some ⟨w1.heap.size, 0, none⟩) d d) (lefts d s lost pieces)) := HLE.out.to hb3
      have hsu := hS x (backs d d lost M) (lefts d s lost pieces) L rv (.slice (some ⟨w1.heap.size, 0, none⟩) d d) w3 hx (table_to HT.out HB3.out) hback HLE3.out (fit_back HYES.out hd hd2 HFEW.out hL hwide)
      have HSU : Hid _ := hsu
      clear hsu hwide hback hb3 HWB HLE
      go_wp2_with fail
      refine Calls.mono HSU.out ?_
      rintro e w4 ⟨mv, rfl, hmade, hb4⟩
      have HB4 : Hid (Below w.heap.size w w4) := HB3.out.trans (hb4.mono HB3.out.size)
      have HMA : Hid (RowsC w4 mv (sums (backs d d lost M) (lefts d s lost pieces) L)) := hmade
      have HLE4 : Hid (RowsC w4 (.slice (some ⟨w1.heap.size, 0, none⟩) d d) (lefts d s lost pieces)) := HLE3.out.to hb4
      obtain ⟨mao, mex, rfl, hmc⟩ := hmade
      obtain ⟨SM, hSM⟩ : ∃ SM, SM = (sums (backs d d lost M) (lefts d s lost pieces) L).length := ⟨_, rfl⟩
      rw [← hSM]
      have HSM : Hid (SM = (sums (backs d d lost M) (lefts d s lost pieces) L).length) := hSM
      have HMC : Hid (SM = 0 ∨ ∃ mb moff, mao = some ⟨mb, moff, none⟩ ∧ mb < w4.heap.size ∧ ∀ k r, (sums (backs d d lost M) (lefts d s lost pieces) L)[k]? = some r → ∃ u, w4.cell? ⟨mb, moff + k, none⟩ = some u ∧ BsC w4 u r) := by
        rcases hmc with h | ⟨mb, moff, h1, h2, h3⟩
        · left; rw [hSM, h]; rfl
        · right; refine ⟨mb, moff, h1, h2, fun k r hr => ?_⟩
          obtain ⟨hk, rfl⟩ := List.getElem?_eq_some_iff.1 hr
          exact h3 k hk
      have hSMs : SM ≤ 10 := by
        rw [hSM]; unfold sums backs; rw [List.length_map, List.length_map]
        have := List.length_filter_le (gone_ lost) (List.range d)
        rw [List.length_range] at this; omega
      have HLC : Hid (∀ k r, (lefts d s lost pieces)[k]? = some r → ∃ u, w4.cell? ⟨w1.heap.size, k, none⟩ = some u ∧ BsC w4 u r) := fun k r hr => by
        obtain ⟨hk, rfl⟩ := List.getElem?_eq_some_iff.1 hr
        obtain ⟨b, off, cap, he, h1, h2⟩ := HLE4.out.pos (by omega)
        injection he with he _ _
        injection he with he
        injection he with he1 he2
        subst he1 he2
        obtain ⟨u, h3, h4⟩ := h2 k hk
        exact ⟨u, by rw [Nat.zero_add] at h3; exact h3, h4⟩
      have hw14 : w1.heap.size < w4.heap.size := by
        obtain ⟨b, off, cap, he, h1, h2⟩ := HLE4.out.pos (by simp [lefts, HCL.out]; omega)
        injection he with he _ _
        injection he with he
        injection he with he1 he2
        omega
      obtain ⟨g1, hg1⟩ : ∃ g1, g1 = w1.heap.size := ⟨_, rfl⟩
      rw [← hg1] at HLC hw14 ⊢
      clear hmc hb4 HSU HLE3 hSM HMA HLE4 hg1
      go_wp2
      go_loopw [12, 15, 51] (fun lt mt i wr => ∃ (j lo lrem mrem : Nat) (la ma : Option Addr), j ≤ d ∧ i = .int .i64 j ∧ lo = ((List.range j).filter (left_ lost)).length ∧ lrem + lo = d ∧ lt = .slice la lrem lrem ∧ (0 < lrem → la = some ⟨g1, lo, none⟩) ∧
        mt = .slice ma mrem (mrem + mex) ∧ mrem + ((List.range j).filter (gone_ lost)).length = SM ∧ (0 < mrem → ∃ mb moff, mao = some ⟨mb, moff, none⟩ ∧ ma = some ⟨mb, moff + ((List.range j).filter (gone_ lost)).length, none⟩) ∧
        Fill9 wr w4.heap.size d j True (fun j => ps.getD j []) ∧ Below w4.heap.size w4 wr) (fun _ _ i _ => d - (intOf i).toNat)
      case atStart =>
        refine ⟨0, 0, d, SM, _, _, Nat.zero_le _, rfl, by simp, rfl, rfl, fun _ => rfl, rfl, by simp, fun hpos => ?_, Fill9.start ((Blk.new w4 _ _).eq (toList_madeCells_one _ d)) (by simp) _ _, (Below.refl _ _).alloc (Nat.le_refl _) _⟩
        rcases HMC.out with h | ⟨mb, moff, h1, h2, h3⟩
        · omega
        · exact ⟨mb, moff, h1, by rw [h1]; simp⟩
      case round =>
        obtain ⟨j, lo, lrem, mrem, la, ma, hj, rfl, hlo, hlr, rfl, hla, rfl, hmr, hma, hfill, hbel⟩ := hrel
        by_cases hjd : j < d
        · obtain ⟨⟨ov, k1⟩, k2, k3⟩ := hfill.cell j hjd
          have HIC : Hid (IsC wr lv lost) := HL.out.to (HB4.out.trans (hbel.mono HB4.out.size))
          have HF : Hid (Fill9 wr w4.heap.size d j True (fun j => ps.getD j [])) := hfill
          have HLO : Hid (lo = ((List.range j).filter (left_ lost)).length) := hlo
          have HLA : Hid (0 < lrem → la = some ⟨g1, lo, none⟩) := hla
          have HMA : Hid (0 < mrem → ∃ mb moff, mao = some ⟨mb, moff, none⟩ ∧ ma = some ⟨mb, moff + ((List.range j).filter (gone_ lost)).length, none⟩) := hma
          have HMR : Hid (mrem + ((List.range j).filter (gone_ lost)).length = SM) := hmr
          have HLR : Hid (lrem + lo = d) := hlr
          have hlj : ((List.range j).filter (left_ lost)).length ≤ j := by
            have := List.length_filter_le (left_ lost) (List.range j); rwa [List.length_range] at this
          by_cases hm : (j : Int) ∈ lost
          · have hg : gone_ lost j = true := by simp [gone_, hm]
            have hle : left_ lost j = false := by simp [left_, hm]
            have HD : Hid (decide ((j : Int) ∈ lost) = true) := decide_eq_true hm
            have hba := back_at HFIT.out HYES.out hd2 hs HFEW.out HW.out j hjd hg
            have hlt : ((List.range j).filter (gone_ lost)).length < SM := by
              have := (List.getElem?_eq_some_iff.1 hba).1
              rw [← HSM.out] at this; exact this
            obtain ⟨mb, moff, hmao, rfl⟩ := hma (by omega)
            obtain ⟨a, rfl⟩ : ∃ a, mrem = a + 1 := ⟨mrem - 1, by omega⟩
            obtain ⟨mo, hmo⟩ : ∃ mo, mo = moff + ((List.range j).filter (gone_ lost)).length := ⟨_, rfl⟩
            rw [← hmo]
            obtain ⟨u, hu, hbs, hmbl⟩ : ∃ u, wr.cell? ⟨mb, mo, none⟩ = some u ∧ BsC w4 u (ps.getD j []) ∧ mb < w4.heap.size := by
              rcases HMC.out with h0 | ⟨mb', moff', h1, h2, h3⟩
              · omega
              · rw [hmao] at h1
                injection h1 with h1
                injection h1 with h1a h1b
                subst h1a h1b
                obtain ⟨u, h4, h5⟩ := h3 _ _ hba
                exact ⟨u, by rw [hmo, hbel.cell (p := ⟨mb, _, none⟩) h2]; exact h4, h5, h2⟩
            have HNE : Hid (BsNe wr w4.heap.size True u (ps.getD j [])) := (BsC.ne hbs (Nat.le_refl _)).to hbel
            have HF2 : Hid (Fill9 (wr.setCell ⟨w4.heap.size, j, none⟩ u) w4.heap.size d (j + 1) True (fun j => ps.getD j [])) := HF.out.step hjd HNE.out
            have HN1 : Hid ((List.range (j + 1)).filter (left_ lost) = (List.range j).filter (left_ lost)) := by show _ = _; rw [filter_next, hle]; simp
            have HN2 : Hid (((List.range (j + 1)).filter (gone_ lost)).length = ((List.range j).filter (gone_ lost)).length + 1) := by show _ = _; rw [filter_next, hg]; simp
            have HMO : Hid (mao = some ⟨mb, moff, none⟩ ∧ mo = moff + ((List.range j).filter (gone_ lost)).length) := ⟨hmao, hmo⟩
            obtain ⟨ua, uc, rfl⟩ : ∃ ua uc, u = .slice ua (ps.getD j []).length uc := by
              obtain ⟨ua, uc, h, _⟩ := hbs; exact ⟨ua, _, h⟩
            have hne : mb ≠ w4.heap.size := by omega
            have ha20 : a + 1 ≤ 20 := by omega
            clear hmao hmo hmr hba hbs hm hg hle hfill hlo hlt hlj hla hma hlr HMA
            generalize (ps.getD j []).length = pl at hu HF2
            go_wp2_with (go_at_call 78; refine (contains_any lost j lv _ HIC.out hlb).mono ?_; rintro e w' ⟨rfl, rfl⟩; rw [HD.out])
            go_region
            all_goals
              go_wp2
              go_roundw
              case rel =>
                refine ⟨j + 1, lo, lrem, a, la, _, by omega, by go_num, by rw [HN1.out]; exact HLO.out, HLR.out, rfl, HLA.out, rfl, by rw [HN2.out]; have := HMR.out; omega, fun hpos => ⟨mb, moff, HMO.out.1, ?_⟩, HF2.out.to (Below.refl _ _).drew, (hbel.setCell (Nat.le_refl _) _).drew⟩
                rw [if_neg (by omega), HN2.out, ← Nat.add_assoc, ← HMO.out.2]
              case measure => simp [intOf]; omega
          · have hg : gone_ lost j = false := by simp [gone_, hm]
            have hle : left_ lost j = true := by simp [left_, hm]
            have HD : Hid (decide ((j : Int) ∈ lost) = false) := decide_eq_false hm
            have hba := left_at HFIT.out HYES.out j hjd hle
            obtain ⟨a, rfl⟩ : ∃ a, lrem = a + 1 := ⟨lrem - 1, by omega⟩
            obtain rfl := hla (by omega)
            obtain ⟨u, hu, hbs⟩ : ∃ u, wr.cell? ⟨g1, lo, none⟩ = some u ∧ BsC w4 u (ps.getD j []) := by
              obtain ⟨u, h4, h5⟩ := HLC.out _ _ hba
              exact ⟨u, by rw [hlo, hbel.cell (p := ⟨g1, _, none⟩) hw14]; exact h4, h5⟩
            have HNE : Hid (BsNe wr w4.heap.size True u (ps.getD j [])) := (BsC.ne hbs (Nat.le_refl _)).to hbel
            have HF2 : Hid (Fill9 (wr.setCell ⟨w4.heap.size, j, none⟩ u) w4.heap.size d (j + 1) True (fun j => ps.getD j [])) := HF.out.step hjd HNE.out
            have HN1 : Hid (((List.range (j + 1)).filter (left_ lost)).length = ((List.range j).filter (left_ lost)).length + 1) := by show _ = _; rw [filter_next, hle]; simp
            have HN2 : Hid ((List.range (j + 1)).filter (gone_ lost) = (List.range j).filter (gone_ lost)) := by show _ = _; rw [filter_next, hg]; simp
            obtain ⟨ua, uc, rfl⟩ : ∃ ua uc, u = .slice ua (ps.getD j []).length uc := by
              obtain ⟨ua, uc, h, _⟩ := hbs; exact ⟨ua, _, h⟩
            have hne : g1 ≠ w4.heap.size := by omega
            have ha20 : a + 1 ≤ 20 := by omega
            clear hmr hba hbs hm hg hle hfill hlo hlj hla hma hlr HLA
            generalize (ps.getD j []).length = pl at hu HF2
            go_wp2_with (go_at_call 78; refine (contains_any lost j lv _ HIC.out hlb).mono ?_; rintro e w' ⟨rfl, rfl⟩; rw [HD.out])
            go_region
            all_goals
              go_wp2
              go_roundw
              case rel =>
                refine ⟨j + 1, lo + 1, a, mrem, _, ma, by omega, by go_num, by rw [HN1.out, ← HLO.out], by have := HLR.out; omega, rfl, fun hpos => ?_, rfl, by rw [HN2.out]; exact HMR.out, by rw [HN2.out]; exact HMA.out, HF2.out.to (Below.refl _ _).drew, (hbel.setCell (Nat.le_refl _) _).drew⟩
                rw [if_neg (by omega)]
              case measure => simp [intOf]; omega
        · obtain rfl : d = j := by omega
          have HRF : Hid (RowsC wr (.slice (some ⟨w4.heap.size, 0, none⟩) d d) ps) := hfill.rowsC _ HFIT.out.len (fun k hk => by simp [hk])
          have HB9 : Hid (Below w.heap.size w wr) := HB4.out.trans (hbel.mono HB4.out.size)
          have hsz4 := HB4.out.size
          clear hfill hbel
          go_wp2
          go_ret
          exact ⟨w4.heap.size, hsz4, rfl, HRF.out, HB9.out⟩
end Go.Proofs.YtlnpppdffhibjaaDoor.Ref

namespace Go.Proofs.YtlnpppdffhibjaaDoor.Ref
open Go.RowKit Mem FieldWalks Tab ByTab Parts
open Gf (Bytes)

/-- The numbers of bytes.Join and of its types here. -/
def jren : Go.Shelf.Ren := ⟨fun k => if k = 14 then 68 else 81, fun t => if t = 22 then 93 else if t = 26 then 91 else if t = 3 then 3 else if t = 4 then 4 else if t = 5 then 5 else if t = 9 then 9 else if t = 20 then 20 else 0, fun x => x⟩
theorem lays : SlLaysJ.n14 Tryd.prog jren where
  mixed := by kernel_rfl
  f14 := by kernel_rfl
  f15 := by kernel_rfl
  t0 := by kernel_rfl
  a0 := fun w => by kernel_rfl
  z0 := fun w => by kernel_rfl
  v0 := fun w => by kernel_rfl
  t3 := by kernel_rfl
  a3 := fun w => by kernel_rfl
  z3 := fun w => by kernel_rfl
  v3 := fun w => by kernel_rfl
  t4 := by kernel_rfl
  a4 := fun w => by kernel_rfl
  z4 := fun w => by kernel_rfl
  v4 := fun w => by kernel_rfl
  t9 := by kernel_rfl
  a9 := fun w => by kernel_rfl
  z9 := fun w => by kernel_rfl
  v9 := fun w => by kernel_rfl
  t20 := by kernel_rfl
  a20 := fun w => by kernel_rfl
  z20 := fun w => by kernel_rfl
  v20 := fun w => by kernel_rfl
  t22 := by kernel_rfl
  a22 := fun w => by kernel_rfl
  z22 := fun w => by kernel_rfl
  v22 := fun w => by kernel_rfl
  t26 := by kernel_rfl
  a26 := fun w => by kernel_rfl
  z26 := fun w => by kernel_rfl
  v26 := fun w => by kernel_rfl
  t5 := by kernel_rfl
  z5 := fun w => by kernel_rfl
  i5 := by kernel_rfl

def u8s (l : List Nat) : List UInt8 := l.map UInt8.ofNat
theorem u8_toNat (n : Nat) (h : n < 256) : (UInt8.ofNat n).toNat = n := by
  simp [UInt8.toNat_ofNat']; omega
theorem u8s_inj {a b : List Nat} (ha : Bytes a) (hb : Bytes b) (h : u8s a = u8s b) : a = b := by
  have hl : a.length = b.length := by have := congrArg List.length h; simpa [u8s] using this
  apply List.ext_getElem hl
  intro k h1 h2
  have e : (u8s a)[k]? = (u8s b)[k]? := by rw [h]
  simp only [u8s, List.getElem?_map, List.getElem?_eq_getElem h1, List.getElem?_eq_getElem h2, Option.map_some, Option.some.injEq] at e
  have := congrArg UInt8.toNat e
  rwa [u8_toNat _ (ha.at k h1), u8_toNat _ (hb.at k h2)] at this
theorem holds_of_bs {w : World} {v : Value} {l : List Nat} (h : BsAt w v l) (hb : Bytes l) : Lib.HoldsBytes w v (u8s l) := by
  obtain ⟨ao, cap, rfl, h⟩ := h
  refine ⟨ao, cap, by simp [u8s], fun e => ?_, fun a ha i x hx => ?_⟩
  · rcases h with h | ⟨b, off, h1, _⟩
    · simp [u8s, h]
    · rw [e] at h1; cases h1
  · have hi : i < l.length := by
      have := (List.getElem?_eq_some_iff.1 hx).1; simpa [u8s] using this
    rcases h with h | ⟨b, off, h1, h2, h3⟩
    · rw [h] at hi; simp at hi
    · rw [ha] at h1
      injection h1 with h1
      subst h1
      rw [Addr.add_lit, h3 i hi]
      simp only [u8s, List.getElem?_map, List.getElem?_eq_getElem hi, Option.map_some, Option.some.injEq] at hx
      rw [← hx, u8_toNat _ (hb.at i hi)]
theorem bsC_of_fresh {B : Nat} {w : World} {v : Value} {l : List Nat} (hb : Bytes l) (h : Lib.FreshBytes B w v (u8s l)) (hlt : ∀ g c, v = .slice (some ⟨g, 0, none⟩) l.length c → l ≠ [] → g < w.heap.size) : BsC w v l := by
  obtain ⟨g, cap, zs, hv, h1, h2, h3, h4, h5, h6, h7, h8⟩ := h
  have hll : (u8s l).length = l.length := by simp [u8s]
  rw [hll] at hv h2 h6
  refine ⟨some ⟨g, 0, none⟩, cap - l.length, by rw [hv]; congr 1; omega, ?_⟩
  by_cases he : l = []
  · exact .inl he
  · refine .inr ⟨g, 0, rfl, hlt g cap hv he, fun k hk => ?_⟩
    rw [Nat.zero_add, h7 k (by omega)]
    have hkz : k < zs.length := by omega
    have e : zs.getD k 0 = zs[k] := by simp [hkz]
    rw [e]
    have hz := h5 zs[k] (List.getElem_mem _)
    have e2 : (Lib.bytesOf (zs.take l.length))[k]? = (u8s l)[k]? := by rw [h6]
    simp only [Lib.bytesOf, u8s, List.getElem?_map, List.getElem?_take_of_lt hk, List.getElem?_eq_getElem hkz, List.getElem?_eq_getElem hk, Option.map_some, Option.some.injEq] at e2
    have := congrArg UInt8.toNat e2
    rw [u8_toNat _ (by omega), u8_toNat _ (hb.at k hk)] at this
    congr 2; omega
theorem u8s_flatten (ps : List (List Nat)) : u8s ps.flatten = (ps.map u8s).flatten := by
  unfold u8s; rw [List.map_flatten]
theorem join_flat (xs : List (List UInt8)) : Lib.join xs [] = xs.flatten := by
  cases xs with
  | nil => rfl
  | cons x r => rw [Lib.join_cons]; simp [Lib.joinTail]
theorem lens_flat (xs : List (List UInt8)) : Lib.lens xs = xs.flatten.length := by simp [Lib.lens, List.length_flatten]
theorem bytes_flat {ps : List (List Nat)} (h : ∀ j, (h : j < ps.length) → Bytes ps[j]) : Bytes ps.flatten := by
  intro v hv
  obtain ⟨l, hl, hm⟩ := List.mem_flatten.1 hv
  obtain ⟨j, hj, rfl⟩ := List.mem_iff_getElem.1 hl
  exact h j hj v hm

/-- bytes.Join of rows, with nothing in between. -/
theorem join_any (ps : List (List Nat)) (d b : Nat) (w : World) (hd : 1 ≤ d) (hl : ps.length = d) (hr : RowsC w (.slice (some ⟨b, 0, none⟩) d d) ps) (hbytes : ∀ j, (h : j < ps.length) → Bytes ps[j]) (hd2 : d ≤ 100) (hs : ps.flatten.length ≤ 100000) :
    Calls Tryd.prog 68 #[.slice (some ⟨b, 0, none⟩) d d, .slice none 0 0] w fun e w' => ∃ v, e = .returned v ∧ BsC w' v ps.flatten ∧ Below w.heap.size w w' := by
  have hc : ∀ k, (h : k < ps.length) → ∃ u, w.cell? ⟨b, 0 + k, none⟩ = some u ∧ BsAt w u ps[k] := fun k hk => by
    obtain ⟨b', off, cap, he, h1, h2⟩ := hr.pos (by omega)
    injection he with he _ _
    injection he with he
    injection he with he1 he2
    subst he1 he2
    obtain ⟨u, h3, h4⟩ := h2 k hk
    exact ⟨u, h3, h4.bs⟩
  have hbf := bytes_flat hbytes
  by_cases h2 : 2 ≤ d
  · obtain ⟨vs, hvl, hvc, hvr⟩ := rows_cells hc
    have hP : Lib.PartsAt w ⟨b, 0, none⟩ vs (ps.map u8s) := by
      refine ⟨by simp [hvl], fun i v hv => by rw [Addr.add_lit]; exact hvc i v hv, fun i v l hv hl2 => ?_⟩
      have hi : i < ps.length := by
        have := (List.getElem?_eq_some_iff.1 hl2).1; simpa using this
      obtain ⟨u, h3, h4⟩ := hvr i hi
      rw [hv] at h3
      injection h3 with h3
      subst h3
      simp only [List.getElem?_map, List.getElem?_eq_getElem hi, Option.map_some, Option.some.injEq] at hl2
      rw [← hl2]
      exact holds_of_bs h4 (hbytes i hi)
    have hS : Lib.HoldsBytes w (.slice none 0 0) [] := ⟨none, 0, rfl, fun _ => rfl, fun a ha => by cases ha⟩
    have := Any.bytes_Join_many lays b 0 d d vs (ps.map u8s) (.slice none 0 0) [] w (by simp [hl]) h2 hP (Nat.le_refl _) hS (by omega) (by rw [lens_flat, ← u8s_flatten, show (u8s ps.flatten).length = ps.flatten.length from List.length_map _, List.length_nil, Nat.zero_mul]; omega)
    refine this.mono ?_
    rintro e w' ⟨v, rfl, hf, hb⟩
    rw [join_flat, ← u8s_flatten] at hf
    refine ⟨v, rfl, bsC_of_fresh hbf hf (fun g c hv hne => ?_), hb⟩
    obtain ⟨g', cap, zs, hv', _, hcp, _, _, _, _, h7, _⟩ := hf
    rw [hv] at hv'
    injection hv' with hv' _ _
    injection hv' with hv'
    injection hv' with hv'
    subst hv'
    have hpos : 0 < ps.flatten.length := List.length_pos_iff.2 hne
    exact block_lt_of_cell (h7 0 (by have : (u8s ps.flatten).length = ps.flatten.length := List.length_map _; omega))
  · obtain rfl : d = 1 := by omega
    obtain ⟨l0, hl0⟩ : ∃ l0, ps = [l0] := by
      match ps, hl with
      | [l0], _ => exact ⟨l0, rfl⟩
    subst hl0
    obtain ⟨u, hu, hbs⟩ := hc 0 (by simp)
    have hb0 : Bytes l0 := hbytes 0 (by simp)
    have hfl : [l0].flatten = l0 := by simp
    rw [hfl] at hbf hs ⊢
    obtain ⟨ao, cap, rfl, h1⟩ := hbs
    simp only [List.getElem_cons_zero] at h1 hu
    by_cases he : l0 = []
    · subst he
      refine (Any.bytes_Join_one_empty lays b 0 1 ao cap (.slice none 0 0) w hu).mono ?_
      rintro e w' ⟨rfl, rfl⟩
      exact ⟨_, rfl, ⟨none, 0, rfl, .inl rfl⟩, Below.refl _ _⟩
    · obtain ⟨b', off, rfl, h2, h3⟩ : ∃ b off, ao = some ⟨b, off, none⟩ ∧ b < w.heap.size ∧ ∀ k, (h : k < l0.length) → w.cell? ⟨b, off + k, none⟩ = some (.int .u8 (l0[k] : Nat)) := by
        rcases h1 with h | h
        · exact absurd h he
        · exact h
      have hpos : 0 < l0.length := List.length_pos_iff.2 he
      refine (Any.bytes_Join_one lays b 0 1 ⟨b', off, none⟩ cap (u8s l0) (.slice none 0 0) w (by simpa [u8s] using hu) (fun i x hx => ?_) (by simpa [u8s] using hpos) (by simp [u8s]; omega)).mono ?_
      · have hi : i < l0.length := by
          have := (List.getElem?_eq_some_iff.1 hx).1; simpa [u8s] using this
        rw [Addr.add_lit, h3 i hi]
        simp only [u8s, List.getElem?_map, List.getElem?_eq_getElem hi, Option.map_some, Option.some.injEq] at hx
        rw [← hx, u8_toNat _ (hb0.at i hi)]
      · rintro e w' ⟨v, rfl, hf, hb⟩
        refine ⟨v, rfl, bsC_of_fresh hb0 hf (fun g c hv hne => ?_), hb⟩
        obtain ⟨g', cap', zs, hv', _, hcp, _, _, _, _, h7, _⟩ := hf
        rw [hv] at hv'
        injection hv' with hv' _ _
        injection hv' with hv'
        injection hv' with hv'
        subst hv'
        exact block_lt_of_cell (h7 0 (by have : (u8s l0).length = l0.length := List.length_map _; omega))
end Go.Proofs.YtlnpppdffhibjaaDoor.Ref

namespace Go.Proofs.YtlnpppdffhibjaaDoor.Ref
open Go.RowKit Mem FieldWalks Tab ByTab Parts
open Gf (Bytes chosen left_ Fits sumTo)
open Plans (rowF)
open Top (SumsOk whole_any)

/-- The shape, as the program asks it. -/
theorem shape_iff (d s L : Nat) (pieces : List ByteArray) (lost : List Int) : ShapeOk d s L pieces lost ↔ NumsOk (d + s) lost ∧ (pieces.length = d + s ∧ SizesOk L pieces lost) :=
  ⟨fun h => ⟨h.nums, h.count, h.sizes⟩, fun h => ⟨h.2.1, h.1, h.2.2⟩⟩
theorem facs_fit (d s L : Nat) (ps : List (List Nat)) (hd : 1 ≤ d) (hd2 : d ≤ 10) (hs : s ≤ 6) (hL : L ≤ 400) (hl : ps.length = d) (hsz : ∀ j, (h : j < ps.length) → ps[j].length = L) (hb : ∀ j, (h : j < ps.length) → Bytes ps[j]) : Fit (facs d s) ps L := by
  refine ⟨by omega, by omega, by simp [facs]; omega, hsz, fun i hi => by simp [facs, facRow, hl], fun i hi => ?_, hb, by omega⟩
  simp only [facs, List.length_map, List.length_range] at hi
  simp only [facs, List.getElem_map, List.getElem_range]
  exact facRow_bytes _ _ (by omega)

set_option maxRecDepth 100000 in
set_option maxHeartbeats 2000000 in
theorem pGather_any (hS : SumsOk) (d s x n L : Nat) (pieces : List ByteArray) (lost : List Int) (ps : List (List Nat)) (pv lv : Value) (w : World) (ht : Table w) (hp : StrsAt w pv pieces) (hl : IsC w lv lost) (hd : 1 ≤ d) (hd2 : d ≤ 10) (hs : s ≤ 6) (hx : x ≤ 2) (hn : n ≤ 400) (hL : L = (n + d - 1) / d)
    (hyes : ShapeOk d s L pieces lost) (hfew : lost.length ≤ s) (hfit : Fits d L (chosen (left_ lost) d s) (fun p => nums (pieces.getD p ByteArray.empty)) ps) :
    Calls Tryd.prog 46 #[.int .i64 d, .int .i64 s, .int .i64 x, .int .i64 n, pv, lv] w fun e w' => ∃ b, w.heap.size ≤ b ∧ e = .returned (.tuple #[.string (mkS (ps.flatten.take n)), .slice (some ⟨b, 0, none⟩) (d + s) (d + s)]) ∧ Blk w' b 9 (strV (texts ps (sums (facs d s) ps L))) ∧ Below w.heap.size w w' := by
  have hLs : L ≤ 400 := by have := ceil_le n d hd; omega
  have hnL : n ≤ d * L := by rw [hL]; exact ceil_mul n d (by omega)
  have HRB := rebuild_any hS d s x L pieces lost ps pv lv w ht hp hl hd hd2 hs hx hLs hyes hfew hfit
  have HRBH : Hid _ := HRB
  have HT : Hid (Table w) := ht
  have HFI : Hid (Fit (facs d s) ps L) := facs_fit d s L ps hd hd2 hs hLs hfit.len hfit.size hfit.byte
  have HPL : Hid (ps.length = d) := hfit.len
  have HPB : Hid (∀ j, (h : j < ps.length) → Bytes ps[j]) := hfit.byte
  have hfl : ps.flatten.length = d * L := by rw [flatten_length ps L hfit.size, hfit.len]
  have hfl2 : d * L ≤ 4000 := Nat.mul_le_mul hd2 hLs
  obtain ⟨T, hT⟩ : ∃ T, T = ps.flatten.length := ⟨_, rfl⟩
  have hT1 : n ≤ T := by omega
  have hT2 : T ≤ 4000 := by omega
  have HTE : Hid (T = ps.flatten.length) := hT
  clear HRB ht hp hl hyes hfew hfit hfl hfl2 hT hL
  go_enter Tryd.func46, Tryd.ntmps46
  go_wp2_with fail
  refine Calls.mono HRBH.out ?_
  rintro e w1 ⟨cb, hcb, rfl, hrows, hb1⟩
  have hjn := join_any ps d cb w1 hd HPL.out hrows HPB.out (by omega) (by rw [← HTE.out]; omega)
  have HJN : Hid _ := hjn
  have HRO : Hid (RowsC w1 (.slice (some ⟨cb, 0, none⟩) d d) ps) := hrows
  have HB1 : Hid (Below w.heap.size w w1) := hb1
  clear hjn hrows hb1 HRBH
  go_wp2_with fail
  refine Calls.mono HJN.out ?_
  rintro e w2 ⟨v, rfl, hbs, hb2⟩
  have HB2 : Hid (Below w.heap.size w w2) := HB1.out.trans (hb2.mono HB1.out.size)
  have HRO2 : Hid (RowsC w2.drew (.slice (some ⟨cb, 0, none⟩) d d) ps) := (HRO.out.to hb2).to (Below.refl _ _).drew
  obtain ⟨ao, ex, rfl, hbc⟩ := hbs
  rw [← HTE.out]
  have HBT : Hid (BsAt w2.drew (.slice ao n (T + ex)) (ps.flatten.take n)) := by
    have hlt : (ps.flatten.take n).length = n := by rw [List.length_take, ← HTE.out]; omega
    refine ⟨ao, T + ex, by rw [hlt], ?_⟩
    rcases hbc with h | ⟨b, off, h1, h2, h3⟩
    · exact .inl (by rw [h]; simp)
    · exact .inr ⟨b, off, h1, h2, fun k hk => by rw [List.getElem_take]; exact h3 k (by rw [List.length_take] at hk; omega)⟩
  have hcv2 : (convert 93 9 (.slice ao n (T + ex))).run Tryd.prog w2.drew = .ok (.string (mkS (ps.flatten.take n))) w2.drew := conv_str _ _ _ HBT.out
  have HTW : Hid (Table w2.drew) := table_to HT.out HB2.out.drew
  have hnT : (n : Int) ≤ (T : Int) := by omega
  clear hbc hb2 HJN
  go_wp2_with fail
  go_region_with (go_at_call 58; refine (whole_any hS d s x ps L _ HPL.out hd2 hs hx HFI.out _ (by exact HTW.out) (by exact HRO2.out)).mono ?_; rintro e w3 ⟨b, hb, rfl, hblk, hb3⟩; have hcv3 := conv_str w3 _ _ (HBT.out.to hb3))
  all_goals
    go_wp2
    go_ret2
    exact ⟨b, Nat.le_trans HB2.out.size hb, rfl, hblk, HB2.out.drew.trans (hb3.mono HB2.out.size)⟩

section
variable (pv lv : Value) (w : World)
set_option maxRecDepth 100000
theorem gFault_count (d s x n : Int) (h : okCounts d s = false) :
    Calls Tryd.prog 45 #[.int .i64 d, .int .i64 s, .int .i64 x, .int .i64 n, pv, lv] w fun e w' => e = .returned (.int .i64 3) ∧ w' = w := by
  go_enter Tryd.func45, Tryd.ntmps45
  go_wp2_with fail
  refine (areCounts_any _ _ _).mono ?_
  rintro e w' ⟨rfl, rfl⟩
  go_wp2
  go_ret
  exact ⟨rfl, rfl⟩
theorem gFault_way (d s x n : Int) (h1 : okCounts d s = true) (h : okWay x = false) :
    Calls Tryd.prog 45 #[.int .i64 d, .int .i64 s, .int .i64 x, .int .i64 n, pv, lv] w fun e w' => e = .returned (.int .i64 4) ∧ w' = w := by
  go_enter Tryd.func45, Tryd.ntmps45
  go_wp2_with fail
  refine (areCounts_any _ _ _).mono ?_
  rintro e w' ⟨rfl, rfl⟩
  go_wp2_with fail
  refine (isWay_any _ _).mono ?_
  rintro e w' ⟨rfl, rfl⟩
  go_wp2
  go_ret
  exact ⟨rfl, rfl⟩
theorem gFault_long (d s x n : Int) (h1 : okCounts d s = true) (h2 : okWay x = true) (h : ¬ (0 ≤ n ∧ n ≤ 400)) :
    Calls Tryd.prog 45 #[.int .i64 d, .int .i64 s, .int .i64 x, .int .i64 n, pv, lv] w fun e w' => e = .returned (.int .i64 5) ∧ w' = w := by
  have hz := okSize_no n h
  clear h
  go_enter Tryd.func45, Tryd.ntmps45
  go_wp2_with fail
  refine (areCounts_any _ _ _).mono ?_
  rintro e w' ⟨rfl, rfl⟩
  go_wp2_with fail
  refine (isWay_any _ _).mono ?_
  rintro e w' ⟨rfl, rfl⟩
  go_wp2_with fail
  refine (isSize_any _ _).mono ?_
  rintro e w' ⟨rfl, rfl⟩
  go_wp2
  go_ret
  exact ⟨rfl, rfl⟩
theorem gFault_rest (d s x n : Nat) (pieces : List ByteArray) (lost : List Int) (hp : StrsAt w pv pieces) (hl : IsC w lv lost) (hll : lost.length < 2 ^ 62) (hpl : pieces.length < 2 ^ 62) (hd : 1 ≤ d) (hd2 : d ≤ 10) (hs : s ≤ 6) (hx : x ≤ 2) (hn : n ≤ 400) (hsz : ∀ p, (h : p < pieces.length) → pieces[p].size < 2 ^ 62) (q : Bool) (hq : q = true ↔ ShapeOk d s ((n + d - 1) / d) pieces lost) :
    Calls Tryd.prog 45 #[.int .i64 d, .int .i64 s, .int .i64 x, .int .i64 n, pv, lv] w fun e w' => e = .returned (.int .i64 (if q = true then (if s < lost.length then 7 else 0) else 6)) ∧ w' = w := by
  have hok : okCounts d s = true := okCounts_yes _ _ (by omega)
  have how : okWay x = true := okWay_yes _ (by omega)
  have hz : okSize n = true := okSize_yes _ (by omega)
  have hG := goTogether_any d s n _ pieces lost pv lv w hp hl hll hpl hd hd2 hs hn rfl hsz
  have hA := areNumbers_any (d + s) (by omega) lost lv w hl hll
  rw [Int.natCast_add] at hA
  have HG : Hid _ := hG
  have HA : Hid _ := hA
  have HQ : Hid (q = true ↔ NumsOk (d + s) lost ∧ (pieces.length = d + s ∧ SizesOk ((n + d - 1) / d) pieces lost)) := hq.trans (shape_iff _ _ _ _ _)
  obtain ⟨lao, lex, rfl, _⟩ := hl
  clear hG hA hq hp hsz hpl
  go_enter Tryd.func45, Tryd.ntmps45
  go_wp2_with fail
  refine (areCounts_any _ _ _).mono ?_
  rintro e w' ⟨rfl, rfl⟩
  go_wp2_with fail
  refine (isWay_any _ _).mono ?_
  rintro e w' ⟨rfl, rfl⟩
  go_wp2_with fail
  refine (isSize_any _ _).mono ?_
  rintro e w' ⟨rfl, rfl⟩
  go_wp2_with fail
  refine Calls.mono HA.out ?_
  rintro e w' ⟨⟨b1, rfl, hb1⟩, rfl⟩
  have HB1 : Hid (b1 = true ↔ NumsOk (d + s) lost) := hb1
  clear hb1
  cases b1 with
  | false =>
    have hqf : q = false := by
      cases q with
      | false => rfl
      | true => exact absurd (HB1.out.2 (HQ.out.1 rfl).1) (by decide)
    subst hqf
    go_wp2
    go_ret
    exact ⟨rfl, rfl⟩
  | true =>
    go_wp2_with fail
    refine Calls.mono HG.out ?_
    rintro e w' ⟨⟨b2, rfl, hb2⟩, rfl⟩
    have HB2 : Hid (b2 = true ↔ pieces.length = d + s ∧ SizesOk ((n + d - 1) / d) pieces lost) := hb2
    clear hb2
    cases b2 with
    | false =>
      have hqf : q = false := by
        cases q with
        | false => rfl
        | true => exact absurd (HB2.out.2 (HQ.out.1 rfl).2) (by decide)
      subst hqf
      go_wp2
      go_ret
      exact ⟨rfl, rfl⟩
    | true =>
      have hqt : q = true := HQ.out.2 ⟨HB1.out.1 (by trivial), HB2.out.1 (by trivial)⟩
      subst hqt
      by_cases hm : s < lost.length
      · have e1 : decide ((s : Int) < (lost.length : Int)) = true := decide_eq_true (by omega)
        go_wp2
        go_ret
        exact ⟨by simp, rfl⟩
      · have e1 : decide ((s : Int) < (lost.length : Int)) = false := decide_eq_false (by omega)
        go_wp2
        go_ret
        exact ⟨by simp, rfl⟩
theorem wGather_no (k : Nat) (hk : 1 ≤ k) (_hk2 : k ≤ 100) (d s x n : Int) (hF : Calls Tryd.prog 45 #[.int .i64 d, .int .i64 s, .int .i64 x, .int .i64 n, pv, lv] w fun e w' => e = .returned (.int .i64 k) ∧ w' = w) :
    Calls Tryd.prog 24 #[.int .i64 d, .int .i64 s, .int .i64 x, .int .i64 n, pv, lv] w fun e w' => GNo k e ∧ w' = w := by
  have hk0 : ((k : Int) != 0) = true := by simp; omega
  have hk1 : ¬ k = 0 := by omega
  go_enter Tryd.func24, Tryd.ntmps24
  go_wp2_with fail
  refine Calls.mono hF ?_
  rintro e w' ⟨rfl, rfl⟩
  go_wp2
  go_ret3
  exact ⟨rfl, rfl⟩
theorem wGather_ok (hS : SumsOk) (d s x n L : Nat) (pieces : List ByteArray) (lost : List Int) (ps : List (List Nat)) (ht : Table w) (hp : StrsAt w pv pieces) (hl : IsC w lv lost) (hd : 1 ≤ d) (hd2 : d ≤ 10) (hs : s ≤ 6) (hx : x ≤ 2) (hn : n ≤ 400) (hL : L = (n + d - 1) / d) (hsz : ∀ p, (h : p < pieces.length) → pieces[p].size < 2 ^ 62)
    (hyes : ShapeOk d s L pieces lost) (hfew : lost.length ≤ s) (hfit : Fits d L (chosen (left_ lost) d s) (fun p => nums (pieces.getD p ByteArray.empty)) ps) :
    Calls Tryd.prog 24 #[.int .i64 d, .int .i64 s, .int .i64 x, .int .i64 n, pv, lv] w fun e w' => ∃ b, w.heap.size ≤ b ∧ e = .returned (.tuple #[.string (mkS (ps.flatten.take n)), .slice (some ⟨b, 0, none⟩) (d + s) (d + s), .int .i64 0]) ∧ Blk w' b 9 (strV (texts ps (sums (facs d s) ps L))) ∧ Below w.heap.size w w' := by
  have hF := gFault_rest pv lv w d s x n pieces lost hp hl (by omega) (by rw [hyes.count]; omega) hd hd2 hs hx hn hsz true ⟨fun _ => by rw [← hL]; exact hyes, fun _ => rfl⟩
  rw [if_pos rfl, if_neg (by omega)] at hF
  have HPH : Hid _ := pGather_any hS d s x n L pieces lost ps pv lv w ht hp hl hd hd2 hs hx hn hL hyes hfew hfit
  have HFH : Hid _ := hF
  clear hF hyes hsz hp hl hfit
  go_enter Tryd.func24, Tryd.ntmps24
  go_wp2_with fail
  refine Calls.mono HFH.out ?_
  rintro e w' ⟨rfl, rfl⟩
  go_wp2_with fail
  refine Calls.mono HPH.out ?_
  rintro e w1 ⟨b, hb, rfl, hblk, hb1⟩
  have HBLK : Hid (Blk w1 b 9 (strV (texts ps (sums (facs d s) ps L)))) := hblk
  clear hblk
  go_wp2
  go_ret3
  exact ⟨b, hb, rfl, HBLK.out, hb1⟩
end
end Go.Proofs.YtlnpppdffhibjaaDoor.Ref

namespace Go.Proofs.YtlnpppdffhibjaaDoor.Ref
open Go.RowKit Mem
theorem Wrote.hi_mono {lo hi : Nat} {w w' : World} (h : Wrote lo hi w w') {hi' : Nat} (hh : hi ≤ hi') : Wrote lo hi' w w' := by
  rcases h with h | ⟨S, h1, h2, h3⟩
  · exact .inl h
  · exact .inr ⟨S, h1, Nat.lt_of_lt_of_le h2 hh, h3⟩
end Go.Proofs.YtlnpppdffhibjaaDoor.Ref
namespace Go.Proofs.YtlnpppdffhibjaaDoor.Top
open Go.RowKit Mem FieldWalks Tab ByTab Parts Book Ref
open Gf (chosen left_ Fits enough)
open Plans (But)

/-- What a call of Gather answers: a text, and a list in a new block, or none. -/
def GAns (B : Nat) (er : Int) (str : ByteArray) (ss : List ByteArray) (e : Ending) (w' : World) : Prop :=
  (∃ b, B ≤ b ∧ e = .returned (.tuple #[.string str, .slice (some ⟨b, 0, none⟩) ss.length ss.length, .int .i64 er]) ∧ Blk w' b 9 (strV ss)) ∨ (ss = [] ∧ e = .returned (.tuple #[.string str, .slice none 0 0, .int .i64 er]))

/-- The program's Gather and the document's, at whatever is handed in. -/
theorem gather_both (hS : SumsOk) (d s x n : Int) (pieces : List ByteArray) (lost : List Int) (hpl : pieces.length < 2 ^ 62) (hll : lost.length < 2 ^ 62) (hsz : ∀ p, (h : p < pieces.length) → pieces[p].size < 2 ^ 62)
    (w0 : World) (pv0 lv0 : Value) (hp0 : StrsAt w0 pv0 pieces) (hl0 : IsC w0 lv0 lost) : ∃ str ss er, ss.length ≤ 16 ∧
    (∀ w pv lv, Table w → StrsAt w pv pieces → IsC w lv lost → Calls Tryd.prog 24 #[.int .i64 d, .int .i64 s, .int .i64 x, .int .i64 n, pv, lv] w fun e w' => GAns w.heap.size er str ss e w' ∧ Below w.heap.size w w') ∧
    (∀ w pv lv, StrsAt w pv pieces → IsC w lv lost → Calls Tryd.prog 49 #[.int .i64 d, .int .i64 s, .int .i64 x, .int .i64 n, pv, lv] w fun e w' => ∃ v, e = .returned (.tuple #[.string str, v, .int .i64 er]) ∧ StrsNew w' w.heap.size v ss ∧ Below w.heap.size w w') := by
  have no : ∀ k : Nat, 1 ≤ k → k ≤ 100 → (∀ w pv lv, StrsAt w pv pieces → IsC w lv lost → Calls Tryd.prog 45 #[.int .i64 d, .int .i64 s, .int .i64 x, .int .i64 n, pv, lv] w fun e w' => e = .returned (.int .i64 k) ∧ w' = w) →
      (∀ w pv lv, StrsAt w pv pieces → IsC w lv lost → Calls Tryd.prog 49 #[.int .i64 d, .int .i64 s, .int .i64 x, .int .i64 n, pv, lv] w fun e w' => GNo k e ∧ Below w.heap.size w w') →
      ∃ str ss er, ss.length ≤ 16 ∧
    (∀ w pv lv, Table w → StrsAt w pv pieces → IsC w lv lost → Calls Tryd.prog 24 #[.int .i64 d, .int .i64 s, .int .i64 x, .int .i64 n, pv, lv] w fun e w' => GAns w.heap.size er str ss e w' ∧ Below w.heap.size w w') ∧
    (∀ w pv lv, StrsAt w pv pieces → IsC w lv lost → Calls Tryd.prog 49 #[.int .i64 d, .int .i64 s, .int .i64 x, .int .i64 n, pv, lv] w fun e w' => ∃ v, e = .returned (.tuple #[.string str, v, .int .i64 er]) ∧ StrsNew w' w.heap.size v ss ∧ Below w.heap.size w w') := by
    intro k hk1 hk2 h1 h2
    refine ⟨ByteArray.empty, [], k, by simp, fun w pv lv _ hp hl => ?_, fun w pv lv hp hl => ?_⟩
    · refine (wGather_no pv lv w k hk1 hk2 d s x n (h1 w pv lv hp hl)).mono ?_
      rintro e w' ⟨he, rfl⟩
      exact ⟨.inr ⟨rfl, he⟩, Below.refl _ _⟩
    · refine (h2 w pv lv hp hl).mono ?_
      rintro e w' ⟨he, hb⟩
      exact ⟨_, he, ⟨none, 0, rfl, .inl rfl⟩, hb⟩
  cases h1 : okCounts d s
  · refine no 3 (by omega) (by omega) (fun w pv lv _ _ => gFault_count pv lv w d s x n h1) (fun w pv lv _ _ => (rGather_count d s x n pv lv h1 w).mono ?_)
    rintro e w' ⟨he, rfl⟩
    exact ⟨he, Below.refl _ _⟩
  cases h2 : okWay x
  · refine no 4 (by omega) (by omega) (fun w pv lv _ _ => gFault_way pv lv w d s x n h1 h2) (fun w pv lv _ _ => (rGather_way d s x n pv lv h1 h2 w).mono ?_)
    rintro e w' ⟨he, rfl⟩
    exact ⟨he, Below.refl _ _⟩
  by_cases h3 : 0 ≤ n ∧ n ≤ 400
  · have h1' := of_decide_eq_true h1
    have h2' := of_decide_eq_true h2
    obtain ⟨d, rfl⟩ := Int.eq_ofNat_of_zero_le (show 0 ≤ d by omega)
    obtain ⟨s, rfl⟩ := Int.eq_ofNat_of_zero_le (show 0 ≤ s by omega)
    obtain ⟨x, rfl⟩ := Int.eq_ofNat_of_zero_le (show 0 ≤ x by omega)
    obtain ⟨n, rfl⟩ := Int.eq_ofNat_of_zero_le (show 0 ≤ n by omega)
    by_cases h4 : ShapeOk d s ((n + d - 1) / d) pieces lost
    · have hF := fun w pv lv hp hl => gFault_rest pv lv w d s x n pieces lost hp hl hll hpl (by omega) (by omega) (by omega) (by omega) (by omega) hsz true ⟨fun _ => h4, fun _ => rfl⟩
      by_cases h5 : s < lost.length
      · refine no 7 (by omega) (by omega) (fun w pv lv hp hl => ?_) (fun w pv lv hp hl => (rGather_few d s x n pieces lost pv lv w hp hl hll hpl (by omega) (by omega) (by omega) (by omega) (by omega) hsz h4 h5).mono ?_)
        · have := hF w pv lv hp hl
          rwa [if_pos rfl, if_pos h5] at this
        · rintro e w' ⟨he, hd⟩
          exact ⟨he, hd.below⟩
      · obtain ⟨ps, hfit⟩ : ∃ ps, Fits d ((n + d - 1) / d) (chosen (left_ lost) d s) (fun p => nums (pieces.getD p ByteArray.empty)) ps := by
          obtain ⟨_, _, _, ⟨_, ps, _, h, _⟩, _⟩ := rGather_ok d s x n _ pieces lost pv0 lv0 w0 hp0 hl0 (by omega) (by omega) (by omega) (by omega) (by omega) rfl hsz h4 (by omega) []
          exact ⟨ps, h⟩
        have htl : (texts ps (sums (facs d s) ps ((n + d - 1) / d))).length = d + s := by simp [texts, sums, facs, hfit.len]
        refine ⟨mkS (ps.flatten.take n), texts ps (sums (facs d s) ps ((n + d - 1) / d)), 0, by rw [htl]; omega, fun w pv lv ht hp hl => ?_, fun w pv lv hp hl => ?_⟩
        · refine (wGather_ok pv lv w hS d s x n _ pieces lost ps ht hp hl (by omega) (by omega) (by omega) (by omega) (by omega) rfl hsz h4 (by omega) hfit).mono ?_
          rintro e w' ⟨b, hb, rfl, hblk, hbel⟩
          exact ⟨.inl ⟨b, hb, by rw [htl], hblk⟩, hbel⟩
        · refine (rGather_ok d s x n _ pieces lost pv lv w hp hl (by omega) (by omega) (by omega) (by omega) (by omega) rfl hsz h4 (by omega)).mono ?_
          rintro e w' ⟨v, ps', rfl, hfit', hst, hb⟩
          obtain rfl : ps' = ps := Fits.sole (by omega) (enough d s lost (by omega)) hfit' hfit
          exact ⟨v, rfl, hst, hb⟩
    · have hF := fun w pv lv hp hl => gFault_rest pv lv w d s x n pieces lost hp hl hll hpl (by omega) (by omega) (by omega) (by omega) (by omega) hsz false ⟨fun h => (by cases h), fun h => absurd h h4⟩
      refine no 6 (by omega) (by omega) (fun w pv lv hp hl => ?_) (fun w pv lv hp hl => (rGather_shape d s x n pieces lost pv lv w hp hl hll hpl (by omega) (by omega) (by omega) (by omega) (by omega) hsz h4).mono ?_)
      · have := hF w pv lv hp hl
        rwa [if_neg (by decide)] at this
      · rintro e w' ⟨he, hd⟩
        exact ⟨he, hd.below⟩
  · refine no 5 (by omega) (by omega) (fun w pv lv _ _ => gFault_long pv lv w d s x n h1 h2 h3) (fun w pv lv _ _ => (rGather_long d s x n pv lv h1 h2 h3 w).mono ?_)
    rintro e w' ⟨he, rfl⟩
    exact ⟨he, Below.refl _ _⟩

set_option maxRecDepth 100000 in
set_option maxHeartbeats 1000000 in
theorem bgather_any (hS : SumsOk) (B b c : Nat) (d s x n : Int) (pieces : List ByteArray) (lost : List Int) (pv lv : Value) (w : World) (ht : Table w) (hbook : BookAt w B b c w.heap.size) (hc : c ≤ 8)
    (hp : CameT w pv pieces.length) (hst : StrsAt w pv pieces) (hpl : pieces.length ≤ 8796093022204) (hsz : ∀ p, (h : p < pieces.length) → pieces[p].size < 2 ^ 62) (hlc : CameT w lv lost.length) (hli : IsC w lv lost) (hll : lost.length ≤ 17592186044412) :
    Calls Tryd.prog 25 #[.pointer (some ⟨b, 0, none⟩), .int .i64 d, .int .i64 s, .int .i64 x, .int .i64 n, pv, lv] w fun e w' => e = .returned (.bool true) ∧ BookAt w' B b (c + 1) w'.heap.size ∧ Below B w w' := by
  obtain ⟨str, ss, er, hss, h1, h2⟩ := gather_both hS d s x n pieces lost (by omega) (by omega) hsz w pv lv hst hli
  have H1 : Hid _ := h1
  have H2 : Hid _ := h2
  have hle := lendT_both pieces pv w hp hst hpl
  have HLE : Hid _ := hle
  have HB : Hid (BookAt w B b c w.heap.size) := hbook
  have hBb := hbook.1
  have hblt : b < w.heap.size := by obtain ⟨_, kv, es, _, h, _⟩ := hbook; exact h.lt
  have HST : Hid (StrsAt w pv pieces) := hst
  have HLI : Hid (IsC w lv lost) := hli
  have HLC : Hid (CameT w lv lost.length) := hlc
  clear hbook h1 h2 hle hst hsz hli hlc
  go_enter Tryd.func25, Tryd.ntmps25
  go_wp2_with fail
  refine Calls.mono HLE.out ?_
  rintro e w1 ⟨p, rfl, hst1, hb1, hwh⟩
  have HWH : Hid _ := hwh
  have HST1 : Hid (StrsAt w1 p pieces) := hst1
  have hlI := lendI_both lost lv w1 (HLC.out.to hb1.size) (HLI.out.to hb1) hll
  have HLIB : Hid _ := hlI
  clear HLE hwh hst1 hlI
  go_wp2_with fail
  refine Calls.mono HLIB.out ?_
  rintro e w1b ⟨q, rfl, hiq, hb1b, hwhI⟩
  have HWHI : Hid _ := hwhI
  have hb01b := hb1.trans (hb1b.mono hb1.size)
  have hc1 := H1.out w1b p q (table_to ht hb01b) (HST1.out.to hb1b) hiq
  have HC1 : Hid _ := hc1
  clear hwhI hiq hc1 HLIB
  go_wp2_with fail
  refine Calls.mono HC1.out ?_
  rintro e w2 ⟨hans, hb2⟩
  clear HC1
  have hb02 := hb01b.trans (hb2.mono hb01b.size)
  have hc2 := H2.out w2 pv lv (HST.out.to hb02) (HLI.out.to hb02)
  have HC2 : Hid _ := hc2
  clear hc2
  obtain ⟨lv2, lo, rfl, hlo, hans⟩ : ∃ lv2 lo, e = .returned (.tuple #[.string str, lv2, .int .i64 er]) ∧ lv2 = .slice lo ss.length ss.length ∧ ((ss = [] ∧ lo = none) ∨ ∃ lb, w1b.heap.size ≤ lb ∧ lo = some ⟨lb, 0, none⟩ ∧ Blk w2 lb 9 (strV ss)) := by
    rcases hans with ⟨lb, h1, h2, h3⟩ | ⟨h1, h2⟩
    · exact ⟨_, _, h2, rfl, .inr ⟨lb, h1, rfl, h3⟩⟩
    · exact ⟨_, none, h2, by rw [h1]; rfl, .inl ⟨h1, rfl⟩⟩
  have HANS : Hid _ := hans
  subst hlo
  clear hans
  go_wp2_with fail
  refine Calls.mono HC2.out ?_
  rintro e w3 ⟨mv, rfl, hnew, hb3⟩
  clear HC2
  have hb1b3 := hb2.trans (hb3.mono hb2.size)
  have hb13 := hb1b.trans (hb1b3.mono hb1b.size)
  have hw3 := HWH.out w3 hb13
  have HNEW : Hid (StrsNew w3 w1b.heap.size mv ss) := hnew.low hb2.size
  have hb03 := hb02.trans (hb3.mono hb02.size)
  clear hnew
  go_wp2_with fail
  refine Calls.mono hw3 ?_
  rintro e w4 ⟨rfl, hwr⟩
  clear hw3
  have hb04 : Below w.heap.size w w4 := hwr.below hb03 hb03.size (Nat.le_refl _)
  have hw4 := HWHI.out w4 (HLI.out.to hb04) (fun g t vs hg1 hg2 hgb => hwr.blk (hgb.to hb1b3) hg2)
  have HW4 : Hid _ := hw4
  have HNEW4 : Hid (StrsNew w4 w1b.heap.size mv ss) := (Wrote.hi_mono hwr hb1b.size).strs HNEW.out
  have HANS4 : Hid ((ss = [] ∧ lo = none) ∨ ∃ lb, w1b.heap.size ≤ lb ∧ lo = some ⟨lb, 0, none⟩ ∧ Blk w4 lb 9 (strV ss)) := by
    rcases HANS.out with h | ⟨lb, h1, h2, h3⟩
    · exact .inl h
    · exact .inr ⟨lb, h1, h2, hwr.blk (h3.to hb3) (Nat.le_trans hb1b.size h1)⟩
  have HB04 : Hid (Below w.heap.size w w4) := hb04
  have hsz1 := hb1.size
  have hsz1b := hb1b.size
  clear hw4 hwr HNEW HANS hb04 hb03 hb13 hb1b3 hb02 hb2 hb3
  go_wp2_with fail
  refine Calls.mono HW4.out ?_
  rintro e w4b ⟨rfl, hwr⟩
  have hst4 : StrsAt w4b mv ss := (hwr.strs HNEW4.out).at
  have hb04 : Below w.heap.size w w4b := hwr.below HB04.out HB04.out.size hsz1
  have hblk4 : (ss = [] ∧ lo = none) ∨ ∃ lb, w1b.heap.size ≤ lb ∧ lo = some ⟨lb, 0, none⟩ ∧ Blk w4b lb 9 (strV ss) := by
    rcases HANS4.out with h | ⟨lb, h1, h2, h3⟩
    · exact .inl h
    · exact .inr ⟨lb, h1, h2, hwr.blk h3 h1⟩
  have hst5 : StrsAt w4b (.slice lo ss.length ss.length) ss := by
    rcases hblk4 with ⟨h1, rfl⟩ | ⟨lb, h1, rfl, h3⟩
    · exact ⟨none, _, rfl, .inl h1⟩
    · exact StrsAt.of_blk h3 _ _ rfl
  have hsame := sameT_yes ss _ _ _ hst5 hst4 (by omega)
  have HBK4 : Hid _ := hblk4
  have HB04b : Hid (Below w.heap.size w w4b) := hb04
  clear hst4 hst5 hblk4 hwr HNEW4 HANS4 hb04 HW4
  go_wp2_with fail
  refine Calls.mono hsame ?_
  rintro e w5 ⟨rfl, nq, rfl⟩
  clear hsame
  have hb5 : Below w.heap.size w (w4b.drewN nq) := below_drewN HB04b.out nq
  have hB : B ≤ w.heap.size := by omega
  have htx : Calls Tryd.prog 21 #[.pointer (some ⟨b, 0, none⟩), .slice lo ss.length ss.length] (w4b.drewN nq) fun e w' => e = .returned (.tuple #[]) ∧ BookAt w' B b (c + 1) w'.heap.size ∧ Below B (w4b.drewN nq) w' := by
    rcases HBK4.out with ⟨h1, rfl⟩ | ⟨lb, h1, rfl, h3⟩
    · have := texts_any B b c w.heap.size ss.length none [] (w4b.drewN nq) (HB.out.to hb5) hc (by omega) hB (by simp [h1]) (.inl ⟨by simp [h1], rfl⟩)
      exact this
    · exact texts_any B b c lb ss.length (some ⟨lb, 0, none⟩) (strV ss) (w4b.drewN nq) ((HB.out.to hb5).mono (by omega)) hc (by omega) (by omega) (by simp [strV]) (.inr ⟨rfl, h3⟩)
  clear HBK4
  go_wp2_with fail
  refine Calls.mono htx ?_
  rintro e w6 ⟨rfl, hbk6, hb6⟩
  have hb06 := (hb5.mono hB).trans hb6
  clear htx
  go_wp2_with fail
  refine (num_any _ _).mono ?_
  rintro e w' ⟨rfl, rfl⟩
  go_wp2
  go_ret
  exact ⟨rfl, hbk6, hb06⟩
end Go.Proofs.YtlnpppdffhibjaaDoor.Top

namespace Go.Proofs.YtlnpppdffhibjaaDoor.Top
open Go.RowKit Mem FieldWalks Tab ByTab Parts Book Ref
open Gf (chosen left_ Fits)
open Plans (rowF)

theorem gather_ex_chosen : chosen (left_ [0]) 1 1 = [1] := by decide +kernel
theorem gather_ex_fit : Fits 1 2 (chosen (left_ [0]) 1 1) (fun p => nums (([⟨#[63, 63]⟩, ⟨#[97, 98]⟩] : List ByteArray).getD p ByteArray.empty)) [[97, 98]] := by
  refine ⟨rfl, fun j hj => ?_, fun j hj => ?_, fun p hp t ht => ?_⟩
  · match j, hj with
    | 0, _ => rfl
  · match j, hj with
    | 0, _ => intro x hx; simp at hx; omega
  · rw [gather_ex_chosen] at hp
    obtain rfl : p = 1 := by simpa using hp
    match t, ht with
    | 0, _ => decide +kernel
    | 1, _ => decide +kernel
theorem gather_ex_shape : ShapeOk 1 1 2 [⟨#[63, 63]⟩, ⟨#[97, 98]⟩] [0] := by
  refine ⟨rfl, fun k hk => ?_, fun p hp _ => ?_⟩
  · match k, hk with
    | 0, _ => simp
  · match p, hp with
    | 0, _ => rfl
    | 1, _ => rfl
theorem gather_ex_sizes : ∀ p, (h : p < ([⟨#[63, 63]⟩, ⟨#[97, 98]⟩] : List ByteArray).length) → ([⟨#[63, 63]⟩, ⟨#[97, 98]⟩] : List ByteArray)[p].size < 2 ^ 62 := fun p h => by
  match p, h with
  | 0, _ => exact (show (⟨#[63, 63]⟩ : ByteArray).size < 2 ^ 62 by decide)
  | 1, _ => exact (show (⟨#[97, 98]⟩ : ByteArray).size < 2 ^ 62 by decide)
theorem gather_ex_texts : texts [[97, 98]] (sums (facs 1 1) [[97, 98]] 2) = [⟨#[97, 98]⟩, ⟨#[97, 98]⟩] := by decide +kernel
theorem gather_ex_str : mkS (([[97, 98]] : List (List Nat)).flatten.take 2) = ⟨#[97, 98]⟩ := by decide +kernel

set_option maxRecDepth 100000 in
set_option maxHeartbeats 1000000 in
theorem gathers_any (hS : SumsOk) (d s x n : Int) (pieces : List ByteArray) (lost : List Int) (pv lv : Value) (w : World) (ht : Table w) (h0 : 0 < w.heap.size)
    (hp : CameT w pv pieces.length) (hst : StrsAt w pv pieces) (hpl : pieces.length ≤ 8796093022204) (hsz : ∀ p, (h : p < pieces.length) → pieces[p].size < 2 ^ 62) (hlc : CameT w lv lost.length) (hli : IsC w lv lost) (hll : lost.length ≤ 17592186044412) :
    Calls Tryd.prog 6 #[.int .i64 d, .int .i64 s, .int .i64 x, .int .i64 n, pv, lv] w fun e w' => e = .returned (.bool true) ∧ Below w.heap.size w w' := by
  have HH : Hid (CameT w pv pieces.length ∧ StrsAt w pv pieces ∧ pieces.length ≤ 8796093022204 ∧ (∀ p, (h : p < pieces.length) → pieces[p].size < 2 ^ 62) ∧ CameT w lv lost.length ∧ IsC w lv lost ∧ lost.length ≤ 17592186044412) := ⟨hp, hst, hpl, hsz, hlc, hli, hll⟩
  clear hp hst hpl hsz hlc hli hll
  obtain ⟨wb, hwb⟩ : ∃ wb, wb = w.alloc (.cells #[.int .i64 0, .slice none 0 0] 37) := ⟨_, rfl⟩
  have hb0 : BookAt wb w.heap.size w.heap.size 0 wb.heap.size := by rw [hwb]; exact BookAt.start w _ (Nat.le_refl _) _
  have hw0 : Below w.heap.size w wb := by rw [hwb]; exact below_alloc w _
  have hwbs : wb.heap.size = w.heap.size + 1 := by rw [hwb]; simp
  obtain ⟨wk, hwk⟩ : ∃ wk, wk = wb.alloc (.cells #[.string ⟨#[63, 63]⟩, .string ⟨#[97, 98]⟩] 9) := ⟨_, rfl⟩
  have hbk : Below wb.heap.size wb wk := by rw [hwk]; exact below_alloc wb _
  have hstk : StrsAt wk (.slice (some ⟨wb.heap.size, 0, none⟩) 2 2) [⟨#[63, 63]⟩, ⟨#[97, 98]⟩] := by rw [hwk]; exact StrsAt.of_blk (Blk.new wb _ _) 2 2 rfl
  have hwks : wk.heap.size = w.heap.size + 1 + 1 := by rw [hwk]; simp [hwbs]
  obtain ⟨wl, hwl⟩ : ∃ wl, wl = wk.alloc (.cells #[.int .i64 0] 3) := ⟨_, rfl⟩
  have hbl0 : Below wk.heap.size wk wl := by rw [hwl]; exact below_alloc wk _
  have hbl : Below wb.heap.size wb wl := hbk.trans (hbl0.mono hbk.size)
  have hstl := hstk.to hbl0
  have hil : IsC wl (.slice (some ⟨wk.heap.size, 0, none⟩) 1 1) [0] := by
    refine ⟨_, 0, rfl, .inr ⟨wk.heap.size, 0, rfl, by rw [hwl]; exact (Blk.new wk _ _).lt, fun k hk => ?_⟩⟩
    obtain rfl : k = 0 := by simp at hk; omega
    rw [hwl]; exact (Blk.new wk _ _).cell_some rfl
  have hex := wGather_ok (.slice (some ⟨wb.heap.size, 0, none⟩) 2 2) (.slice (some ⟨wk.heap.size, 0, none⟩) 1 1) wl hS 1 1 0 2 2 [⟨#[63, 63]⟩, ⟨#[97, 98]⟩] [0] [[97, 98]] (table_to (table_to ht hw0) hbl) hstl hil (by omega) (by omega) (by omega) (by omega) (by omega) (by decide)
    gather_ex_sizes gather_ex_shape (by decide) gather_ex_fit
  rw [gather_ex_texts, gather_ex_str] at hex
  have HEX : Hid _ := hex
  have HB0 : Hid (BookAt wb w.heap.size w.heap.size 0 wb.heap.size) := hb0
  have HW0 : Hid (Below w.heap.size w wb) := hw0
  have HBLW : Hid (Below wb.heap.size wb wl) := hbl
  have HT : Hid (Table w) := ht
  have HWL : Hid (((w.alloc (.cells #[.int .i64 0, .slice none 0 0] 37)).alloc (.cells #[.string ⟨#[63, 63]⟩, .string ⟨#[97, 98]⟩] 9)).alloc (.cells #[.int .i64 0] 3) = wl) := by show _ = _; rw [hwl, hwk, hwb]
  have HWBS : Hid (wb.heap.size = w.heap.size + 1) := hwbs
  have hwbs2 : w.heap.size + 1 ≤ wb.heap.size := by omega
  rw [hwbs, hwks] at HEX
  clear hb0 hw0 hbl hstl hex ht hwl hwb hwbs hwk hbk hstk hwks hbl0 hil
  go_enter Tryd.func6, Tryd.ntmps6
  go_wp2_with fail
  rw [HWL.out]
  refine Calls.mono HEX.out ?_
  rintro e w1 ⟨lb, hlb, rfl, hblk, hb1⟩
  have hbk1 := (HB0.out.to HBLW.out).to hb1
  have hb01 := (HW0.out.trans (HBLW.out.mono (by omega))).trans (hb1.mono (by have := HBLW.out.size; omega))
  have hlb' : wb.heap.size ≤ lb := Nat.le_trans HBLW.out.size hlb
  have hbA : Below w1.heap.size w1 (w1.alloc (.cells #[.string ⟨#[97, 98]⟩, .string ⟨#[97, 98]⟩] 9)) := below_alloc w1 _
  have hsA : StrsAt (w1.alloc (.cells #[.string ⟨#[97, 98]⟩, .string ⟨#[97, 98]⟩] 9)) (.slice (some ⟨lb, 0, none⟩) 2 2) [⟨#[97, 98]⟩, ⟨#[97, 98]⟩] := (StrsAt.of_blk (w := w1) hblk 2 2 rfl).to hbA
  have hsB : StrsAt (w1.alloc (.cells #[.string ⟨#[97, 98]⟩, .string ⟨#[97, 98]⟩] 9)) (.slice (some ⟨w1.heap.size, 0, none⟩) 2 2) [⟨#[97, 98]⟩, ⟨#[97, 98]⟩] := StrsAt.of_blk (Blk.new w1 _ _) 2 2 rfl
  have hsame := sameT_yes [⟨#[97, 98]⟩, ⟨#[97, 98]⟩] _ _ _ hsA hsB (by decide)
  have HBA : Hid (Below w1.heap.size w1 (w1.alloc (.cells #[.string ⟨#[97, 98]⟩, .string ⟨#[97, 98]⟩] 9))) := hbA
  have HBL : Hid (Blk w1 lb 9 (strV [⟨#[97, 98]⟩, ⟨#[97, 98]⟩])) := hblk
  have HBK : Hid (BookAt w1 w.heap.size w.heap.size 0 wb.heap.size) := hbk1
  clear hsA hsB hbA hblk hbk1 hlb
  go_wp2_with fail
  refine Calls.mono hsame ?_
  rintro e w2 ⟨rfl, nq, rfl⟩
  clear hsame
  have hb12 : Below w1.heap.size w1 ((w1.alloc (.cells #[.string ⟨#[97, 98]⟩, .string ⟨#[97, 98]⟩] 9)).drewN nq) := below_drewN HBA.out nq
  have hblk2 := HBL.out.to hb12
  have hbk2 := HBK.out.to hb12
  have hb02 := hb01.trans (hb12.mono hb01.size)
  generalize (w1.alloc (.cells #[.string ⟨#[97, 98]⟩, .string ⟨#[97, 98]⟩] 9)).drewN nq = w2 at *
  clear hb12
  go_wp2_with fail
  refine (num_any _ _).mono ?_
  rintro e w' ⟨rfl, rfl⟩
  have htx := texts_any w.heap.size w.heap.size 0 lb 2 (some ⟨lb, 0, none⟩) _ w' (hbk2.mono (M := lb) hlb') (by omega) (by omega) (by omega) rfl (.inr ⟨rfl, hblk2⟩)
  clear hbk2 hblk2
  go_wp2_with fail
  refine Calls.mono htx ?_
  rintro e w3 ⟨rfl, hbk3, hb3⟩
  have hb03 := hb02.trans hb3
  clear htx
  have hT3 := table_below HT.out hb03 h0
  have hs1 := bgather_any hS w.heap.size w.heap.size 1 d s x n pieces lost pv lv w3 hT3 hbk3 (by omega) (HH.out.1.to hb03.size) (HH.out.2.1.to hb03) HH.out.2.2.1 HH.out.2.2.2.1 (HH.out.2.2.2.2.1.to hb03.size) (HH.out.2.2.2.2.2.1.to hb03) HH.out.2.2.2.2.2.2
  clear hbk3
  go_wp2_with fail
  refine Calls.mono hs1 ?_
  rintro e w4 ⟨rfl, hbk4, hb4⟩
  have hb04 := hb03.trans hb4
  clear hs1 hT3
  have hT4 := table_below HT.out hb04 h0
  have hs2 := bgather_any hS w.heap.size w.heap.size 2 d s x n pieces lost pv lv w4 hT4 hbk4 (by omega) (HH.out.1.to hb04.size) (HH.out.2.1.to hb04) HH.out.2.2.1 HH.out.2.2.2.1 (HH.out.2.2.2.2.1.to hb04.size) (HH.out.2.2.2.2.2.1.to hb04) HH.out.2.2.2.2.2.2
  clear hbk4
  go_wp2_with fail
  refine Calls.mono hs2 ?_
  rintro e w5 ⟨rfl, hbk5, hb5⟩
  have hb05 := hb04.trans hb5
  clear hs2 hT4
  have hlk := looks_any _ _ _ _ w5 hbk5 (by omega)
  clear hbk5
  go_wp2_with fail
  refine Calls.mono hlk ?_
  rintro e w6 ⟨rfl, hb6⟩
  have hb06 := hb05.trans (hb6.mono hb05.size)
  clear hlk
  go_wp2
  go_ret
  exact ⟨rfl, hb06⟩
end Go.Proofs.YtlnpppdffhibjaaDoor.Top

namespace Go.Proofs.YtlnpppdffhibjaaDoor.Top
open Go.RowKit Mem FieldWalks Tab ByTab Parts

set_option maxRecDepth 100000 in
set_option maxHeartbeats 1000000 in
/-- ████ Sums, in each of the three ways. ████ -/
theorem sums_any : SumsOk := by
  intro x rows ps L rv pv w hx ht hr hp hfit
  rcases (show x = 0 ∨ x = 1 ∨ x = 2 by omega) with rfl | rfl | rfl
  · go_enter Tryd.func75, Tryd.ntmps75
    go_wp2_with fail
    refine (sumsByTables_any rows ps L rv pv _ ht hr hp.rows hfit).mono ?_
    rintro e w1 ⟨v, rfl, hrow, hb⟩
    go_wp2
    go_ret
    exact ⟨_, rfl, hrow, hb⟩
  · go_enter Tryd.func75, Tryd.ntmps75
    go_wp2_with fail
    refine (Planes.sumsByPlanes_any rows ps L rv pv _ ht hr hp.rows hfit).mono ?_
    rintro e w1 ⟨v, rfl, hrow, hb⟩
    go_wp2
    go_ret
    exact ⟨_, rfl, hrow, hb⟩
  · go_enter Tryd.func75, Tryd.ntmps75
    go_wp2_with fail
    refine (Plans.sumsByPlan_any rows ps L rv pv _ ht hr hp hfit).mono ?_
    rintro e w1 ⟨v, rfl, hrow, hb⟩
    go_wp2
    go_ret
    exact ⟨_, rfl, hrow, hb⟩
end Go.Proofs.YtlnpppdffhibjaaDoor.Top

/- Lists that come in, opened: strings, numbers. -/
namespace Go.Proofs.YtlnpppdffhibjaaDoor.CardArgs
open Go.ChangeShapes Go.WideShapes Go.ChangeAt Go.RowKit Mem Ref

theorem laidOut : laidOutB Tryd.prog = true := by kernel_rfl
theorem cellsStr : Tryd.prog.cellsOf 9 = 1 := by kernel_rfl
theorem cellsInt : Tryd.prog.cellsOf 3 = 1 := by kernel_rfl
theorem bytesStr : Tryd.prog.bytesOf 9 = 16 := by kernel_rfl
theorem bytesInt : Tryd.prog.bytesOf 3 = 8 := by kernel_rfl

/-- A slice that is one lies in a block that is there, at no inner place. -/
theorem slice_plain {P : Program} {W : World} {r : Reach} {base : Nat} {t e : TypeId} {a : Addr} {len cap : Nat} (ht : P.underlying t = some (.slice e)) (h : Value.okWide P W r base t (.slice (some a) len cap)) : ∃ b off, a = ⟨b, off, none⟩ ∧ b < W.heap.size := by
  simp only [Value.okWide, ht, Cell.okWide, Cell.ok] at h
  obtain ⟨_, _, _, h1, row, cells, h2, _⟩ := h
  refine ⟨a.block, a.off, ?_, ?_⟩
  · cases a; simp at h1; subst h1; rfl
  · apply Classical.byContradiction
    intro hn
    have : W.heap[a.block]? = none := by simp; omega
    simp [World.shape?, this] at h2

theorem wf_i64 {x : Int} (h : (Lit.int .i64 x).wf = true) : -9223372036854775808 ≤ x ∧ x ≤ 9223372036854775807 := by
  have h1 : IntKind.i64.min = -9223372036854775808 := by decide
  have h2 : IntKind.i64.max = 9223372036854775807 := by decide
  simp only [Lit.wf, h1, h2, Bool.and_eq_true, decide_eq_true_eq] at h
  exact h
theorem weights_all {H : Type} {P : Program} {e : TypeId} {d : DataW H} {n : Nat} : ∀ {l : List (DataW H)}, d ∈ l → n ∈ d.weights P e → n ∈ DataW.weightsAll P e l
  | [], h, _ => by cases h
  | x :: l, h, hn => by
    simp only [DataW.weightsAll, List.mem_append]
    rcases List.mem_cons.1 h with rfl | h
    · exact .inl hn
    · exact .inr (weights_all h hn)

section
set_option maxRecDepth 100000
variable {H : Type} {enc : TypeId × Value → H} {W : World} {base j : Nat} {v : Value} {d : DataW H} {p : List MemPlace} {ts : List TypeId} {ds : List (DataW H)}
theorem strs_arg (hval : Value.okWide Tryd.prog W .any base 38 v) (h : DataW.Trod enc Tryd.prog W 0 (fun _ => true) true 38 v d p) (hsz : (DataW.weightsEach Tryd.prog ts ds).all (· ≤ reachBytes) = true) (hts : ts[j]? = some 38) (hds : ds[j]? = some d) :
    ∃ pieces : List ByteArray, CameT W v pieces.length ∧ StrsAt W v pieces ∧ pieces.length ≤ 8796093022204 ∧ ∀ q, (h : q < pieces.length) → pieces[q].size < 2 ^ 62 := by
  obtain ⟨fuel, h⟩ := h
  obtain ⟨a0, len0, cap0, rfl⟩ := okWide_slice Tryd.underlying38 hval
  have hcs : (Value.slice a0 len0 cap0).cells.toList = [.slice a0 len0 cap0] := rfl
  rw [hcs] at h
  rcases Deep.open_strs Tryd.underlying38 Tryd.underlying9 cellsStr h with ⟨h1, h2⟩ | ⟨a, len, cap, m, Sx, h1, h2, h3, h4, h5, h6, h7⟩
  · injection h1 with h1 _
    rw [h1]
    exact ⟨[], .inl rfl, ⟨none, 0, rfl, .inl rfl⟩, by simp, fun q hq => by simp at hq⟩
  · injection h1 with h1 _
    rw [h1] at hval ⊢
    obtain ⟨b, off, rfl, hb⟩ := slice_plain Tryd.underlying38 hval
    simp only [Prod.mk.injEq] at h6
    obtain ⟨rfl, _⟩ := h6
    have hm : m = cap := by simpa using h5
    have hbytes := sized_slice hsz hts hds Tryd.underlying38
    rw [bytesStr] at hbytes
    simp only [List.length_map, List.length_range] at hbytes
    have hr : reachBytes = 140737488351232 := by decide
    refine ⟨(List.range len).map Sx, .inr ⟨⟨b, off, none⟩, cap, by simp, hb⟩, ⟨_, cap, by simp, .inr ⟨b, off, rfl, hb, fun k hk => ?_⟩⟩, ?_, fun q hq => ?_⟩
    · have hk' : k < len := by simpa using hk
      have := (h7 k (by omega)).1
      rw [Addr.add_lit] at this
      rw [this]; simp
    · simp only [List.length_map, List.length_range]; omega
    · have hq' : q < len := by simpa using hq
      have hmem : (DataW.lit (.string (Sx q).data.toList) : DataW H) ∈ (List.range len).map fun i => (DataW.lit (.string (Sx i).data.toList) : DataW H) := List.mem_map.2 ⟨q, List.mem_range.2 hq', rfl⟩
      have hw := weights_all (P := Tryd.prog) (e := 9) (n := (Sx q).data.toList.length) hmem (by simp [DataW.weights])
      have hall := List.all_eq_true.1 hsz _ (DataW.weights_mem_each hts hds ((Sx q).data.toList.length) (by
        simp only [DataW.weights, Tryd.underlying38, List.mem_cons, List.mem_append]
        exact .inr (.inl hw)))
      have hsq : (Sx q).size = (Sx q).data.toList.length := by rw [Array.length_toList]; rfl
      simp only [List.getElem_map, List.getElem_range]
      rw [hsq]
      have : (Sx q).data.toList.length ≤ reachBytes := by simpa using hall
      omega
theorem ints_arg (hval : Value.okWide Tryd.prog W .any base 45 v) (h : DataW.Trod enc Tryd.prog W 0 (fun _ => true) true 45 v d p) (hsz : (DataW.weightsEach Tryd.prog ts ds).all (· ≤ reachBytes) = true) (hts : ts[j]? = some 45) (hds : ds[j]? = some d) :
    ∃ l : List Int, CameT W v l.length ∧ IsC W v l ∧ l.length ≤ 17592186044412 ∧ ∀ x, x ∈ l → -9223372036854775808 ≤ x ∧ x ≤ 9223372036854775807 := by
  obtain ⟨fuel, h⟩ := h
  obtain ⟨a0, len0, cap0, rfl⟩ := okWide_slice Tryd.underlying45 hval
  have hcs : (Value.slice a0 len0 cap0).cells.toList = [.slice a0 len0 cap0] := rfl
  rw [hcs] at h
  rcases open_ints Tryd.underlying45 Tryd.underlying3 cellsInt h with ⟨h1, h2⟩ | ⟨a, len, cap, zs, h1, h2, h3, h4, h5, h6, h7, h8⟩
  · injection h1 with h1 _
    rw [h1]
    exact ⟨[], .inl rfl, ⟨none, 0, rfl, .inl rfl⟩, by simp, fun q hq => by simp at hq⟩
  · injection h1 with h1 _
    rw [h1] at hval ⊢
    obtain ⟨b, off, rfl, hb⟩ := slice_plain Tryd.underlying45 hval
    simp only [Prod.mk.injEq] at h6
    obtain ⟨rfl, _⟩ := h6
    have hm : zs.length = cap := by simpa using h5
    have hbytes := sized_slice hsz hts hds Tryd.underlying45
    rw [bytesInt] at hbytes
    simp only [lits, List.length_map, List.length_take, List.length_drop] at hbytes
    have hr : reachBytes = 140737488351232 := by decide
    have hlt : (zs.take len).length = len := by rw [List.length_take]; omega
    refine ⟨zs.take len, .inr ⟨⟨b, off, none⟩, cap, by rw [hlt], hb⟩, ⟨_, cap - len, by rw [hlt]; congr 1; omega, .inr ⟨b, off, rfl, hb, fun k hk => ?_⟩⟩, ?_, fun x hx => ?_⟩
    · rw [hlt] at hk
      have := h7 k (by omega)
      rw [Addr.add_lit] at this
      rw [this]; simp [show k < zs.length by omega]
    · rw [hlt]; omega
    · have := h8 x (List.mem_of_mem_take hx)
      exact wf_i64 this
end
end Go.Proofs.YtlnpppdffhibjaaDoor.CardArgs

namespace Go.Proofs.YtlnpppdffhibjaaDoor.GathersCard
open Go.ChangeShapes Go.WideShapes Go.ChangeAt Go.ChangeMaps Go.RowKit

theorem own : ownKnob Tryd.prog.godebug = none := by kernel_rfl
theorem gTab : Tryd.prog.globalNamed "wattle/field.highPowers" = some 0 := by kernel_rfl
theorem gTabType : (Tryd.prog.globals[0]?).map (·.type) = some 106 := by kernel_rfl
theorem cellsTab : Tryd.prog.cellsOf 106 = 7 := by kernel_rfl
theorem cellsByte : Tryd.prog.cellsOf 5 = 1 := by kernel_rfl

/-- What the row's list gives: the table's cells hold its seven numbers. -/
theorem table {W : World} (h : laidMetH Tryd.prog Rows.gathersRow.laid W) : FieldWalks.Table W := by
  have t : Lib.TabIs Tryd.prog W "wattle/field.highPowers" .u8 [29, 58, 116, 232, 205, 135, 19] :=
    Lib.tabIs_of_head (rest := []) gTab gTabType Tryd.underlying106 Tryd.underlying5 cellsByte cellsTab h
  intro k hk
  match k, hk with
  | 0, _ => exact t.cell gTab 0 (by decide)
  | 1, _ => exact t.cell gTab 1 (by decide)
  | 2, _ => exact t.cell gTab 2 (by decide)
  | 3, _ => exact t.cell gTab 3 (by decide)
  | 4, _ => exact t.cell gTab 4 (by decide)
  | 5, _ => exact t.cell gTab 5 (by decide)
  | 6, _ => exact t.cell gTab 6 (by decide)

set_option maxRecDepth 100000 in
theorem contract (H : Type) (enc : TypeId × Value → H) (W : World) (base : Nat) (args : Array Value) (ds gs : List (DataW H)) (before : List MemPlace)
    (hval : ∀ (j : Nat) t v, Tryd.f6.params[j]? = some t → args[j]? = some v → Value.okWide Tryd.prog W .any base t v)
    (hW : DataW.Whole enc Tryd.prog Tryd.f6.params.toList Rows.gathersSpec.vars false W args.toList ds gs before)
    (hsized : (DataW.weightsEach Tryd.prog (Tryd.f6.params.toList ++ (OpenSpec.ofChange Rows.gathersSpec).bare.plain.varTypes Tryd.prog) (ds ++ gs)).all (· ≤ reachBytes) = true) (hL : laidMetH Tryd.prog Rows.gathersRow.laid W) :
    Calls Tryd.prog 6 args W fun e W' => ∃ v, e = .returned v ∧ Rows.gathersSpec.post enc Tryd.prog Tryd.f6 false true false false W args v W' := by
  have hW' := hW
  have hlt := hW.lt
  obtain ⟨p, q, hA0, hV, rfl, hfz, hnd⟩ := hW
  have hA : DataW.TrodAll enc Tryd.prog W 0 (fun _ => true) true Tryd.f6.params.toList args.toList ds p := hA0
  rw [Tryd.params6] at hA hval hsized
  obtain ⟨v0, vs0, d0, ds0, p0, q0, hargs, rfl, rfl, h0, r0⟩ := trodAll_cons hA
  obtain ⟨v1, vs1, d1, ds1, p1, q1, rfl, rfl, rfl, h1, r1⟩ := trodAll_cons r0
  obtain ⟨v2, vs2, d2, ds2, p2, q2, rfl, rfl, rfl, h2, r2⟩ := trodAll_cons r1
  obtain ⟨v3, vs3, d3, ds3, p3, q3, rfl, rfl, rfl, h3, r3⟩ := trodAll_cons r2
  obtain ⟨v4, vs4, d4, ds4, p4, q4, rfl, rfl, rfl, h4, r4⟩ := trodAll_cons r3
  obtain ⟨v5, vs5, d5, ds5, p5, q5, rfl, rfl, rfl, h5, r5⟩ := trodAll_cons r4
  obtain ⟨rfl, rfl, rfl⟩ := trodAll_nil r5
  obtain rfl : args = #[v0, v1, v2, v3, v4, v5] := Array.toList_inj.1 hargs
  obtain ⟨rfl, rfl⟩ := trodVars_none hV
  obtain ⟨a, rfl, rfl, rfl, wa⟩ := open_int Tryd.underlying3 (hval 0 3 v0 rfl rfl) h0
  obtain ⟨b, rfl, rfl, rfl, wb⟩ := open_int Tryd.underlying3 (hval 1 3 v1 rfl rfl) h1
  obtain ⟨c, rfl, rfl, rfl, wc⟩ := open_int Tryd.underlying3 (hval 2 3 v2 rfl rfl) h2
  obtain ⟨x, rfl, rfl, rfl, wx⟩ := open_int Tryd.underlying3 (hval 3 3 v3 rfl rfl) h3
  obtain ⟨pieces, hcame, hstrs, hpl, hpsz⟩ := CardArgs.strs_arg (j := 4) (hval 4 38 v4 rfl rfl) h4 hsized rfl rfl
  obtain ⟨lost, hcl, hil, hll, _⟩ := CardArgs.ints_arg (j := 5) (hval 5 45 v5 rfl rfl) h5 hsized rfl rfl
  clear hA0
  simp only [List.append_nil, List.nil_append] at hW' hlt
  have hT := table hL
  refine (Top.gathers_any Top.sums_any a b c x pieces lost v4 v5 W hT (block_lt_of_cell (hT 0 (by decide))) hcame hstrs hpl hpsz hcl hil hll).mono fun e W' ⟨he, hb⟩ => ?_
  subst he
  have h4' := Below.trod CardArgs.laidOut (by kernel_rfl) (of_decide_eq_true (by kernel_rfl)) h4 hb (fun y hy => hlt y (by simp [hy]))
  have h5' := Below.trod CardArgs.laidOut (by kernel_rfl) (of_decide_eq_true (by kernel_rfl)) h5 hb (fun y hy => hlt y (by simp [hy]))
  exact ⟨_, rfl, _, _, _, [], _, [], hW', trodAll_cons_mk (shut_bool Tryd.underlying4 _) trodAll_mk0,
    trodAll_cons_mk (shut_int Tryd.underlying3 wa) (trodAll_cons_mk (shut_int Tryd.underlying3 wb) (trodAll_cons_mk (shut_int Tryd.underlying3 wc) (trodAll_cons_mk (shut_int Tryd.underlying3 wx) (trodAll_cons_mk h4' (trodAll_cons_mk h5' trodAll_mk0))))), rfl,
    hb.frame _, fun h => by cases h⟩

theorem laid_met (os : Os) : laidMet Tryd.prog Rows.gathersRow.laid ((World.doorLaid Tryd.prog 400 os).forCall (fun _ _ => 0) ⟨#[], #[.int .i64 0, .int .i64 0, .int .i64 0, .int .i64 0, .slice none 0 0, .slice none 0 0], []⟩).memory :=
  laidMet_of_run' 8 (by kernel_rfl) (by kernel_rfl)
theorem reads (os : Os) {H : Type} (enc : TypeId × Value → H) : ∃ places, DataW.whole enc Tryd.prog ((World.doorLaid Tryd.prog 400 os).forCall (fun _ _ => 0) ⟨#[], #[.int .i64 0, .int .i64 0, .int .i64 0, .int .i64 0, .slice none 0 0, .slice none 0 0], []⟩).memory Tryd.f6.params.toList Rows.gathersSpec.vars false #[Value.int .i64 0, Value.int .i64 0, Value.int .i64 0, Value.int .i64 0, Value.slice none 0 0, Value.slice none 0 0].toList 8 = some ([.lit (.int .i64 0), .lit (.int .i64 0), .lit (.int .i64 0), .lit (.int .i64 0), .nil, .nil], [], places) :=
  ⟨[], by kernel_rfl⟩

set_option maxRecDepth 100000 in
theorem lifted (os : Os) (started : os.Started) (H : Type) (enc : TypeId × Value → H) (F : Stop.Interp) :
    ReturnsInHanded {} Tryd.checked os 6 .any ((OpenSpec.ofChange Rows.gathersSpec).preRow enc Tryd.prog Tryd.f6 Rows.gathersRow.domain false Rows.gathersRow.laid) (((OpenSpec.ofChange Rows.gathersSpec).at F).post enc Tryd.prog Tryd.f6 false true false false) := by
  obtain ⟨places, hx⟩ := reads os enc
  refine returnsInHanded_of_row (C := Tryd.checked) (s := OpenSpec.ofChange Rows.gathersSpec) own started (by kernel_rfl) Tryd.func6
    (witness_row_at (enc := enc) (C := Tryd.checked) false (World.doorLaid Tryd.prog 400 os) #[.int .i64 0, .int .i64 0, .int .i64 0, .int .i64 0, .slice none 0 0, .slice none 0 0] rfl (by kernel_rfl) (by kernel_rfl) (by kernel_rfl)
      (OpenSpec.preRow_of_cond 8 hx (by kernel_rfl) (fun k hk => by cases hk) (by kernel_rfl) (laid_met os))) ?_
  intro W base args ds gs before hval hW _ _ hsized hL _ _
  exact contract H enc W base args ds gs before hval hW hsized hL

theorem said : Rows.GathersSaid :=
  OpenClaim.holds_of_cond 6 Tryd.f6 rfl rfl rfl rfl rfl rfl rfl ⟨rfl, rfl, rfl, rfl, rfl⟩ rfl rfl rfl rfl rfl (by kernel_rfl) Tryd.func6 (by kernel_rfl)
    (of_decide_eq_true (by kernel_rfl)) (by unfold Func.isWrapper; first | (rw [if_pos (by decide +kernel)]; kernel_rfl) | (rw [if_neg (by decide +kernel)]; exact ⟨rfl, rfl⟩))
    (fun os started H enc _ F => by rw [OpenClaim.pre_eq_preRow]; exact lifted os started H enc F)

theorem plain (f : FuncId) (fn : Func) (hf : Tryd.pinned.checked.prog.funcNamed "wattle/wattlelaw.Gathers" = some f) (hfn : Tryd.pinned.checked.prog.funcs[f]? = some fn) :
    false = Tryd.pinned.checked.prog.looks [] ∧ ∀ (j : Nat) t, fn.params[j]? = some t → Tryd.pinned.checked.prog.wantsStandIn t = false := by
  obtain rfl : f = 6 := Option.some.inj ((show Tryd.prog.funcNamed "wattle/wattlelaw.Gathers" = some 6 by kernel_rfl).symm.trans hf) |>.symm
  obtain rfl : fn = Tryd.f6 := (Option.some.inj (Tryd.func6.symm.trans hfn)).symm
  refine ⟨by kernel_rfl, fun j t ht => ?_⟩
  rw [Tryd.params6] at ht
  have hm : t = 3 ∨ t = 38 ∨ t = 45 := by
    have := Array.mem_of_getElem? ht
    simp only [List.mem_toArray, List.mem_cons, List.not_mem_nil, or_false] at this
    rcases this with h | h | h | h | h | h <;> simp [h]
  rcases hm with rfl | rfl | rfl
  · exact (show Tryd.prog.wantsStandIn 3 = false by kernel_rfl)
  · exact (show Tryd.prog.wantsStandIn 38 = false by kernel_rfl)
  · exact (show Tryd.prog.wantsStandIn 45 = false by kernel_rfl)
end Go.Proofs.YtlnpppdffhibjaaDoor.GathersCard
namespace Go.Proofs.YtlnpppdffhibjaaDoor
/-- ████ THE CARD ████ -/
theorem gathers_card : Rows.GathersCardSaid :=
  Claim7.holds_tied_plain_at .later [] _ _ _ _ GathersCard.said (fun _ h => by cases h) (by kernel_rfl) (fun _ h => by cases h) gathers_row_tie rfl ⟨rfl, rfl⟩ (by kernel_rfl) rfl GathersCard.plain (by kernel_rfl)
end Go.Proofs.YtlnpppdffhibjaaDoor

