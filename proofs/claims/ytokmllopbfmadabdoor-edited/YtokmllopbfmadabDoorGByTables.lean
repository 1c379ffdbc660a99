import Derived.Test.YtokmllopbfmadabDoorGField
import Derived.Test.YtokmllopbfmadabDoorGMem
import Derived.Laws.CopyOwn
import Derived.Lib.BufferWrite
import Derived.Laws.BytesString
namespace Go.Proofs.YtokmllopbfmadabDoor.ByTab
open Go.RowKit Mem FieldWalks Tab
open Gf (Bytes sumTo addTo)

theorem infoSlice : (Tryd.prog.info? 56).map (fun i => (i.zero, i.size, i.bytes)) = some (some (.slice none 0 0), 1, 24) := by kernel_rfl
theorem make_rows (n : Nat) (hn : n ≤ 100000) (w : World) :
    (Instr.makeSlice 82 (.int .i64 (n : Int)) (.int .i64 (n : Int))).run Tryd.prog w = .ok (.slice (some ⟨w.heap.size, 0, none⟩) n n) (w.alloc (.cells (madeCells #[.slice none 0 0] n) 56)) :=
  run_make_row' 82 56 (.slice none 0 0) 24 Tryd.underlying82 infoSlice rfl .i64 .i64 n (by omega) (by omega) w
theorem made_rows (w : World) (n : Nat) (f : Nat → List Nat) : Filled (w.alloc (.cells (madeCells #[.slice none 0 0] n) 56)) w.heap.size n 0 f := by
  refine Filled.zero ((Blk.new w _ _).eq (toList_madeCells_one _ n)) (by simp) f

/-- What is asked of the rows of factors and of the pieces. -/
structure Fit (rows ps : List (List Nat)) (L : Nat) : Prop where
  some : 0 < ps.length
  few : ps.length ≤ 100
  less : rows.length ≤ 6
  len : ∀ j, (h : j < ps.length) → ps[j].length = L
  wide : ∀ i, (h : i < rows.length) → rows[i].length = ps.length
  rbytes : ∀ i, (h : i < rows.length) → Bytes rows[i]
  pbytes : ∀ j, (h : j < ps.length) → Bytes ps[j]
  short : L ≤ 1000
/-- The sums: of each row of factors. -/
def sums (rows ps : List (List Nat)) (L : Nat) : List (List Nat) := rows.map fun r => sumTo r ps L ps.length

set_option maxRecDepth 100000 in
set_option maxHeartbeats 1000000 in
theorem sumsByTables_any (rows ps : List (List Nat)) (L : Nat) (rv pv : Value) (w : World) (ht : Table w) (hr : RowsAt w rv rows) (hp : RowsAt w pv ps) (hfit : Fit rows ps L) :
    Calls Tryd.prog 61 #[rv, pv] w fun e w' => ∃ v, e = .returned v ∧ RowsC w' v (sums rows ps L) ∧ Below w.heap.size w w' := by
  have hr0 := hr
  obtain ⟨rao, rcap, rfl, hrc⟩ := hr
  have hmk := fun w => make_rows rows.length (by have := hfit.less; omega) w
  have hless := hfit.less
  have HRC : Hid (rows = [] ∨ ∃ b off, rao = some ⟨b, off, none⟩ ∧ b < w.heap.size ∧ ∀ k, (h : k < rows.length) → ∃ u, w.cell? ⟨b, off + k, none⟩ = some u ∧ BsAt w u rows[k]) := hrc
  clear hrc
  go_enter Tryd.func61, Tryd.ntmps61
  go_wp2
  go_loopw [13] (fun i wr => ∃ k : Nat, k ≤ rows.length ∧ i = .int .i64 k ∧ Filled wr w.heap.size rows.length k (fun k => sumTo (rows.getD k []) ps L ps.length) ∧ Below w.heap.size w wr) (fun i _ => rows.length - (intOf i).toNat)
  case atStart => exact ⟨0, Nat.zero_le _, rfl, made_rows w _ _, (Below.refl _ _).alloc (Nat.le_refl _) _⟩
  case round =>
    obtain ⟨k, hk, rfl, hfl, hbel⟩ := hrel
    by_cases hlt : k < rows.length
    · obtain ⟨b, off, rfl, hb, hc⟩ : ∃ b off, rao = some ⟨b, off, none⟩ ∧ b < w.heap.size ∧ ∀ k, (h : k < rows.length) → ∃ u, w.cell? ⟨b, off + k, none⟩ = some u ∧ BsAt w u rows[k] := by
        rcases HRC.out with h | h
        · rw [h] at hlt; simp at hlt
        · exact h
      obtain ⟨u, hu, hbs⟩ := hc k hlt
      rw [← hbel.cell (p := ⟨b, off + k, none⟩) hb] at hu
      have hbs1 := hbs.to hbel
      have hp1 := hp.to hbel
      have hn : hfit.len = hfit.len := rfl
      have e1 : rows.getD k [] = rows[k] := by simp [hlt]
      have E1 : Hid (rows.getD k [] = rows[k]) := e1
      clear hc hbs e1 hn
      go_wp2_with fail
      refine (sumByTables_any rows[k] ps L _ _ _ (table_to ht hbel) hbs1 hp1 hfit.some hfit.few hfit.len (Nat.le_of_eq (hfit.wide k hlt).symm) (hfit.rbytes k hlt) hfit.pbytes hfit.short).mono ?_
      rintro e w2 ⟨c, hc, rfl, hblk, hw2⟩
      have hfl2 := hfl.to hw2
      obtain ⟨⟨v0, hv0⟩, hfr⟩ := hfl2.cell hlt
      have HF : Hid _ := hfl2
      have HB : Hid _ := hblk
      clear hfl hfl2 hblk
      go_wp2
      go_roundw
      case rel =>
        refine ⟨k + 1, by omega, by go_num, ?_, ?_⟩
        · have ho : OwnAt w2 (.slice (some ⟨c, 0, none⟩) L L) (sumTo (rows.getD k []) ps L ps.length) := by
            rw [E1.out]
            exact ⟨c, by rw [Gf.sumTo_length _ _ _ hfit.len _ (Nat.le_refl _)], HB.out⟩
          exact Filled.step HF.out hlt ho
        · exact (hbel.trans (hw2.mono hbel.size)).setCell (Nat.le_refl _) _
      case measure => simp [intOf]; omega
    · obtain rfl : k = rows.length := by omega
      go_wp2
      go_ret
      refine ⟨_, rfl, hfl.rowsC (by simp [sums]) (fun k hk => ?_), hbel⟩
      simp only [sums, List.length_map] at hk
      simp [sums, hk]
end Go.Proofs.YtokmllopbfmadabDoor.ByTab

namespace Go.Proofs.YtokmllopbfmadabDoor.Parts
open Go.RowKit Mem FieldWalks Tab ByTab

/-- A text's bytes. -/
def nums (s : ByteArray) : List Nat := s.data.toList.map UInt8.toNat
theorem nums_length (s : ByteArray) : (nums s).length = s.size := by rw [nums, List.length_map]; rfl
theorem nums_bytes (s : ByteArray) : Gf.Bytes (nums s) := by
  intro x hx; simp [nums] at hx; obtain ⟨u, _, rfl⟩ := hx; exact u.toNat_lt
def cutAt (l : List Nat) (L j : Nat) : List Nat := (List.range L).map fun t => l.getD (j * L + t) 0
def cuts (l : List Nat) (d L : Nat) : List (List Nat) := (List.range d).map (cutAt l L)

/-- copy of a string into the head of a row: as many bytes as both have. -/
theorem run_copy_str {P : Program} (w : World) (dT sT ty elem : TypeId) (g dLen dCap : Nat) (s : ByteArray) (cur : List Value) (t : TypeId)
    (hu : P.underlying dT = some (.slice elem)) (hs : (P.info? elem).map (·.size) = some 1) (hg : Blk w g t cur) (hfit : Nat.min s.size dLen ≤ cur.length) :
    (Builtin.copy_ #[dT, sT] ty #[.slice (some ⟨g, 0, none⟩) dLen dCap, .string s]).run P w =
      .ok (goInt (Nat.min s.size dLen)) (w.setRow g ((bytesV (nums s)).take (Nat.min s.size dLen) ++ cur.drop (Nat.min s.size dLen)).toArray) := by
  have hm : Nat.min s.size dLen ≤ s.size := Nat.min_le_left _ _
  generalize hmm : Nat.min s.size dLen = m at *
  have e : List.take m (List.map (fun b : UInt8 => Value.int IntKind.u8 (b.toNat : Int)) s.data.toList) = (bytesV (nums s)).take m := by simp only [bytesV, nums, List.map_map]; rfl
  have hl : ((bytesV (nums s)).take m).length = m := by simp [nums_length]; omega
  have hst := run_storeCells_at P g 0 t ((bytesV (nums s)).take m) 0 cur.toArray w hg (by rw [hl]; simpa using hfit) (fun v hv => by
    have := List.mem_of_mem_take hv; simp [bytesV] at this; obtain ⟨n, _, rfl⟩ := this; rfl)
  rw [hl] at hst
  simp only [Nat.add_zero, Nat.zero_add, List.take_zero, List.nil_append] at hst
  cases hq : P.info? elem with
  | none => simp [hq] at hs
  | some i =>
    simp [Builtin.copy_, run_underlying hu, Builtin.lenOf, Builtin.firstCells, sizeOf, typeInfo, hq, hmm]
    rw [e, hst]
    simp [Result.andThen]
theorem step_copy_str {P : Program} {ops : Array Oper} {o : Oper} {a : Act} {w : World} {K : Act → World → Prop} {Q : Exit → Act → World → Prop} {E : Prop} (hgd : o.guard = none) (d s : Operand) (dT sT : TypeId)
    (ho : o.op = .call { callee := .builtin .copy, args := #[d, s], argTypes := #[dT, sT] }) (elem : TypeId) (hu : P.underlying dT = some (.slice elem)) (hsz : (P.info? elem).map (·.size) = some 1)
    (g dLen dCap : Nat) (str : ByteArray) (hd : a.eval d = .slice (some ⟨g, 0, none⟩) dLen dCap) (hs : a.eval s = .string str)
    (cur : List Value) (t : TypeId) (hg : Blk w g t cur) (hfit : Nat.min str.size dLen ≤ cur.length) (cs : List Value) (hcs : (bytesV (nums str)).take (Nat.min str.size dLen) ++ cur.drop (Nat.min str.size dLen) = cs)
    (h : ∀ n, K (a.put o.dst (goInt n)) (w.setRow g cs.toArray)) :
    if Region.wanted o (yielded ops a.tmps) = true then Oper.wp P o a w K Q else E := by
  have hw : Region.wanted o (yielded ops a.tmps) = true := by simp [Region.wanted, hgd]
  rw [if_pos hw]
  have hrun := run_copy_str (P := P) w dT sT o.type elem g dLen dCap str cur t hu hsz hg hfit
  rw [hcs] at hrun
  unfold Oper.wp
  simp [execOp, ho, resolve, invoke, builtin, hd, hs, hrun, Result.andThen]
  exact h _

theorem infoByteSize : (Tryd.prog.info? 5).map (·.size) = some 1 := by kernel_rfl
theorem ceil_cast (n d : Nat) (hd : 0 < d) : ((n : Int) + d - 1) / d = (((n + d - 1) / d : Nat) : Int) := by
  rw [Int.natCast_ediv]; congr 1; omega
theorem length_any (d n : Nat) (hd : 0 < d) (hd2 : d ≤ 100) (hn : n ≤ 1000) (w : World) :
    Calls Tryd.prog 54 #[.int .i64 d, .int .i64 n] w fun e w' => e = .returned (.int .i64 ((n + d - 1) / d : Nat)) ∧ w' = w := by
  go_enter Tryd.func54, Tryd.ntmps54
  go_wp2
  go_ret
  refine ⟨?_, rfl⟩
  show Ending.returned (.int .i64 (((n : Int) + d - 1) / d)) = _
  rw [ceil_cast n d hd]

theorem ceil_le (n d : Nat) (hd : 0 < d) : (n + d - 1) / d ≤ n := by
  rcases Nat.eq_zero_or_pos n with h | h
  · subst h; rw [Nat.zero_add, Nat.div_eq_of_lt (by omega)]; omega
  · have : (n + d - 1) / d < n + 1 := by
      rw [Nat.div_lt_iff_lt_mul hd]
      have : (n + 1) * d = n * d + d := by rw [Nat.add_mul]; omega
      have : n * 1 ≤ n * d := Nat.mul_le_mul_left n hd
      omega
    omega

theorem nums_drop (s : ByteArray) (m : Nat) : nums (s.extract m s.size) = (nums s).drop m := by
  simp only [nums]
  rw [show (s.extract m s.size).data = s.data.extract m s.data.size by rw [ByteArray.data_extract]; rfl]
  simp only [Array.toList_extract, List.extract_eq_take_drop, List.map_take, List.map_drop]
  rw [List.take_of_length_le (by simp)]
/-- What the piece holds behind the copy. -/
theorem cut_content (s str : ByteArray) (L k m : Nat) (hm : m = k * L) (hs : nums str = (nums s).drop m) :
    (bytesV (nums str)).take (Nat.min str.size L) ++ (bytesV (List.replicate L 0)).drop (Nat.min str.size L) = bytesV (cutAt (nums s) L k) := by
  have hsz : str.size = (nums s).length - m := by rw [← nums_length, hs, List.length_drop]
  have e : Nat.min str.size L = min ((nums s).length - m) L := by rw [hsz]
  rw [e, hs]
  generalize nums s = l at *
  clear e hsz hs
  apply List.ext_getElem
  · simp [cutAt]; omega
  · intro i h1 h2
    simp only [bytesV_length, cutAt, List.length_map, List.length_range] at h2
    rw [bytesV_getElem]
    simp only [cutAt, List.getElem_map, List.getElem_range, ← hm]
    by_cases hi : i < l.length - m
    · rw [List.getElem_append_left (by simp; omega), List.getElem_take, bytesV_getElem, List.getElem_drop]
      simp [show m + i < l.length by omega]
    · rw [List.getElem_append_right (by simp; omega), List.getElem_drop, bytesV_getElem]
      simp [List.getElem?_eq_none (show l.length ≤ m + i by omega)]

theorem rel_cut (wr w' : World) (d k L : Nat) (f : Nat → List Nat) (hlt : k < d) (hbel : Below w'.heap.size w' wr) (HF : Filled wr w'.heap.size d k f) (hlen : (f k).length = L) :
    Filled ((((wr.setCell ⟨w'.heap.size, k, none⟩ (.slice (some ⟨wr.heap.size, 0, none⟩) L L)).alloc (.cells (madeCells #[.int .u8 0] L) 5)).drew).setRow wr.heap.size (bytesV (f k)).toArray) w'.heap.size d (k + 1) f ∧
    Below w'.heap.size w' ((((wr.setCell ⟨w'.heap.size, k, none⟩ (.slice (some ⟨wr.heap.size, 0, none⟩) L L)).alloc (.cells (madeCells #[.int .u8 0] L) 5)).drew).setRow wr.heap.size (bytesV (f k)).toArray) := by
  have hB := HF.lt
  have hnew := made_bytes (wr.setCell ⟨w'.heap.size, k, none⟩ (.slice (some ⟨wr.heap.size, 0, none⟩) L L)) L
  rw [size_setCell] at hnew
  refine ⟨HF.made hlt (u := .slice (some ⟨wr.heap.size, 0, none⟩) L L) (fun b hb1 hb2 => ?_) ?_ ⟨wr.heap.size, by rw [hlen], ?_⟩, ?_⟩
  · rw [setRow_other _ _ _ _ (by omega), heap_drew, Below.heap_alloc _ _ _ (by rw [size_setCell]; exact hb2), Below.heap_setCell _ _ _ _ hb1]
  · rw [setRow_other _ _ _ _ (by omega), heap_drew, Below.heap_alloc _ _ _ (by rw [size_setCell]; exact hB)]
  · have := Blk.row (w := ((wr.setCell ⟨w'.heap.size, k, none⟩ (.slice (some ⟨wr.heap.size, 0, none⟩) L L)).alloc (.cells (madeCells #[.int .u8 0] L) 5)).drew) hnew (bytesV (f k)).toArray
    rw [List.toList_toArray] at this
    exact this
  · exact below_row (((hbel.setCell (Nat.le_refl _) _).alloc (by rw [size_setCell]; exact hbel.size) _).drew) hbel.size _

set_option maxRecDepth 100000 in
set_option maxHeartbeats 1000000 in
theorem cut_any (d : Nat) (s : ByteArray) (hd : 0 < d) (hd2 : d ≤ 100) (hs : s.size ≤ 1000) (L : Nat) (hL : L = (s.size + d - 1) / d) (w : World) :
    Calls Tryd.prog 42 #[.int .i64 d, .string s] w fun e w' => ∃ v, e = .returned v ∧ RowsC w' v (cuts (nums s) d L) ∧ Below w.heap.size w w' := by
  have hmk := fun w => make_rows d (by omega) w
  have hmb := fun w => make_bytes L (by have := ceil_le s.size d hd; omega) w
  have hLs : L ≤ 1000 := by have := ceil_le s.size d hd; omega
  have HL : Hid (L = (s.size + d - 1) / d) := hL
  clear hL
  go_enter Tryd.func42, Tryd.ntmps42
  go_wp2_with fail
  refine (length_any d s.size hd hd2 hs _).mono ?_
  rintro e w' ⟨rfl, rfl⟩
  rw [← HL.out]
  go_wp2
  go_loopw [17] (fun i wr => ∃ k : Nat, k ≤ d ∧ i = .int .i64 k ∧ Filled wr w'.heap.size d k (cutAt (nums s) L) ∧ Below w'.heap.size w' wr) (fun i _ => d - (intOf i).toNat)
  case atStart => exact ⟨0, Nat.zero_le _, rfl, made_rows _ _ _, (Below.refl _ _).alloc (Nat.le_refl _) _⟩
  case round =>
    obtain ⟨k, hk, rfl, hfl, hbel⟩ := hrel
    by_cases hlt : k < d
    · obtain ⟨⟨v0, hv0⟩, hfr⟩ := (hfl.to ((Below.refl _ _).alloc (Nat.le_refl _) (.cells (madeCells #[.int .u8 0] L) 5))).cell hlt
      have hBlt := hfl.lt
      have HF : Hid (Filled wr w'.heap.size d k (cutAt (nums s) L)) := hfl
      obtain ⟨m, hm⟩ : ∃ m, m = k * L := ⟨_, rfl⟩
      have hm2 : m ≤ 100000 := by rw [hm]; exact Nat.mul_le_mul (by omega : k ≤ 100) hLs
      have em : (k : Int) * (L : Int) = (m : Int) := by rw [hm]; simp
      have HM : Hid (m = k * L) := hm
      have hput := hfl.put hlt (.slice (some ⟨wr.heap.size, 0, none⟩) L L)
      have hnew : Hid (Blk (((wr.setCell ⟨w'.heap.size, k, none⟩ (.slice (some ⟨wr.heap.size, 0, none⟩) L L)).alloc (.cells (madeCells #[.int .u8 0] L) 5)).drew) wr.heap.size 5 (bytesV (List.replicate L 0))) := by
        have := made_bytes (wr.setCell ⟨w'.heap.size, k, none⟩ (.slice (some ⟨wr.heap.size, 0, none⟩) L L)) L
        rw [size_setCell] at this
        exact this
      clear hfl hm
      by_cases hle : m ≤ s.size
      · have hle2 : m ≤ s.size := by omega
        have CC : Hid _ := cut_content s (s.extract m s.size) L k m HM.out (nums_drop s m)
        go_wp2
        go_region_law (refine step_copy_str rfl _ _ 56 9 rfl 5 Tryd.underlying56 (by rw [infoByteSize]) wr.heap.size L L (s.extract m s.size) (by simp [Act.eval]) (by simp [Act.eval]) (bytesV (List.replicate L 0)) 5 hnew.out (by rw [bytesV_length, List.length_replicate]; exact Nat.min_le_right _ _) (bytesV (cutAt (nums s) L k)) CC.out ?_; intro n38)
        go_wp2
        have R := rel_cut wr w' d k L (cutAt (nums s) L) hlt hbel HF.out (by simp [cutAt])
        go_roundw
        case rel => exact ⟨k + 1, by omega, by go_num, R.1, R.2⟩
        case measure => simp [intOf]; omega
      · have hle2 : s.size < m := by omega
        have CC : Hid _ := cut_content s (s.extract s.size s.size) L k m HM.out (by rw [nums_drop, List.drop_of_length_le (by rw [nums_length]; omega), List.drop_of_length_le (by rw [nums_length]; omega)])
        go_wp2
        go_region_law (refine step_copy_str rfl _ _ 56 9 rfl 5 Tryd.underlying56 (by rw [infoByteSize]) wr.heap.size L L (s.extract s.size s.size) (by simp [Act.eval]) (by simp [Act.eval]) (bytesV (List.replicate L 0)) 5 hnew.out (by rw [bytesV_length, List.length_replicate]; exact Nat.min_le_right _ _) (bytesV (cutAt (nums s) L k)) CC.out ?_; intro n38)
        go_wp2
        have R := rel_cut wr w' d k L (cutAt (nums s) L) hlt hbel HF.out (by simp [cutAt])
        go_roundw
        case rel => exact ⟨k + 1, by omega, by go_num, R.1, R.2⟩
        case measure => simp [intOf]; omega
    · obtain rfl : k = d := by omega
      go_wp2
      go_ret
      refine ⟨_, rfl, hfl.rowsC (by simp [cuts]) (fun i hi => ?_), hbel⟩
      simp only [cuts, List.length_map, List.length_range] at hi
      simp [cuts]
end Go.Proofs.YtokmllopbfmadabDoor.Parts

namespace Go.Proofs.YtokmllopbfmadabDoor.Parts
open Go.RowKit Mem FieldWalks Tab ByTab

/-- The factors of spare piece i. -/
def facRow (d i : Nat) : List Nat := (List.range d).map fun j => Gf.inv ((d + i) ^^^ j)
def facs (d s : Nat) : List (List Nat) := (List.range s).map (facRow d)
theorem facRow_length (d i : Nat) : (facRow d i).length = d := by simp [facRow]
theorem byte_conv (n : Nat) (h : n < 256) : IntKind.u8.wrap (n : Int) = n := by rw [IntKind.wrap_u8']; omega

set_option maxRecDepth 100000 in
set_option maxHeartbeats 1000000 in
theorem factors_any (d s : Nat) (hd : d ≤ 100) (hs : s ≤ 100) (w : World) (ht : Table w) :
    Calls Tryd.prog 38 #[.int .i64 d, .int .i64 s] w fun e w' => ∃ v, e = .returned v ∧ RowsAt w' v (facs d s) ∧ Below w.heap.size w w' := by
  have hmk := fun w => make_rows s (by omega) w
  have hmb := fun w => make_bytes d (by omega) w
  go_enter Tryd.func38, Tryd.ntmps38
  go_wp2
  go_loopw [12] (fun i wr => ∃ k : Nat, k ≤ s ∧ i = .int .i64 k ∧ Filled wr w.heap.size s k (facRow d) ∧ Below w.heap.size w wr) (fun i _ => s - (intOf i).toNat)
  case atStart => exact ⟨0, Nat.zero_le _, rfl, made_rows _ _ _, (Below.refl _ _).alloc (Nat.le_refl _) _⟩
  case round =>
    obtain ⟨i, hi, rfl, hfl, hbel⟩ := hrel
    by_cases hlt : i < s
    · obtain ⟨⟨v0, hv0⟩, hfr⟩ := (hfl.to ((Below.refl _ _).alloc (Nat.le_refl _) (.cells (madeCells #[.int .u8 0] d) 5))).cell hlt
      have hBlt := hfl.lt
      have HF : Hid (Filled wr w.heap.size s i (facRow d)) := hfl
      clear hfl
      go_wp2
      obtain ⟨wo, rfl⟩ : ∃ wo, wo = wr := ⟨_, rfl⟩
      clear hv0 hfr
      have hsz := hbel.size
      go_loopw [21] (fun t wq => ∃ k : Nat, k ≤ d ∧ t = .int .i64 k ∧ Laid wo wq w.heap.size i (.slice (some ⟨wo.heap.size, 0, none⟩) d d) ∧ Blk wq wo.heap.size 5 (bytesV (mix (facRow d i) (List.replicate d 0) k)) ∧ Below w.heap.size w wq) (fun t _ => d - (intOf t).toNat)
      case atStart =>
        refine ⟨0, Nat.zero_le _, rfl, Laid.start wo _ _ _ _ hBlt, ?_, ?_⟩
        · rw [mix_zero]
          have := made_bytes (wo.setCell ⟨w.heap.size, i, none⟩ (.slice (some ⟨wo.heap.size, 0, none⟩) d d)) d
          rw [size_setCell] at this
          exact this
        · exact (hbel.setCell (Nat.le_refl _) _).alloc (by rw [size_setCell]; exact hsz) _
      case round =>
        obtain ⟨j, hj, rfl, hlaid, hblk, hbq⟩ := hrel
        by_cases hjlt : j < d
        · obtain ⟨hc1, _⟩ := hlaid.cell HF.out hlt
          have hlf : (facRow d i).length = (List.replicate d 0).length := by simp [facRow]
          have hc2 := hblk.cell_some (k := j) (v := .int .u8 0) (by rw [mix_bytes, mix_at (by simp [facRow]) (by simpa using hjlt)]; simp [bytesV])
          have hf2 := hblk.free j
          obtain ⟨x, hx⟩ : ∃ x, x = (d + i) ^^^ j := ⟨_, rfl⟩
          have hxb : x < 256 := by rw [hx]; exact Gf.xor_lt (by omega) (by omega)
          have EX : Hid (IntKind.u8.wrap (bits .xor .i64 (IntKind.i64.wrap ((d : Int) + (i : Int))) (j : Int)) = (x : Int)) := by
            show _ = _
            rw [show (d : Int) + (i : Int) = ((d + i : Nat) : Int) by omega, show IntKind.i64.wrap ((d + i : Nat) : Int) = ((d + i : Nat) : Int) by rw [IntKind.wrap_i64]; omega, Gf.i64_xor _ _ (by omega) (by omega), ← hx]
            exact byte_conv x hxb
          have HX : Hid (x = (d + i) ^^^ j) := hx
          have hT := table_to ht hbq
          have HLA : Hid _ := hlaid
          have HB : Hid (Blk wr wo.heap.size 5 (bytesV (mix (facRow d i) (List.replicate d 0) j))) := hblk
          have HT : Hid (Table wr) := hT
          clear hx hlaid hblk hT hlf
          go_wp2_with fail
          go_region_with (go_at_call 49; rw [EX.out]; refine (inv_any x hxb _ (by exact HT.out)).mono ?_; rintro e w2 ⟨rfl, rfl⟩)
          all_goals
            go_wp2
            go_roundw
            case rel =>
              refine ⟨j + 1, by omega, by go_num, (HLA.out.setCell (Nat.le_refl _) hBlt _).drew, ?_, (hbq.setCell (by exact hsz) _).drew⟩
              have e := mix_set (k := j) (new := facRow d i) (old := List.replicate d 0) (by simp [facRow]) (by simpa using hjlt)
              refine (HB.out.set j _).drew.eq ?_
              rw [bytesV_set, ← e, HX.out]
              simp [facRow]
            case measure => simp [intOf]; omega
        · obtain rfl : j = d := by omega
          go_wp2
          have R : Filled wr w.heap.size s (i + 1) (facRow j) := by
            refine hlaid.filled HF.out hlt ⟨wo.heap.size, by rw [facRow_length], hblk.eq ?_⟩
            have e := mix_all (new := facRow j i) (old := List.replicate j 0) (by simp [facRow])
            simp only [List.length_replicate] at e
            rw [e]
          go_roundw
          case rel => exact ⟨i + 1, by omega, by go_num, R, hbq⟩
          case measure => simp [intOf]; omega
    · obtain rfl : i = s := by omega
      go_wp2
      go_ret
      refine ⟨_, rfl, hfl.rows (by simp [facs]) (fun i hi => ?_), hbel⟩
      simp [facs]
end Go.Proofs.YtokmllopbfmadabDoor.Parts

namespace Go.Proofs.YtokmllopbfmadabDoor.Parts
open Go.RowKit Mem FieldWalks Tab ByTab

/-- The string of bytes. -/
def mkS (l : List Nat) : ByteArray := ⟨(l.map UInt8.ofNat).toArray⟩
theorem foldl_push (l : List Nat) : ∀ s : ByteArray, (l.map (Int.ofNat)).foldl (fun r n => r.push (UInt8.ofNat n.toNat)) s = ⟨s.data ++ (l.map UInt8.ofNat).toArray⟩ := by
  induction l with
  | nil => intro s; simp
  | cons n l ih =>
    intro s
    simp only [List.map_cons, List.foldl_cons]
    rw [ih]
    have e : (s.push (UInt8.ofNat (Int.ofNat n).toNat)).data = s.data.push (UInt8.ofNat n) := rfl
    rw [e]
    congr 1
    simp
theorem conv_str (w : World) (v : Value) (l : List Nat) (h : BsAt w v l) : (convert 56 9 v).run Tryd.prog w = .ok (.string (mkS l)) w := by
  obtain ⟨ao, cap, rfl, h1⟩ := h
  rw [run_convert_bytes_string w _ _ 5 ao l.length cap Tryd.underlying56 Tryd.underlying5 Tryd.underlying9]
  cases ao with
  | none =>
    rcases h1 with rfl | ⟨b, off, h, _⟩
    · rfl
    · cases h
  | some a =>
    have hl : (loadCells a l.length).run Tryd.prog w = .ok ((l.map Int.ofNat).map (Value.int .u8)).toArray w := by
      have e : ((l.map Int.ofNat).map (Value.int .u8)).length = l.length := by simp
      rw [← e]
      refine run_loadCells_list (P := Tryd.prog) w a _ (fun j u hu => ?_)
      rcases h1 with rfl | ⟨b, off, h, hlt, hc⟩
      · simp at hu
      · cases h
        have hj : j < l.length := by
          have := (List.getElem?_eq_some_iff.1 hu).1; simpa using this
        rw [Addr.add_lit, hc j hj]
        simp [hj] at hu
        rw [← hu]
    rw [run_bytesToString w a l.length cap (l.map Int.ofNat) hl, foldl_push]
    congr 2
    simp [mkS]

def strV (l : List ByteArray) : List Value := l.map Value.string
theorem infoStr : (Tryd.prog.info? 9).map (fun i => (i.zero, i.size, i.bytes)) = some (some (.string ByteArray.empty), 1, 16) := by kernel_rfl
theorem make_strs (p q : Nat) (hp : p ≤ 1000) (hq : q ≤ 1000) (w : World) :
    (Instr.makeSlice 28 (.int .i64 0) (.int .i64 ((p : Int) + (q : Int)))).run Tryd.prog w = .ok (.slice (some ⟨w.heap.size, 0, none⟩) 0 (p + q)) (w.alloc (.cells (madeCells #[.string ByteArray.empty] (p + q)) 9)) := by
  obtain ⟨i, hi, hz0, hz1, hz2⟩ := info_parts infoStr
  have := run_make (P := Tryd.prog) w 28 9 i (.string ByteArray.empty) Tryd.underlying28 hi hz0 .i64 .i64 0 ((p : Int) + (q : Int)) (by omega) (by omega) (by rw [hz2]; omega) (by omega)
  rw [hz1, show ((p : Int) + (q : Int)).toNat = p + q by omega, Nat.mul_one] at this
  exact this

theorem strs_step (all : List ByteArray) (cap k : Nat) (hc : all.length = cap) (hk : k < cap) : (strV (mix all (List.replicate cap ByteArray.empty) k)).set k (.string (all[k]'(by omega))) = strV (mix all (List.replicate cap ByteArray.empty) (k + 1)) := by
  have := mix_set (new := all) (old := List.replicate cap ByteArray.empty) (k := k) (by simp [hc]) (by simpa using hk)
  rw [← this]; simp [strV, List.map_set]

/-- All pieces, as strings. -/
def texts (ps qs : List (List Nat)) : List ByteArray := (ps ++ qs).map mkS

end Go.Proofs.YtokmllopbfmadabDoor.Parts
