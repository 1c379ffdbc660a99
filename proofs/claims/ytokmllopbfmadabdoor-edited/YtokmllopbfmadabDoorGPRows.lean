import Derived.Deep.RegionHeld3
import Derived.Laws.CopyOwn
import Derived.Test.YtokmllopbfmadabDoorGShaped
import Derived.Test.YtokmllopbfmadabDoorGChangeMath
import Derived.Handy
namespace Go.Proofs.YtokmllopbfmadabDoor.Ref
open Go.RowKit Mem FieldWalks Tab ByTab Parts
open Gf (Bytes)
open Plans (But rowF)

theorem Row8.of_blk {w : World} {b : Nat} {l : List Nat} (h : Blk w b 5 (bytesV l)) : Row8 w b l :=
  ⟨(bytesV l).toArray, (0, 0), h, fun k hk => by simp [bytesV, hk], by simp [bytesV], .inr rfl⟩
theorem Row8.but {w w' : World} {b S : Nat} {l : List Nat} (h : Row8 w b l) (hb : But S w w') (hne : b ≠ S) : Row8 w' b l := h.of_block (hb.rest b hne h.lt)
theorem Row8.bs {w : World} {b : Nat} {l : List Nat} (h : Row8 w b l) (n c : Nat) (hn : n = l.length) : BsAt w (.slice (some ⟨b, 0, none⟩) n c) l := by
  subst hn
  exact ⟨_, c, rfl, .inr ⟨b, 0, rfl, h.lt, fun k hk => by rw [Nat.zero_add]; exact h.cell k hk⟩⟩
theorem table_but {w w' : World} {S : Nat} (h : Table w) (hb : But S w w') (hS : S ≠ 0) : Table w' := by
  intro k hk
  rw [hb.cell (p := ⟨0, k, none⟩) (by exact Ne.symm hS) (block_lt_of_cell (h k hk))]; exact h k hk
theorem rowF_at' (m : Nat) (f : Nat → Nat) (k : Nat) (h : k < m) : (rowF m f).getD k 0 = f k := by simp [rowF, h]
theorem rowF_of (l : List Nat) : l = rowF l.length (fun k => l.getD k 0) := by
  apply List.ext_getElem
  · simp
  · intro k h1 h2; simp [rowF, h1]

/-- k of the places are written. -/
def half (f g : Nat → Nat) (k : Nat) : Nat → Nat := fun i => if i < k then f i else g i
theorem half_zero (f g : Nat → Nat) : half f g 0 = g := by funext i; simp [half]
theorem half_all (m : Nat) (f g : Nat → Nat) : rowF m (half f g m) = rowF m f := Plans.rowF_congr fun i hi => by simp [half, hi]
theorem half_set (m : Nat) (f g : Nat → Nat) (k : Nat) : (rowF m (half f g k)).set k (f k) = rowF m (half f g (k + 1)) := by
  rw [Plans.rowF_set]
  refine Plans.rowF_congr fun i hi => ?_
  unfold Plans.upd half
  by_cases e : i = k
  · subst e; rw [if_pos rfl, if_pos (by omega)]
  · rw [if_neg e]
    by_cases h : i < k
    · rw [if_pos h, if_pos (by omega)]
    · rw [if_neg h, if_neg (by omega)]
theorem half_at (m : Nat) (f g : Nat → Nat) (k : Nat) (hk : k < m) : ∃ h : k < (rowF m (half f g k)).length, (rowF m (half f g k))[k] = g k := ⟨by simpa using hk, by simp [rowF, half]⟩

set_option maxRecDepth 100000 in
set_option maxHeartbeats 1000000 in
theorem scale_any (m : Nat) (f : Nat → Nat) (x b c : Nat) (hm : m ≤ 1000) (hf : ∀ k, k < m → f k < 256) (hx : x < 256) (hb0 : b ≠ 0) (w : World) (ht : Table w) (hr : Row8 w b (rowF m f)) :
    Calls Tryd.prog 76 #[.slice (some ⟨b, 0, none⟩) m c, .int .u8 x] w fun e w' => e = .returned (.tuple #[]) ∧ Row8 w' b (rowF m fun k => Gf.times (f k) x) ∧ But b w w' := by
  have HT : Hid (Table w) := ht
  have HF : Hid (∀ k, k < m → f k < 256) := hf
  have HR : Hid (Row8 w b (rowF m f)) := hr
  clear ht hf hr
  go_enter Tryd.func76, Tryd.ntmps76
  go_wp2
  go_loopw [7] (fun i wr => ∃ k : Nat, k ≤ m ∧ i = .int .i64 k ∧ Row8 wr b (rowF m (half (fun k => Gf.times (f k) x) f k)) ∧ But b w wr) (fun i _ => m - (intOf i).toNat)
  case atStart => exact ⟨0, Nat.zero_le _, rfl, by rw [half_zero]; exact HR.out, But.refl _ _⟩
  case round =>
    obtain ⟨k, hk, rfl, hrow, hbut⟩ := hrel
    by_cases hlt : k < m
    · obtain ⟨hl, hv⟩ := half_at m (fun k => Gf.times (f k) x) f k hlt
      have c1 := hrow.cell k hl
      have f1 := hrow.free k hl
      rw [hv] at c1
      have hfk := HF.out k hlt
      obtain ⟨y, hy⟩ : ∃ y, y = f k := ⟨_, rfl⟩
      rw [← hy] at c1 hfk
      have HNW : Hid (Row8 (wr.setCell ⟨b, k, none⟩ (.int .u8 (Gf.times y x : Nat))) b (rowF m (half (fun k => Gf.times (f k) x) f (k + 1)))) := by
        have := hrow.set k (Gf.times y x)
        rw [hy, half_set m (fun k => Gf.times (f k) x) f k] at this
        rw [hy]; exact this
      have HBU : Hid (But b w wr) := hbut
      have HT1 : Hid (Table wr) := table_but HT.out hbut hb0
      clear hrow hbut hv hl hy
      go_wp2_with (go_at_call 39; refine (mul_any y x hfk hx _ (by exact HT1.out)).mono ?_; rintro e w' ⟨rfl, rfl⟩)
      go_roundw
      case rel => exact ⟨k + 1, by omega, by go_num, HNW.out, HBU.out.setCell k _⟩
      case measure => simp [intOf]; omega
    · obtain rfl : m = k := by omega
      have HRW : Hid (Row8 wr b (rowF m fun k => Gf.times (f k) x)) := by
        have := hrow
        rw [half_all] at this; exact this
      have HBU : Hid (But b w wr) := hbut
      clear hrow hbut
      go_wp2
      go_end0
      exact ⟨rfl, HRW.out, HBU.out⟩

set_option maxRecDepth 100000 in
set_option maxHeartbeats 1000000 in
theorem addTimes_any (m : Nat) (f o : Nat → Nat) (x b c q c' : Nat) (hm : m ≤ 1000) (hf : ∀ k, k < m → f k < 256) (ho : ∀ k, k < m → o k < 256) (hx : x < 256) (hb0 : b ≠ 0) (hbq : b ≠ q) (w : World) (ht : Table w) (hr : Row8 w b (rowF m f)) (hq : Row8 w q (rowF m o)) :
    Calls Tryd.prog 77 #[.slice (some ⟨b, 0, none⟩) m c, .int .u8 x, .slice (some ⟨q, 0, none⟩) m c'] w fun e w' => e = .returned (.tuple #[]) ∧ Row8 w' b (rowF m fun k => f k ^^^ Gf.times x (o k)) ∧ But b w w' := by
  have HT : Hid (Table w) := ht
  have HF : Hid (∀ k, k < m → f k < 256) := hf
  have HO : Hid (∀ k, k < m → o k < 256) := ho
  have HR : Hid (Row8 w b (rowF m f)) := hr
  have HQ : Hid (Row8 w q (rowF m o)) := hq
  clear ht hf hr ho hq
  go_enter Tryd.func77, Tryd.ntmps77
  go_wp2
  go_loopw [9] (fun i wr => ∃ k : Nat, k ≤ m ∧ i = .int .i64 k ∧ Row8 wr b (rowF m (half (fun k => f k ^^^ Gf.times x (o k)) f k)) ∧ But b w wr) (fun i _ => m - (intOf i).toNat)
  case atStart => exact ⟨0, Nat.zero_le _, rfl, by rw [half_zero]; exact HR.out, But.refl _ _⟩
  case round =>
    obtain ⟨k, hk, rfl, hrow, hbut⟩ := hrel
    by_cases hlt : k < m
    · obtain ⟨hl, hv⟩ := half_at m (fun k => f k ^^^ Gf.times x (o k)) f k hlt
      have c1 := hrow.cell k hl
      have f1 := hrow.free k hl
      rw [hv] at c1
      have hfk := HF.out k hlt
      have hzb := HO.out k hlt
      obtain ⟨y, hy⟩ : ∃ y, y = f k := ⟨_, rfl⟩
      obtain ⟨z, hz⟩ : ∃ z, z = o k := ⟨_, rfl⟩
      rw [← hy] at c1 hfk
      rw [← hz] at hzb
      have c2 := (HQ.out.but hbut (Ne.symm hbq)).cell k (by simpa using hlt)
      rw [show (rowF m o)[k]'(by simpa using hlt) = z by simp [rowF, hz]] at c2
      obtain ⟨nv, hnv⟩ : ∃ nv, nv = y ^^^ Gf.times x z := ⟨_, rfl⟩
      have hxor : bits .xor .u8 (y : Int) ((Gf.times x z : Nat) : Int) = (nv : Int) := by rw [hnv]; exact u8_xor_nat _ _ hfk (Gf.times_lt _ _ hx)
      have HNW : Hid (Row8 (wr.setCell ⟨b, k, none⟩ (.int .u8 (nv : Nat))) b (rowF m (half (fun k => f k ^^^ Gf.times x (o k)) f (k + 1)))) := by
        have := hrow.set k nv
        rw [hnv, hy, hz, half_set m (fun k => f k ^^^ Gf.times x (o k)) f k] at this
        rw [hnv, hy, hz]; exact this
      have HBU : Hid (But b w wr) := hbut
      have HT1 : Hid (Table wr) := table_but HT.out hbut hb0
      have HS : Hid (wr.drew.cell? ⟨q, k, none⟩ = some (.int .u8 (z : Int))) := c2
      have HA : Hid ((⟨b, k, none⟩ : Addr) ≠ ⟨q, k, none⟩) := by intro h; injection h; omega
      clear hrow hbut hv hl hy hz c2 hnv
      go_wp2_with fail
      refine wp_region_held (S := fun wx => wx.cell? ⟨q, k, none⟩ = some (.int .u8 (z : Int))) rfl ?_
      refine wpAnyH_take (i := 0) (v := (.slice (some ⟨b, 0, none⟩) m c)) rfl (by kernel_rfl) (by kernel_rfl) (by kernel_rfl) (fun _ _ _ h => h) (Or.inl ⟨by rfl, fun w hw => by go_simp⟩) HS.out ?_
      refine wpAnyH_take (i := 1) (v := (.int .i64 (k : Int))) rfl (by kernel_rfl) (by kernel_rfl) (by kernel_rfl) (fun _ _ _ h => h) (Or.inl ⟨by rfl, fun w hw => by go_simp⟩) HS.out ?_
      refine wpAnyH_take (i := 2) (v := (.pointer (some ⟨b, k, none⟩))) rfl (by kernel_rfl) (by kernel_rfl) (by kernel_rfl) (fun _ _ _ h => h) (Or.inl ⟨by rfl, fun w hw => by go_simp⟩) HS.out ?_
      refine wpAnyH_take (i := 4) (v := (.int .u8 (x : Int))) rfl (by kernel_rfl) (by kernel_rfl) (by kernel_rfl) (fun _ _ _ h => h) (Or.inl ⟨by rfl, fun w hw => by go_simp⟩) HS.out ?_
      refine wpAnyH_take (i := 5) (v := (.slice (some ⟨q, 0, none⟩) m c')) rfl (by kernel_rfl) (by kernel_rfl) (by kernel_rfl) (fun _ _ _ h => h) (Or.inl ⟨by rfl, fun w hw => by go_simp⟩) HS.out ?_
      simp only [Act.put]
      refine wpAnyH_take (i := 6) (v := (.int .i64 (k : Int))) rfl (by kernel_rfl) (by kernel_rfl) (by kernel_rfl) (fun _ _ _ h => h) (Or.inl ⟨by rfl, fun w hw => by go_simp⟩) HS.out ?_
      refine wpAnyH_take (i := 7) (v := (.pointer (some ⟨q, k, none⟩))) rfl (by kernel_rfl) (by kernel_rfl) (by kernel_rfl) (fun _ _ _ h => h) (Or.inl ⟨by rfl, fun w hw => by go_simp⟩) HS.out ?_
      refine wpAnyH_take (i := 8) (v := (.int .u8 (z : Int))) rfl (by kernel_rfl) (by kernel_rfl) (by kernel_rfl) (fun _ _ _ h => h) (Or.inl ⟨by rfl, fun w hw => by go_simp⟩) HS.out ?_
      simp only [Act.put, List.setIfInBounds_toArray]
      refine wpAnyH_ready (rs := [3, 9]) (by kernel_rfl) (by simp) ?_
      refine AllReadyH.cons rfl (fun K hK => ?_) (AllReadyH.cons rfl (fun K hK => ?_) AllReadyH.nil)
      · go_simp
        refine hK.out _ _ HS.out (fun _ => ?_)
        clear hK K
        refine wpAnyH_ready (rs := [9]) (by kernel_rfl) (by simp) ?_
        refine AllReadyH.cons rfl (fun K hK => ?_) AllReadyH.nil
        go_simp
        refine (mul_any x z hx hzb _ (by exact HT1.out)).mono ?_
        rintro e w2 ⟨rfl, rfl⟩
        dsimp only
        refine hK.out _ _ HS.out (fun _ => ?_)
        clear hK K
        refine wpAnyH_take (i := 10) (v := (.int .u8 (nv : Int))) rfl (by kernel_rfl) (by kernel_rfl) (by kernel_rfl) (fun _ _ _ h => h) (Or.inl ⟨by rfl, fun w hw => by go_simp⟩) HS.out ?_
        refine wpAnyH_take (i := 11) (v := (.pointer (some ⟨b, k, none⟩))) rfl (by kernel_rfl) (by kernel_rfl) (by kernel_rfl) (fun _ _ _ h => h) (Or.inl ⟨by rfl, fun w hw => by go_simp⟩) HS.out ?_
        simp only [Act.put, List.setIfInBounds_toArray]
        refine wpAnyH_ready (rs := [12]) (by kernel_rfl) (by simp) ?_
        refine AllReadyH.cons rfl (fun K hK => ?_) AllReadyH.nil
        go_simp
        refine hK.out _ _ ((World.cell?_setCell_other _ _ _ _ HA.out).trans HS.out) (fun _ => ?_)
        clear hK K
        refine wpAnyH_done (by kernel_rfl) ?_ _
        go_wp2
        go_roundw
        case rel => exact ⟨k + 1, by omega, by go_num, HNW.out.to (Below.refl _ _).drew, (HBU.out.setCell k _).drew⟩
        case measure => simp [intOf]; omega
      · go_simp
        refine (mul_any x z hx hzb _ (by exact HT1.out)).mono ?_
        rintro e w2 ⟨rfl, rfl⟩
        dsimp only
        refine hK.out _ _ HS.out (fun _ => ?_)
        clear hK K
        refine wpAnyH_ready (rs := [3]) (by kernel_rfl) (by simp) ?_
        refine AllReadyH.cons rfl (fun K hK => ?_) AllReadyH.nil
        go_simp
        refine hK.out _ _ HS.out (fun _ => ?_)
        clear hK K
        refine wpAnyH_take (i := 10) (v := (.int .u8 (nv : Int))) rfl (by kernel_rfl) (by kernel_rfl) (by kernel_rfl) (fun _ _ _ h => h) (Or.inl ⟨by rfl, fun w hw => by go_simp⟩) HS.out ?_
        refine wpAnyH_take (i := 11) (v := (.pointer (some ⟨b, k, none⟩))) rfl (by kernel_rfl) (by kernel_rfl) (by kernel_rfl) (fun _ _ _ h => h) (Or.inl ⟨by rfl, fun w hw => by go_simp⟩) HS.out ?_
        simp only [Act.put, List.setIfInBounds_toArray]
        refine wpAnyH_ready (rs := [12]) (by kernel_rfl) (by simp) ?_
        refine AllReadyH.cons rfl (fun K hK => ?_) AllReadyH.nil
        go_simp
        refine hK.out _ _ ((World.cell?_setCell_other _ _ _ _ HA.out).trans HS.out) (fun _ => ?_)
        clear hK K
        refine wpAnyH_done (by kernel_rfl) ?_ _
        go_wp2
        go_roundw
        case rel => exact ⟨k + 1, by omega, by go_num, HNW.out.to (Below.refl _ _).drew, (HBU.out.setCell k _).drew⟩
        case measure => simp [intOf]; omega
    · obtain rfl : m = k := by omega
      have HRW : Hid (Row8 wr b (rowF m fun k => f k ^^^ Gf.times x (o k))) := by
        have := hrow
        rw [half_all] at this; exact this
      have HBU : Hid (But b w wr) := hbut
      clear hrow hbut
      go_wp2
      go_end0
      exact ⟨rfl, HRW.out, HBU.out⟩
end Go.Proofs.YtokmllopbfmadabDoor.Ref

namespace Go.Proofs.YtokmllopbfmadabDoor.Ref
open Go.RowKit Mem FieldWalks Tab ByTab Parts
open Gf (Bytes wide0 swapR)
open Plans (But rowF)

theorem Laid.low {w W W' : World} {B i : Nat} {u : Value} (h : Laid w W B i u) (hb : Below w.heap.size W W') (hB : B < w.heap.size) : Laid w W' B i u :=
  ⟨Nat.le_trans h.size hb.size, fun b h1 h2 => (hb.block b h2).trans (h.rest b h1 h2), (hb.block B hB).trans h.row⟩

/-- The first p rows of the list at g are made, each in a block of its own, from base on. -/
structure OutTo (base : Nat) (w : World) (g n L p : Nat) (bs : List Nat) (us : List Value) (rows : Nat → List Nat) : Prop where
  list : Blk w g 56 us
  ulen : us.length = n
  len : bs.length = p
  nodup : bs.Nodup
  size : ∀ q, q < p → (rows q).length = L
  at_ : ∀ q, (h : q < bs.length) → us[q]? = some (.slice (some ⟨bs[q], 0, none⟩) L L)
  row : ∀ q, (h : q < bs.length) → Row8 w bs[q] (rows q)
  low : ∀ b, b ∈ bs → base ≤ b
theorem OutTo.start {base : Nat} {w : World} {g n L : Nat} {us : List Value} {rows : Nat → List Nat} (h : Blk w g 56 us) (hl : us.length = n) : OutTo base w g n L 0 [] us rows :=
  ⟨h, hl, rfl, by simp, fun q hq => by omega, fun q hq => by simp at hq, fun q hq => by simp at hq, fun b hb => by simp at hb⟩
theorem OutTo.laid {base : Nat} {w W : World} {g n L p b : Nat} {bs : List Nat} {us : List Value} {rows : Nat → List Nat} (h : OutTo base w g n L p bs us rows) (hl : Laid w W g p (.slice (some ⟨b, 0, none⟩) L L)) (hp : p < n)
    (hb : w.heap.size ≤ b) (hbase : base ≤ b) (hr : Row8 W b (rows p)) (hs : (rows p).length = L) : OutTo base W g n L (p + 1) (bs ++ [b]) (us.set p (.slice (some ⟨b, 0, none⟩) L L)) rows := by
  have hlen := h.len
  have hul := h.ulen
  have hnb : b ∉ bs := fun hm => by
    obtain ⟨q, hq, e⟩ := List.mem_iff_getElem.1 hm
    have := (h.row q hq).lt
    omega
  refine ⟨hl.row.trans (h.list.set p _), by simp [hul], by simp [hlen], ?_, fun q hq => ?_, fun q hq => ?_, fun q hq => ?_, fun x hx => ?_⟩
  · rw [List.nodup_append]
    refine ⟨h.nodup, by simp, fun a ha x hx => ?_⟩
    simp at hx; subst hx
    intro e; exact hnb (e ▸ ha)
  · by_cases e : q = p
    · rw [e]; exact hs
    · exact h.size q (by omega)
  · by_cases e : q < bs.length
    · have hc' := h.at_ q e
      rw [List.getElem?_set_ne (by omega), List.getElem_append_left e]; exact hc'
    · have : q = bs.length := by simp at hq; omega
      subst this
      simp [hlen, hul, hp]
  · by_cases e : q < bs.length
    · rw [List.getElem_append_left e]
      exact (h.row q e).of_block (hl.rest _ ((h.row q e).type_ne h.list (by decide)) (h.row q e).lt)
    · have : q = bs.length := by simp at hq; omega
      subst this
      have hr' := hr
      rw [← hlen] at hr'
      simpa using hr'
  · rcases List.mem_append.1 hx with hx | hx
    · exact h.low x hx
    · simp at hx; subst hx; exact hbase
theorem OutTo.to {base : Nat} {w w' : World} {g n L p : Nat} {bs : List Nat} {us : List Value} {rows : Nat → List Nat} (h : OutTo base w g n L p bs us rows) (hb : Below w.heap.size w w') : OutTo base w' g n L p bs us rows :=
  ⟨h.list.to hb, h.ulen, h.len, h.nodup, h.size, h.at_, fun q hq => (h.row q hq).to hb, h.low⟩
/-- All rows of the list at g, each in a block of its own, from base on. -/
def Outs (base : Nat) (w : World) (g n L : Nat) (rows : Nat → List Nat) : Prop := ∃ bs us, OutAt w g n L bs us rows ∧ (∀ b, b ∈ bs → base ≤ b) ∧ ∀ q, (h : q < bs.length) → us[q]? = some (.slice (some ⟨bs[q], 0, none⟩) L L)
theorem OutTo.outs {base : Nat} {w : World} {g n L : Nat} {bs : List Nat} {us : List Value} {rows : Nat → List Nat} (h : OutTo base w g n L n bs us rows) : Outs base w g n L rows :=
  ⟨bs, us, ⟨h.list, h.len, h.nodup, h.size, fun q hq => ⟨L, h.at_ q hq⟩, h.row⟩, h.low, h.at_⟩
theorem Outs.to {base : Nat} {w w' : World} {g n L : Nat} {rows : Nat → List Nat} (h : Outs base w g n L rows) (hb : Below w.heap.size w w') : Outs base w' g n L rows := by
  obtain ⟨bs, us, h, hl, hc⟩ := h
  exact ⟨bs, us, h.to hb, hl, hc⟩
theorem Outs.congr {base : Nat} {w : World} {g n L : Nat} {rows rows' : Nat → List Nat} (h : Outs base w g n L rows) (e : ∀ p, p < n → rows' p = rows p) : Outs base w g n L rows' := by
  obtain ⟨bs, us, h, hl, hc⟩ := h
  exact ⟨bs, us, h.congr e, hl, hc⟩
/-- One row is written. -/
theorem OutAt.but {w w' : World} {g n L : Nat} {bs : List Nat} {us : List Value} {rows : Nat → List Nat} (h : OutAt w g n L bs us rows) (p : Nat) (hp : p < bs.length) (l : List Nat) (hb : But bs[p] w w') (hr : Row8 w' bs[p] l) (hl : l.length = L) :
    OutAt w' g n L bs us (fun q => if q = p then l else rows q) := by
  have hlen := h.len
  have hg : g ≠ bs[p] := Ne.symm ((h.row p hp).type_ne h.list (by decide))
  refine ⟨hb.blk h.list hg, h.len, h.nodup, fun q hq => ?_, h.at_, fun q hq => ?_⟩
  · show (if q = p then l else rows q).length = L
    split
    · exact hl
    · exact h.size q hq
  · by_cases e : q = p
    · subst e; simp only [if_true]; exact hr
    · simp only [if_neg e]
      refine (h.row q hq).but hb ?_
      intro e2
      have hnd := h.nodup
      rw [List.Nodup, List.pairwise_iff_getElem] at hnd
      rcases Nat.lt_or_gt_of_ne e with hlt | hlt
      · exact hnd q p hq hp hlt e2
      · exact hnd p q hp hq hlt e2.symm

theorem laid_cell {w W : World} {B i : Nat} {u : Value} {t : TypeId} {us : List Value} (h : Laid w W B i u) (hb : Blk w B t us) (hi : i < us.length) : W.cell? ⟨B, i, none⟩ = some u := by
  rw [World.cell?_of_block (w := w.setCell ⟨B, i, none⟩ u) h.row]
  exact (hb.set i u).cell_some (by simp [hi])
theorem wide_zero (d D p : Nat) (f : Nat → Nat) (h : d + p < D) : (bytesV (rowF D (fun k => if k < d then f k else 0)))[d + p]? = some (.int .u8 0) := by
  simp [bytesV, rowF, h]
  intro h; omega
theorem wide_set (d D p : Nat) (A : Nat → Nat → Nat) (_h : d + p < D) : (rowF D (fun k => if k < d then A p k else 0)).set (d + p) 1 = rowF D (wide0 d A p) := by
  rw [Plans.rowF_set]
  refine Plans.rowF_congr fun k hk => ?_
  unfold Plans.upd wide0
  show (if k = d + p then 1 else if k < d then A p k else 0) = _
  by_cases e : k = d + p
  · rw [if_pos e, if_neg (by omega), if_pos e]
  · rw [if_neg e]
    by_cases e2 : k < d
    · rw [if_pos e2, if_pos e2]
    · rw [if_neg e2, if_neg e2, if_neg e]
theorem copy_wide (d D : Nat) (f : Nat → Nat) (h : d ≤ D) : splice (bytesV (List.replicate D 0)) 0 (bytesV (rowF d f)) = bytesV (rowF D (fun k => if k < d then f k else 0)) := by
  unfold splice
  rw [List.take_zero, List.nil_append, Nat.zero_add]
  apply List.ext_getElem
  · simp; omega
  · intro k h1 h2
    have hkD : k < D := by simpa using h2
    by_cases e : k < d
    · rw [List.getElem_append_left (by simpa using e)]
      simp [bytesV, rowF, e]
    · rw [List.getElem_append_right (by simpa using e)]
      simp [bytesV, rowF, e]

theorem wide_after {w wr W1 w2 : World} {g p d D b : Nat} {U : Value} {t : TypeId} {us vs cs : List Value} {f : Nat → Nat} (hla : Laid wr W1 g p U) (hblk : Blk wr g t us) (hp : p < us.length) (hgl : g < wr.heap.size) (hb1 : Below w.heap.size w W1) (hsz : w.heap.size ≤ wr.heap.size)
    (hco : splice vs 0 cs = bytesV (rowF D (fun k => if k < d then f k else 0))) (hg2 : w2.heap[b]? = some (.cells (splice vs 0 cs).toArray 5 (0, 0))) (hb2 : Below wr.heap.size W1 w2) (hD : d + p < D) (hU : U = .slice (some ⟨b, 0, none⟩) D D) :
    Hid (Blk w2 b 5 (bytesV (rowF D (fun k => if k < d then f k else 0)))) ∧ Hid (Laid wr w2 g p U) ∧ Hid (Below w.heap.size w w2) ∧ w2.cell? ⟨g, p, none⟩ = some (.slice (some ⟨b, 0, none⟩) D D) ∧
      w2.cell? ⟨b, d + p, none⟩ = some (.int .u8 0) ∧ w2.frozen? ⟨b, d + p, none⟩ = false := by
  have h1 : Blk w2 b 5 (bytesV (rowF D (fun k => if k < d then f k else 0))) := by unfold Blk; rw [hg2, hco]
  have h2 : Laid wr w2 g p U := Laid.low hla hb2 hgl
  refine ⟨h1, h2, hb1.trans (hb2.mono hsz), ?_, h1.cell_some (wide_zero d D p f hD), h1.free _⟩
  rw [← hU]; exact laid_cell h2 hblk hp

set_option maxRecDepth 100000 in
set_option maxHeartbeats 2000000 in
theorem withUnits_any (d : Nat) (A : Nat → Nat → Nat) (rows : List (List Nat)) (rv : Value) (w : World) (hd : 1 ≤ d) (hd2 : d ≤ 10) (hlr : rows.length = d) (hrow : ∀ n, (h : n < rows.length) → rows[n] = rowF d (A n)) (hr : RowsAt w rv rows) :
    Calls Tryd.prog 74 #[rv] w fun e w' => ∃ g, w.heap.size ≤ g ∧ e = .returned (.slice (some ⟨g, 0, none⟩) d d) ∧ Outs w.heap.size w' g d (2 * d) (fun r => rowF (2 * d) (wide0 d A r)) ∧ Below w.heap.size w w' := by
  obtain ⟨rb, roff, rcap, rfl, hrb, hrc⟩ := hr.pos (by omega)
  have HRC : Hid (∀ k, (h : k < rows.length) → ∃ u, w.cell? ⟨rb, roff + k, none⟩ = some u ∧ BsAt w u rows[k]) := hrc
  have HROW : Hid (∀ n, (h : n < rows.length) → rows[n] = rowF d (A n)) := hrow
  rw [hlr]
  have HLR : Hid (rows.length = d) := hlr
  have hmk := fun w => make_rows d (by omega) w
  have hmb := fun w => make_bytes (2 * d) (by omega) w
  obtain ⟨D, hD⟩ : ∃ D, D = 2 * d := ⟨_, rfl⟩
  have e2d : 2 * (d : Int) = (D : Int) := by rw [hD]; simp
  have e2d' : (d : Int) * 2 = (D : Int) := by omega
  rw [← hD] at hmb ⊢
  have hD1 : D ≤ 20 := by omega
  have hD2 : 2 * d ≤ D := by omega
  have hD3 : D ≤ 2 * d := by omega
  have HD : Hid (D = 2 * d) := hD
  clear hrc hrow hlr hr hD
  go_enter Tryd.func74, Tryd.ntmps74
  go_wp2
  go_loopw [11] (fun i wr => ∃ (p : Nat) (bs : List Nat) (us : List Value), p ≤ d ∧ i = .int .i64 p ∧ OutTo w.heap.size wr w.heap.size d D p bs us (fun r => rowF D (wide0 d A r)) ∧ Below w.heap.size w wr) (fun i _ => d - (intOf i).toNat)
  case atStart => exact ⟨0, [], _, Nat.zero_le _, rfl, OutTo.start ((Blk.new w _ _).eq (toList_madeCells_one _ d)) (by simp), (Below.refl _ _).alloc (Nat.le_refl _) _⟩
  case round =>
    obtain ⟨p, bs, us, hp, rfl, hout, hbel⟩ := hrel
    by_cases hpd : p < d
    · have hpl : p < rows.length := by rw [HLR.out]; exact hpd
      obtain ⟨u, hu, ao, cu, rfl, hbs⟩ := HRC.out p hpl
      rw [← hbel.cell (p := ⟨rb, roff + p, none⟩) hrb] at hu
      rw [HROW.out p hpl] at hu hbs
      rw [show (rowF d (A p)).length = d by simp] at hu
      obtain ⟨sb, so, rfl, hsb, hsc⟩ : ∃ b off, ao = some ⟨b, off, none⟩ ∧ b < w.heap.size ∧ ∀ k, (h : k < (rowF d (A p)).length) → w.cell? ⟨b, off + k, none⟩ = some (.int .u8 ((rowF d (A p))[k] : Nat)) := by
        rcases hbs with h | h
        · have := congrArg List.length h; simp at this; omega
        · exact h
      have hul := hout.ulen
      have hgl := hout.list.lt
      have r3 := hout.list.cell_some (k := p) (v := us[p]'(by omega)) (by simp [show p < us.length by omega])
      have r4 := hout.list.free p
      generalize us[p]'(by omega) = old at r3
      have HOUT : Hid (OutTo w.heap.size wr w.heap.size d D p bs us (fun r => rowF D (wide0 d A r))) := hout
      have HSC : Hid (∀ k, (h : k < (rowF d (A p)).length) → w.cell? ⟨sb, so + k, none⟩ = some (.int .u8 ((rowF d (A p))[k] : Nat))) := hsc
      have hsz := hbel.size
      clear hout hbs hsc hul
      obtain ⟨U, hU⟩ : ∃ U, U = Value.slice (some ⟨wr.heap.size, 0, none⟩) D D := ⟨_, rfl⟩
      obtain ⟨W1, hW1⟩ : ∃ W1, W1 = (wr.setCell ⟨w.heap.size, p, none⟩ U).alloc (.cells (madeCells #[.int .u8 0] D) 5) := ⟨_, rfl⟩
      have HLA : Hid (Laid wr W1 w.heap.size p U) := by rw [hW1]; exact Laid.start wr _ _ _ _ hgl
      have HN1 : Hid (Blk W1 wr.heap.size 5 (bytesV (List.replicate D 0))) := by
        have := made_bytes (wr.setCell ⟨w.heap.size, p, none⟩ U) D
        rw [size_setCell] at this
        rw [hW1]; exact this
      have HB1 : Hid (Below w.heap.size w W1) := by
        rw [hW1]; exact (hbel.setCell (Nat.le_refl _) _).alloc (by rw [size_setCell]; exact hsz) _
      have HSR : Hid (∀ j v, (bytesV (rowF d (A p)))[j]? = some v → W1.cell? ((⟨sb, so, none⟩ : Addr).add j) = some v) := fun j v hv => by
        have hj : j < (rowF d (A p)).length := by
          have := (List.getElem?_eq_some_iff.1 hv).1; simpa using this
        rw [Addr.add_lit, HB1.out.cell (p := ⟨sb, so + j, none⟩) hsb, HSC.out j hj, ← hv, bytesV_at hj]
      have HCO : Hid (splice (bytesV (List.replicate D 0)) 0 (bytesV (rowF d (A p))) = bytesV (rowF D (fun k => if k < d then A p k else 0))) := by
        exact copy_wide d D (A p) (by omega)
      have hgU : Value.slice (some ⟨wr.heap.size, 0, none⟩) D D = U := hU.symm
      have HU : Hid (U = Value.slice (some ⟨wr.heap.size, 0, none⟩) D D) := hU
      have HGW : Hid ((wr.setCell ⟨w.heap.size, p, none⟩ (.slice (some ⟨wr.heap.size, 0, none⟩) D D)).alloc (.cells (madeCells #[.int .u8 0] D) 5) = W1) := by show _ = _; rw [hW1, hU]
      have HLN : Hid ((bytesV (rowF d (A p))).length = Nat.min d D) := by
        show _ = _
        rw [bytesV_length, Plans.rowF_length]; exact (Nat.min_eq_left (by omega)).symm
      have HFT : Hid (0 + (bytesV (rowF d (A p))).length ≤ (bytesV (List.replicate D 0)).length) := by
        show _ ≤ _
        rw [bytesV_length, bytesV_length, Plans.rowF_length, List.length_replicate]; omega
      have HONE : Hid (∀ v ∈ bytesV (rowF d (A p)), v.oneCell' = true) := by intro v hv; simp [bytesV] at hv; obtain ⟨n, _, rfl⟩ := hv; rfl
      have hp2D : d + p < D := by omega
      clear hU hgU hW1
      go_wp2_with ((rw [HGW.out]; refine wpList_copy_splice rfl _ _ 56 56 rfl 5 Tryd.underlying56 infoByteSize _ _ _ _ _ _ rfl rfl wr.heap.size 0 (bytesV (List.replicate D 0)) 5 HN1.out (bytesV (rowF d (A p))) HLN.out (fun _ => ⟨rfl, ⟨sb, so, none⟩, rfl, HSR.out⟩) HFT.out HONE.out wr.heap.size W1 (Below.refl _ _) (Nat.le_refl _) ?_); intro w2 hg2 hb2; obtain ⟨HBW, HLA2, HB2, l1, c2, f2⟩ := wide_after HLA.out HOUT.out.list (by rw [HOUT.out.ulen]; exact hpd) hgl HB1.out hsz HCO.out hg2.out hb2 hp2D HU.out; clear hg2 hb2)
      have HLA3 : Hid (Laid wr (w2.setCell ⟨wr.heap.size, d + p, none⟩ (.int .u8 1)) w.heap.size p (.slice (some ⟨wr.heap.size, 0, none⟩) D D)) := by
        have := HLA2.out.setCell (a := ⟨wr.heap.size, d + p, none⟩) (Nat.le_refl _) hgl (.int .u8 1)
        rw [HU.out] at this; exact this
      have HR3 : Hid (Row8 (w2.setCell ⟨wr.heap.size, d + p, none⟩ (.int .u8 1)) wr.heap.size (rowF D (wide0 d A p))) := by
        have := (Row8.of_blk HBW.out).set (d + p) 1
        rw [wide_set d D p A (by omega)] at this
        exact this
      have HO3 : Hid (OutTo w.heap.size (w2.setCell ⟨wr.heap.size, d + p, none⟩ (.int .u8 1)) w.heap.size d D (p + 1) (bs ++ [wr.heap.size]) (us.set p (.slice (some ⟨wr.heap.size, 0, none⟩) D D)) (fun r => rowF D (wide0 d A r))) :=
        HOUT.out.laid HLA3.out hpd (Nat.le_refl _) hsz HR3.out (by simp)
      go_roundw
      case rel => exact ⟨p + 1, _, _, by omega, by go_num, HO3.out, HB2.out.setCell hsz _⟩
      case measure => simp [intOf]; omega
    · obtain rfl : d = p := by omega
      have HO : Hid (Outs w.heap.size wr w.heap.size d D (fun r => rowF D (wide0 d A r))) := hout.outs
      clear hout
      go_wp2
      go_ret
      exact ⟨w.heap.size, Nat.le_refl _, rfl, HO.out, hbel⟩
end Go.Proofs.YtokmllopbfmadabDoor.Ref

namespace Go.Proofs.YtokmllopbfmadabDoor.Ref
open Go.RowKit Mem FieldWalks Tab ByTab Parts
open Gf (Bytes wide0 swapR)
open Plans (But rowF)

theorem nodup_swap {l : List Nat} (hn : l.Nodup) (i j : Nat) (hi : i < l.length) (hj : j < l.length) : ((l.set i l[j]).set j l[i]).Nodup := by
  rw [List.Nodup, List.pairwise_iff_getElem] at *
  have inj : ∀ a b, (ha : a < l.length) → (hb : b < l.length) → l[a] = l[b] → a = b := fun a b ha hb e => by
    rcases Nat.lt_trichotomy a b with h | h | h
    · exact absurd e (hn a b ha hb h)
    · exact h
    · exact absurd e.symm (hn b a hb ha h)
  have key : ∀ a, (ha : a < l.length) → ∃ q, ∃ hq : q < l.length, ((l.set i l[j]).set j l[i])[a]'(by simpa using ha) = l[q] ∧ ((a = j ∧ q = i) ∨ (a ≠ j ∧ a = i ∧ q = j) ∨ (a ≠ j ∧ a ≠ i ∧ q = a)) := fun a ha => by
    by_cases e1 : a = j
    · subst e1; exact ⟨i, hi, by simp, .inl ⟨rfl, rfl⟩⟩
    · by_cases e2 : a = i
      · subst e2; exact ⟨j, hj, by rw [List.getElem_set_ne (Ne.symm e1)]; simp, .inr (.inl ⟨e1, rfl, rfl⟩)⟩
      · exact ⟨a, ha, by rw [List.getElem_set_ne (Ne.symm e1), List.getElem_set_ne (Ne.symm e2)], .inr (.inr ⟨e1, e2, rfl⟩)⟩
  intro a b ha hb hab e
  simp only [List.length_set] at ha hb
  obtain ⟨q1, h1, e1, c1⟩ := key a ha
  obtain ⟨q2, h2, e2, c2⟩ := key b hb
  rw [e1, e2] at e
  have := inj _ _ _ _ e
  omega
/-- Two rows change their places in the list. -/
theorem Outs.swap {base : Nat} {w : World} {g n L : Nat} {M : Nat → Nat → Nat} {c r : Nat} {bs : List Nat} {us : List Value} {uc ur : Value} (h : OutAt w g n L bs us (fun q => rowF L (M q))) (hl : ∀ b, b ∈ bs → base ≤ b) (hcap : ∀ q, (h : q < bs.length) → us[q]? = some (.slice (some ⟨bs[q], 0, none⟩) L L)) (hc : c < n) (hr : r < n) (huc : us[c]? = some uc) (hur : us[r]? = some ur) :
    Outs base ((w.setCell ⟨g, c, none⟩ ur).setCell ⟨g, r, none⟩ uc) g n L (fun q => rowF L (swapR M c r q)) := by
  have hlen := h.len
  have hcb : c < bs.length := by omega
  have hrb : r < bs.length := by omega
  have hcc := hcap c hcb
  have hcr := hcap r hrb
  rw [huc] at hcc; injection hcc with hcc
  rw [hur] at hcr; injection hcr with hcr
  have hcu : c < us.length := (List.getElem?_eq_some_iff.1 huc).1
  have hru : r < us.length := (List.getElem?_eq_some_iff.1 hur).1
  have hcap2 : ∀ p, (hp : p < ((bs.set c bs[r]).set r bs[c]).length) → ((us.set c ur).set r uc)[p]? = some (.slice (some ⟨((bs.set c bs[r]).set r bs[c])[p], 0, none⟩) L L) := fun p hp => by
    have hp' : p < bs.length := by simpa using hp
    by_cases e1 : p = r
    · subst e1; simp [hru, hcc]
    · by_cases e2 : p = c
      · subst e2; rw [List.getElem?_set_ne (Ne.symm e1)]; simp [hcu, hcr, List.getElem_set_ne (Ne.symm e1)]
      · have hc' := hcap p hp'
        rw [List.getElem?_set_ne (Ne.symm e1), List.getElem?_set_ne (Ne.symm e2)]; simpa [List.getElem_set_ne (Ne.symm e1), List.getElem_set_ne (Ne.symm e2)] using hc'
  refine ⟨(bs.set c bs[r]).set r bs[c], (us.set c ur).set r uc, ⟨(h.list.set c ur).set r uc, by simp [hlen], nodup_swap h.nodup c r hcb hrb, fun p _ => by simp, fun p hp => ⟨L, hcap2 p hp⟩, fun p hp => ?_⟩, fun b hb => ?_, hcap2⟩
  · have hp' : p < bs.length := by simpa using hp
    have keep : ∀ q, (hq : q < bs.length) → Row8 ((w.setCell ⟨g, c, none⟩ ur).setCell ⟨g, r, none⟩ uc) bs[q] (rowF L (M q)) := fun q hq => by
      have hne : bs[q] ≠ g := (h.row q hq).type_ne h.list (by decide)
      exact ((h.row q hq).other (a := ⟨g, c, none⟩) hne _).other (a := ⟨g, r, none⟩) hne _
    by_cases e1 : p = r
    · subst e1
      have : swapR M c p p = M c := by unfold swapR; split <;> simp_all
      simp only [this]
      simpa using keep c hcb
    · by_cases e2 : p = c
      · subst e2
        have : swapR M p r p = M r := by simp [swapR]
        simp only [this]
        rw [List.getElem_set_ne (Ne.symm e1)]
        simpa using keep r hrb
      · have : swapR M c r p = M p := by simp [swapR, e1, e2]
        simp only [this]
        rw [List.getElem_set_ne (Ne.symm e1), List.getElem_set_ne (Ne.symm e2)]
        exact keep p hp'
  · rcases List.mem_or_eq_of_mem_set hb with hb | rfl
    · rcases List.mem_or_eq_of_mem_set hb with hb | rfl
      · exact hl b hb
      · exact hl _ (List.getElem_mem _)
    · exact hl _ (List.getElem_mem _)

set_option maxRecDepth 100000 in
set_option maxHeartbeats 2000000 in
theorem bringUp_any (base g n L c cap : Nat) (M : Nat → Nat → Nat) (w : World) (hn : n ≤ 100) (_hL : L ≤ 1000) (hc : c < n) (hcL : c < L) (hbg : base ≤ g) (ho : Outs base w g n L (fun q => rowF L (M q))) (hpiv : ∃ r, c ≤ r ∧ r < n ∧ M r c ≠ 0) :
    Calls Tryd.prog 75 #[.slice (some ⟨g, 0, none⟩) n cap, .int .i64 c] w fun e w' => e = .returned (.tuple #[]) ∧ ∃ r, c ≤ r ∧ r < n ∧ M r c ≠ 0 ∧ Outs base w' g n L (fun q => rowF L (swapR M c r q)) ∧ Below base w w' := by
  obtain ⟨bs, us, hout, hlow, hcap⟩ := ho
  have HCAP : Hid (∀ q, (h : q < bs.length) → us[q]? = some (.slice (some ⟨bs[q], 0, none⟩) L L)) := hcap
  have HOUT : Hid (OutAt w g n L bs us (fun q => rowF L (M q))) := hout
  have HLOW : Hid (∀ b, b ∈ bs → base ≤ b) := hlow
  have HPIV : Hid (∃ r, c ≤ r ∧ r < n ∧ M r c ≠ 0) := hpiv
  clear hout hlow hpiv hcap
  go_enter Tryd.func75, Tryd.ntmps75
  go_wp2
  go_loop [4] (fun i => ∃ r : Nat, c ≤ r ∧ r ≤ n ∧ i = .int .i64 r ∧ ∀ q, c ≤ q → q < r → M q c = 0) (fun i => n - (intOf i).toNat)
  case atStart => exact ⟨c, Nat.le_refl _, by omega, rfl, fun q h1 h2 => by omega⟩
  case round =>
    obtain ⟨r, hcr, hrn, rfl, hz⟩ := hrel
    have HZ : Hid (∀ q, c ≤ q → q < r → M q c = 0) := hz
    clear hz
    by_cases hlt : r < n
    · obtain ⟨b1, c1, hb1, g1, hbg1, hb1l, hcell⟩ := HOUT.out.read r hlt
      obtain ⟨g2, g3⟩ := hcell c hcL
      rw [show (rowF L (M r)).getD c 0 = M r c by simp [rowF, hcL]] at g2
      obtain ⟨b2, c2, hb2, k1, hz1, hz2, hz3⟩ := HOUT.out.read c hc
      clear hz1 hz2 hz3
      obtain ⟨x, hx⟩ : ∃ x, x = M r c := ⟨_, rfl⟩
      rw [← hx] at g2
      have HX : Hid (x = M r c) := hx
      have k3 := HOUT.out.list.free c
      have k4 := HOUT.out.list.free r
      clear hcell hx
      by_cases h0 : x = 0
      · have e0 : ((x : Int) != 0) = false := by simp [h0]
        have e1 : ((x : Int) == 0) = true := by simp [h0]
        have HZ2 : Hid (∀ q, c ≤ q → q < r + 1 → M q c = 0) := fun q h1 h2 => by
          by_cases e : q = r
          · rw [e, ← HX.out, h0]
          · exact HZ.out q h1 (by omega)
        clear h0
        go_wp2
        go_round
        case rel => exact ⟨r + 1, by omega, by omega, by go_num, HZ2.out⟩
        case measure => simp [intOf]; omega
      · have e0 : ((x : Int) != 0) = true := by simp; omega
        have h0' : ¬ (x : Int) = 0 := by omega
        have HXN : Hid (M r c ≠ 0) := by rw [← HX.out]; exact h0
        by_cases erc : r = c
        · have HSW : Hid (Outs base ((w.setCell ⟨g, c, none⟩ (.slice (some ⟨b1, 0, none⟩) L c1)).setCell ⟨g, r, none⟩ (.slice (some ⟨b2, 0, none⟩) L c2)) g n L (fun q => rowF L (swapR M c r q))) :=
            Outs.swap HOUT.out HLOW.out HCAP.out hc hlt (by rw [← HOUT.out.list.cell c]; exact k1) (by rw [← HOUT.out.list.cell r]; exact g1)
          have erc2 : c = r := erc.symm
          clear erc
          subst erc2
          obtain ⟨e1, e2⟩ : b2 = b1 ∧ c2 = c1 := by
            rw [k1] at g1
            simpa using g1
          subst e1 e2
          clear k4
          go_wp2
          go_region
          all_goals
            go_wp2
            go_returns
            exact ⟨rfl, c, Nat.le_refl _, hlt, HXN.out, HSW.out.to (Below.refl _ _).drew, (((Below.refl _ _).setCell hbg _).setCell hbg _).drew⟩
        · have HSW : Hid (Outs base ((w.setCell ⟨g, c, none⟩ (.slice (some ⟨b1, 0, none⟩) L c1)).setCell ⟨g, r, none⟩ (.slice (some ⟨b2, 0, none⟩) L c2)) g n L (fun q => rowF L (swapR M c r q))) :=
            Outs.swap HOUT.out HLOW.out HCAP.out hc hlt (by rw [← HOUT.out.list.cell c]; exact k1) (by rw [← HOUT.out.list.cell r]; exact g1)
          go_wp2
          go_region
          all_goals
            go_wp2
            go_returns
            exact ⟨rfl, r, hcr, hlt, HXN.out, HSW.out.to (Below.refl _ _).drew, (((Below.refl _ _).setCell hbg _).setCell hbg _).drew⟩
    · obtain rfl : n = r := by omega
      obtain ⟨q, h1, h2, h3⟩ := HPIV.out
      exact absurd (HZ.out q h1 h2) h3
end Go.Proofs.YtokmllopbfmadabDoor.Ref
