import Derived.Shelf.Bytes.SlJoin
import Derived.Test.YtokmllopbfmadaaDoorGPWay
import Derived.Test.YtokmllopbfmadaaDoorGPackMath
import Derived.Test.YtokmllopbfmadaaDoorGParts
import Derived.Lib.FrozenHead
import Derived.Test.YtokmllopbfmadaaDoorGChangeMem
namespace Go.Proofs.YtokmllopbfmadaaDoor.Ref
open Go.RowKit Mem FieldWalks Tab ByTab Parts
open Gf (Bytes)

/-- The numbers of bytes.Join and of its types here. -/
def jren : Go.Shelf.Ren := ⟨fun k => if k = 14 then 90 else 112, fun t => if t = 22 then 71 else if t = 26 then 104 else if t = 3 then 3 else if t = 4 then 4 else if t = 5 then 5 else if t = 9 then 9 else if t = 20 then 20 else 0, fun x => x⟩
theorem lays : SlLaysJ.n14 Tryd.prog jren where
  mixed := by kernel_rfl
  f14 := by kernel_rfl
  f15 := by kernel_rfl
  t0 := by kernel_rfl
  a0 := fun w => by kernel_rfl
  z0 := fun w => by kernel_rfl
  v0 := fun w => by kernel_rfl
  t3 := by kernel_rfl
  a3 := fun w => by kernel_rfl
  z3 := fun w => by kernel_rfl
  v3 := fun w => by kernel_rfl
  t4 := by kernel_rfl
  a4 := fun w => by kernel_rfl
  z4 := fun w => by kernel_rfl
  v4 := fun w => by kernel_rfl
  t9 := by kernel_rfl
  a9 := fun w => by kernel_rfl
  z9 := fun w => by kernel_rfl
  v9 := fun w => by kernel_rfl
  t20 := by kernel_rfl
  a20 := fun w => by kernel_rfl
  z20 := fun w => by kernel_rfl
  v20 := fun w => by kernel_rfl
  t22 := by kernel_rfl
  a22 := fun w => by kernel_rfl
  z22 := fun w => by kernel_rfl
  v22 := fun w => by kernel_rfl
  t26 := by kernel_rfl
  a26 := fun w => by kernel_rfl
  z26 := fun w => by kernel_rfl
  v26 := fun w => by kernel_rfl
  t5 := by kernel_rfl
  z5 := fun w => by kernel_rfl
  i5 := by kernel_rfl

def u8s (l : List Nat) : List UInt8 := l.map UInt8.ofNat
theorem u8_toNat (n : Nat) (h : n < 256) : (UInt8.ofNat n).toNat = n := by
  simp [UInt8.toNat_ofNat']; omega
theorem u8s_inj {a b : List Nat} (ha : Bytes a) (hb : Bytes b) (h : u8s a = u8s b) : a = b := by
  have hl : a.length = b.length := by have := congrArg List.length h; simpa [u8s] using this
  apply List.ext_getElem hl
  intro k h1 h2
  have e : (u8s a)[k]? = (u8s b)[k]? := by rw [h]
  simp only [u8s, List.getElem?_map, List.getElem?_eq_getElem h1, List.getElem?_eq_getElem h2, Option.map_some, Option.some.injEq] at e
  have := congrArg UInt8.toNat e
  rwa [u8_toNat _ (ha.at k h1), u8_toNat _ (hb.at k h2)] at this
theorem holds_of_bs {w : World} {v : Value} {l : List Nat} (h : BsAt w v l) (hb : Bytes l) : Lib.HoldsBytes w v (u8s l) := by
  obtain ⟨ao, cap, rfl, h⟩ := h
  refine ⟨ao, cap, by simp [u8s], fun e => ?_, fun a ha i x hx => ?_⟩
  · rcases h with h | ⟨b, off, h1, _⟩
    · simp [u8s, h]
    · rw [e] at h1; cases h1
  · have hi : i < l.length := by
      have := (List.getElem?_eq_some_iff.1 hx).1; simpa [u8s] using this
    rcases h with h | ⟨b, off, h1, h2, h3⟩
    · rw [h] at hi; simp at hi
    · rw [ha] at h1
      injection h1 with h1
      subst h1
      rw [Addr.add_lit, h3 i hi]
      simp only [u8s, List.getElem?_map, List.getElem?_eq_getElem hi, Option.map_some, Option.some.injEq] at hx
      rw [← hx, u8_toNat _ (hb.at i hi)]
theorem bsC_of_fresh {B : Nat} {w : World} {v : Value} {l : List Nat} (hb : Bytes l) (h : Lib.FreshBytes B w v (u8s l)) (hlt : ∀ g c, v = .slice (some ⟨g, 0, none⟩) l.length c → l ≠ [] → g < w.heap.size) : BsC w v l := by
  obtain ⟨g, cap, zs, hv, h1, h2, h3, h4, h5, h6, h7, h8⟩ := h
  have hll : (u8s l).length = l.length := by simp [u8s]
  rw [hll] at hv h2 h6
  refine ⟨some ⟨g, 0, none⟩, cap - l.length, by rw [hv]; congr 1; omega, ?_⟩
  by_cases he : l = []
  · exact .inl he
  · refine .inr ⟨g, 0, rfl, hlt g cap hv he, fun k hk => ?_⟩
    rw [Nat.zero_add, h7 k (by omega)]
    have hkz : k < zs.length := by omega
    have e : zs.getD k 0 = zs[k] := by simp [hkz]
    rw [e]
    have hz := h5 zs[k] (List.getElem_mem _)
    have e2 : (Lib.bytesOf (zs.take l.length))[k]? = (u8s l)[k]? := by rw [h6]
    simp only [Lib.bytesOf, u8s, List.getElem?_map, List.getElem?_take_of_lt hk, List.getElem?_eq_getElem hkz, List.getElem?_eq_getElem hk, Option.map_some, Option.some.injEq] at e2
    have := congrArg UInt8.toNat e2
    rw [u8_toNat _ (by omega), u8_toNat _ (hb.at k hk)] at this
    congr 2; omega
theorem u8s_flatten (ps : List (List Nat)) : u8s ps.flatten = (ps.map u8s).flatten := by
  unfold u8s; rw [List.map_flatten]
theorem join_flat (xs : List (List UInt8)) : Lib.join xs [] = xs.flatten := by
  cases xs with
  | nil => rfl
  | cons x r => rw [Lib.join_cons]; simp [Lib.joinTail]
theorem lens_flat (xs : List (List UInt8)) : Lib.lens xs = xs.flatten.length := by simp [Lib.lens, List.length_flatten]
theorem bytes_flat {ps : List (List Nat)} (h : ∀ j, (h : j < ps.length) → Bytes ps[j]) : Bytes ps.flatten := by
  intro v hv
  obtain ⟨l, hl, hm⟩ := List.mem_flatten.1 hv
  obtain ⟨j, hj, rfl⟩ := List.mem_iff_getElem.1 hl
  exact h j hj v hm

/-- bytes.Join of rows, with nothing in between. -/
theorem join_any (ps : List (List Nat)) (d b : Nat) (w : World) (hd : 1 ≤ d) (hl : ps.length = d) (hr : RowsC w (.slice (some ⟨b, 0, none⟩) d d) ps) (hbytes : ∀ j, (h : j < ps.length) → Bytes ps[j]) (hd2 : d ≤ 100) (hs : ps.flatten.length ≤ 100000) :
    Calls Tryd.prog 90 #[.slice (some ⟨b, 0, none⟩) d d, .slice none 0 0] w fun e w' => ∃ v, e = .returned v ∧ BsC w' v ps.flatten ∧ Below w.heap.size w w' := by
  have hc : ∀ k, (h : k < ps.length) → ∃ u, w.cell? ⟨b, 0 + k, none⟩ = some u ∧ BsAt w u ps[k] := fun k hk => by
    obtain ⟨b', off, cap, he, h1, h2⟩ := hr.pos (by omega)
    injection he with he _ _
    injection he with he
    injection he with he1 he2
    subst he1 he2
    obtain ⟨u, h3, h4⟩ := h2 k hk
    exact ⟨u, h3, h4.bs⟩
  have hbf := bytes_flat hbytes
  by_cases h2 : 2 ≤ d
  · obtain ⟨vs, hvl, hvc, hvr⟩ := rows_cells hc
    have hP : Lib.PartsAt w ⟨b, 0, none⟩ vs (ps.map u8s) := by
      refine ⟨by simp [hvl], fun i v hv => by rw [Addr.add_lit]; exact hvc i v hv, fun i v l hv hl2 => ?_⟩
      have hi : i < ps.length := by
        have := (List.getElem?_eq_some_iff.1 hl2).1; simpa using this
      obtain ⟨u, h3, h4⟩ := hvr i hi
      rw [hv] at h3
      injection h3 with h3
      subst h3
      simp only [List.getElem?_map, List.getElem?_eq_getElem hi, Option.map_some, Option.some.injEq] at hl2
      rw [← hl2]
      exact holds_of_bs h4 (hbytes i hi)
    have hS : Lib.HoldsBytes w (.slice none 0 0) [] := ⟨none, 0, rfl, fun _ => rfl, fun a ha => by cases ha⟩
    have := Any.bytes_Join_many lays b 0 d d vs (ps.map u8s) (.slice none 0 0) [] w (by simp [hl]) h2 hP (Nat.le_refl _) hS (by omega) (by rw [lens_flat, ← u8s_flatten, show (u8s ps.flatten).length = ps.flatten.length from List.length_map _, List.length_nil, Nat.zero_mul]; omega)
    refine this.mono ?_
    rintro e w' ⟨v, rfl, hf, hb⟩
    rw [join_flat, ← u8s_flatten] at hf
    refine ⟨v, rfl, bsC_of_fresh hbf hf (fun g c hv hne => ?_), hb⟩
    obtain ⟨g', cap, zs, hv', _, hcp, _, _, _, _, h7, _⟩ := hf
    rw [hv] at hv'
    injection hv' with hv' _ _
    injection hv' with hv'
    injection hv' with hv'
    subst hv'
    have hpos : 0 < ps.flatten.length := List.length_pos_iff.2 hne
    exact block_lt_of_cell (h7 0 (by have : (u8s ps.flatten).length = ps.flatten.length := List.length_map _; omega))
  · obtain rfl : d = 1 := by omega
    obtain ⟨l0, hl0⟩ : ∃ l0, ps = [l0] := by
      match ps, hl with
      | [l0], _ => exact ⟨l0, rfl⟩
    subst hl0
    obtain ⟨u, hu, hbs⟩ := hc 0 (by simp)
    have hb0 : Bytes l0 := hbytes 0 (by simp)
    have hfl : [l0].flatten = l0 := by simp
    rw [hfl] at hbf hs ⊢
    obtain ⟨ao, cap, rfl, h1⟩ := hbs
    simp only [List.getElem_cons_zero] at h1 hu
    by_cases he : l0 = []
    · subst he
      refine (Any.bytes_Join_one_empty lays b 0 1 ao cap (.slice none 0 0) w hu).mono ?_
      rintro e w' ⟨rfl, rfl⟩
      exact ⟨_, rfl, ⟨none, 0, rfl, .inl rfl⟩, Below.refl _ _⟩
    · obtain ⟨b', off, rfl, h2, h3⟩ : ∃ b off, ao = some ⟨b, off, none⟩ ∧ b < w.heap.size ∧ ∀ k, (h : k < l0.length) → w.cell? ⟨b, off + k, none⟩ = some (.int .u8 (l0[k] : Nat)) := by
        rcases h1 with h | h
        · exact absurd h he
        · exact h
      have hpos : 0 < l0.length := List.length_pos_iff.2 he
      refine (Any.bytes_Join_one lays b 0 1 ⟨b', off, none⟩ cap (u8s l0) (.slice none 0 0) w (by simpa [u8s] using hu) (fun i x hx => ?_) (by simpa [u8s] using hpos) (by simp [u8s]; omega)).mono ?_
      · have hi : i < l0.length := by
          have := (List.getElem?_eq_some_iff.1 hx).1; simpa [u8s] using this
        rw [Addr.add_lit, h3 i hi]
        simp only [u8s, List.getElem?_map, List.getElem?_eq_getElem hi, Option.map_some, Option.some.injEq] at hx
        rw [← hx, u8_toNat _ (hb0.at i hi)]
      · rintro e w' ⟨v, rfl, hf, hb⟩
        refine ⟨v, rfl, bsC_of_fresh hb0 hf (fun g c hv hne => ?_), hb⟩
        obtain ⟨g', cap', zs, hv', _, hcp, _, _, _, _, h7, _⟩ := hf
        rw [hv] at hv'
        injection hv' with hv' _ _
        injection hv' with hv'
        injection hv' with hv'
        subst hv'
        exact block_lt_of_cell (h7 0 (by have : (u8s l0).length = l0.length := List.length_map _; omega))
end Go.Proofs.YtokmllopbfmadaaDoor.Ref

/- A pack whose frames are spoilt, up to four bytes of each: which are bad, and what the others say. Nothing of the program. -/
namespace Go.Proofs.YtokmllopbfmadaaDoor.Ref
open Go.RowKit Mem FieldWalks Tab ByTab Parts
open Gf (Bytes)

/-- To j bytes from a on something is added. -/
def xorTo (f : List Nat) (a : Nat) (g : Nat → Nat) : Nat → List Nat
  | 0 => f
  | j + 1 => (xorTo f a g j).set (a + j) ((xorTo f a g j).getD (a + j) 0 ^^^ g j)
theorem xorTo_length (f : List Nat) (a : Nat) (g : Nat → Nat) : ∀ j, (xorTo f a g j).length = f.length
  | 0 => rfl
  | j + 1 => by rw [xorTo, List.length_set, xorTo_length f a g j]
theorem xorTo_bytes {f : List Nat} (hf : Bytes f) (a : Nat) {g : Nat → Nat} (hg : ∀ j, g j < 256) : ∀ j, Bytes (xorTo f a g j)
  | 0 => hf
  | j + 1 => by
    intro x hx
    rcases List.mem_or_eq_of_mem_set hx with hx | rfl
    · exact xorTo_bytes hf a hg j x hx
    · exact Nat.xor_lt_two_pow (n := 8) ((xorTo_bytes hf a hg j).getD _) (hg j)
theorem xorTo_take (f : List Nat) (a : Nat) (g : Nat → Nat) (i : Nat) (hi : i ≤ a) : ∀ j, (xorTo f a g j).take i = f.take i
  | 0 => rfl
  | j + 1 => by rw [xorTo, List.take_set_of_le (by omega), xorTo_take f a g i hi j]
theorem xorTo_drop (f : List Nat) (a : Nat) (g : Nat → Nat) (i : Nat) : ∀ j, a + j ≤ i → (xorTo f a g j).drop i = f.drop i
  | 0, _ => rfl
  | j + 1, h => by rw [xorTo, List.drop_set_of_lt (by omega), xorTo_drop f a g i j (by omega)]
theorem xorTo_first (f : List Nat) (a : Nat) (g : Nat → Nat) (ha : a < f.length) : ∀ j, (xorTo f a g (j + 1)).getD a 0 = f.getD a 0 ^^^ g 0
  | 0 => by
    rw [xorTo, List.getD_eq_getElem?_getD, Nat.add_zero, List.getElem?_set_self (by rw [xorTo_length]; exact ha)]
    rfl
  | j + 1 => by
    rw [xorTo, List.getD_eq_getElem?_getD, List.getElem?_set_ne (by omega), ← List.getD_eq_getElem?_getD]
    exact xorTo_first f a g ha j
theorem xor_ne {a b : Nat} (hb : b ≠ 0) : a ^^^ b ≠ a := by
  intro h
  apply hb
  have : a ^^^ (a ^^^ b) = a ^^^ a := by rw [h]
  rw [← Nat.xor_assoc, Nat.xor_self, Nat.zero_xor] at this
  exact this
theorem three (l : List Nat) (a c e : Nat) : l.take e = (l.take e).take a ++ ((l.take e).drop a).take c ++ (l.take e).drop (a + c) := by
  rw [← List.drop_drop, List.append_assoc, List.take_append_drop, List.take_append_drop]
/-- How a frame is spoilt: from a on, c bytes, within its number and piece or within its check. -/
structure Hit (L a c : Nat) (g : Nat → Nat) : Prop where
  c1 : 1 ≤ c
  c4 : c ≤ 4
  g0 : g 0 ≠ 0
  gb : ∀ j, g j < 256
  place : a + c ≤ L + 1 ∨ (L + 1 ≤ a ∧ a + c ≤ L + 5)
theorem IsPack.hit {p : ByteArray} {d s n L : Nat} {fs : List (List Nat)} (h : IsPack p d s n L fs) {k : Nat} (hk : k < fs.length) {x : List Nat} (hx : x.length = L) (hxb : Bytes (k :: x)) {a c : Nat} {g : Nat → Nat} (hh : Hit L a c g) (hf : fs[k] = xorTo (frameL (headL d s n) k x) a g c) : badAt p k = true := by
  have ht := frameL_take (H := headL d s n) (k := k) hx
  have hd := frameL_drop (H := headL d s n) (k := k) hx
  have hlen := frameL_length (headL d s n) k x
  obtain ⟨j, rfl⟩ : ∃ j, c = j + 1 := ⟨c - 1, by have := hh.c1; omega⟩
  have hne : ∀ i, i = a → a < L + 5 → (xorTo (frameL (headL d s n) k x) a g (j + 1)).getD i 0 ≠ (frameL (headL d s n) k x).getD i 0 := by
    rintro i rfl hi
    rw [xorTo_first _ _ _ (by omega)]
    exact xor_ne hh.g0
  have hB : Bytes (frameL (headL d s n) k x) := by
    unfold frameL
    exact bytes_app hxb (Crc.check_bytes _)
  have hGB := xorTo_bytes hB a hh.gb (j + 1)
  have T := fun i hi => xorTo_take (frameL (headL d s n) k x) a g i hi (j + 1)
  have D := fun i => xorTo_drop (frameL (headL d s n) k x) a g i (j + 1)
  have Z := xorTo_length (frameL (headL d s n) k x) a g (j + 1)
  have h4 := hh.c4
  rw [← hf] at hne hGB T D Z
  rcases hh.place with hp | ⟨hp, hp2⟩
  · have e1 : (fs[k].take (L + 1)).take a = (k :: x).take a := by
      rw [List.take_take, Nat.min_eq_left (by omega), T a (Nat.le_refl _), ← ht, List.take_take, Nat.min_eq_left (by omega)]
    have e2 : (fs[k].take (L + 1)).drop (a + (j + 1)) = (k :: x).drop (a + (j + 1)) := by
      rw [List.drop_take, D _ (Nat.le_refl _), ← List.drop_take, ht]
    refine h.bad_body hk (x := x) (a := (k :: x).take a) (y := ((k :: x).drop a).take (j + 1)) (z := ((fs[k].take (L + 1)).drop a).take (j + 1)) (b := (k :: x).drop (a + (j + 1))) hxb ?_ ?_ ?_ ?_ ?_ ?_ ?_
    · have := three (k :: x) a (j + 1) (L + 1)
      rwa [List.take_of_length_le (show (k :: x).length ≤ L + 1 by simp [hx])] at this
    · have := three fs[k] a (j + 1) (L + 1)
      rw [e1, e2] at this
      exact this
    · exact fun v hv => hGB v (List.mem_of_mem_take (List.mem_of_mem_drop (List.mem_of_mem_take hv)))
    · simp only [List.length_take, List.length_drop, List.length_cons, hx, Z, hlen]; omega
    · rw [List.length_take]; omega
    · intro he
      have e0 : (((k :: x).drop a).take (j + 1)).getD 0 0 = (((fs[k].take (L + 1)).drop a).take (j + 1)).getD 0 0 := by rw [he]
      apply hne a rfl (by omega)
      simp only [List.getD_eq_getElem?_getD, List.getElem?_take, List.getElem?_drop, Nat.add_zero, Nat.zero_lt_succ, if_true, show a < L + 1 by omega, ← ht] at e0 ⊢
      exact e0.symm
    · rw [D _ (by omega), hd]
  · refine h.bad_check hk (x := x) ?_ ?_
    · rw [T _ hp, ht]
    · rw [← hd]
      intro he
      apply hne a rfl (by omega)
      have e0 : (fs[k].drop (L + 1)).getD (a - (L + 1)) 0 = ((frameL (headL d s n) k x).drop (L + 1)).getD (a - (L + 1)) 0 := by rw [he]
      simp only [List.getD_eq_getElem?_getD, List.getElem?_drop, show L + 1 + (a - (L + 1)) = a by omega] at e0 ⊢
      exact e0
/-- A pack of pieces, of which the frames in bad are spoilt. -/
structure Spoilt (q : ByteArray) (d s n L : Nat) (ps : List ByteArray) (bad : List Nat) (fs : List (List Nat)) : Prop where
  is : IsPack q d s n L fs
  plen : ps.length = d + s
  psize : ∀ x ∈ ps, x.size = L
  within : ∀ k ∈ bad, k < d + s
  good : ∀ k, (h : k < ps.length) → k ∉ bad → fs[k]? = some (frameL (headL d s n) k (nums ps[k]))
  hits : ∀ k, (h : k < ps.length) → k ∈ bad → ∃ a c g, Hit L a c g ∧ fs[k]? = some (xorTo (frameL (headL d s n) k (nums ps[k])) a g c)
theorem spoilt_none {d s n L : Nat} {ps : List ByteArray} (d1 : 1 ≤ d) (d2 : d ≤ 10) (s2 : s ≤ 6) (n2 : n ≤ 400) (eL : L = (n + d - 1) / d) (hl : ps.length = d + s) (hp : ∀ x ∈ ps, x.size = L) : Spoilt (packS d s n ps) d s n L ps [] (framesL (headL d s n) ps) where
  is := packS_is d1 d2 s2 n2 eL hl hp
  plen := hl
  psize := hp
  within := by simp
  good := by
    intro k h _
    have hk : k < (framesL (headL d s n) ps).length := by simp [framesL, h]
    rw [List.getElem?_eq_getElem hk, framesL_get hk h]
  hits := by simp
namespace Spoilt
variable {q : ByteArray} {d s n L : Nat} {ps : List ByteArray} {bad : List Nat} {fs : List (List Nat)}
theorem flen (h : Spoilt q d s n L ps bad fs) : fs.length = ps.length := by rw [h.is.len, h.plen]
theorem badAt_iff (h : Spoilt q d s n L ps bad fs) (k : Nat) (hk : k < d + s) : badAt q k = decide (k ∈ bad) := by
  have hk1 : k < ps.length := by rw [h.plen]; exact hk
  have hk2 : k < fs.length := by rw [h.flen]; exact hk1
  have hx : (nums ps[k]).length = L := by rw [nums_length]; exact h.psize _ (List.getElem_mem hk1)
  by_cases hb : k ∈ bad
  · obtain ⟨a, c, g, hh, he⟩ := h.hits k hk1 hb
    rw [List.getElem?_eq_getElem hk2] at he
    rw [decide_eq_true hb]
    refine h.is.hit hk2 hx ?_ hh (Option.some.inj he)
    have := h.is.d2; have := h.is.s2
    intro v hv
    rcases List.mem_cons.1 hv with rfl | hv
    · omega
    · exact nums_bytes _ v hv
  · have he := h.good k hk1 hb
    rw [List.getElem?_eq_getElem hk2] at he
    rw [decide_eq_false hb]
    exact (h.is.good hk2 hx (Option.some.inj he)).1
theorem pieceAt_eq (h : Spoilt q d s n L ps bad fs) (k : Nat) (hk : k < ps.length) (hb : k ∉ bad) : pieceAt q k = ps[k] := by
  have hk2 : k < fs.length := by rw [h.flen]; exact hk
  have hx : (nums ps[k]).length = L := by rw [nums_length]; exact h.psize _ (List.getElem_mem hk)
  have he := h.good k hk hb
  rw [List.getElem?_eq_getElem hk2] at he
  exact nums_inj (h.is.good hk2 hx (Option.some.inj he)).2
/-- Just the spoilt ones are bad. -/
theorem opened (h : Spoilt q d s n L ps bad fs) : openBad q = (List.range (d + s)).filter (fun k => decide (k ∈ bad)) := by
  unfold openBad badTo
  rw [h.is.hD, h.is.hS]
  refine List.filter_congr fun k hk => ?_
  rw [h.badAt_iff k (List.mem_range.1 hk)]
theorem pieces_length (h : Spoilt q d s n L ps bad fs) : (openPieces q).length = d + s := by
  simp [openPieces, piecesTo, h.is.hD, h.is.hS]
theorem pieces_size (h : Spoilt q d s n L ps bad fs) (k : Nat) (hk : k < (openPieces q).length) : (openPieces q)[k].size = L := by
  have := h.pieces_length
  simp only [openPieces, piecesTo, List.getElem_map, List.getElem_range]
  exact h.is.pieceSize k (by rw [h.is.len]; omega)
theorem pieces_get (h : Spoilt q d s n L ps bad fs) (k : Nat) (hk : k < (openPieces q).length) (hk2 : k < ps.length) (hb : k ∉ bad) : (openPieces q)[k] = ps[k] := by
  simp only [openPieces, piecesTo, List.getElem_map, List.getElem_range]
  exact h.pieceAt_eq k hk2 hb
/-- One more frame is spoilt. -/
theorem more (h : Spoilt q d s n L ps bad fs) {q' : ByteArray} {k a c : Nat} {g : Nat → Nat} (hk : k < d + s) (hb : k ∉ bad) (hh : Hit L a c g) (hk2 : k < fs.length) (hq : IsPack q' d s n L (fs.set k (xorTo fs[k] a g c))) : Spoilt q' d s n L ps (bad ++ [k]) (fs.set k (xorTo fs[k] a g c)) where
  is := hq
  plen := h.plen
  psize := h.psize
  within := by
    intro i hi
    rcases List.mem_append.1 hi with hi | hi
    · exact h.within i hi
    · simp at hi; omega
  good := by
    intro i hi hn
    simp at hn
    rw [List.getElem?_set_ne (by omega)]
    exact h.good i hi hn.1
  hits := by
    intro i hi hm
    by_cases e : k = i
    · subst e
      refine ⟨a, c, g, hh, ?_⟩
      have := h.good k hi hb
      rw [List.getElem?_eq_getElem hk2] at this
      rw [List.getElem?_set_self hk2, Option.some.inj this]
    · rw [List.getElem?_set_ne e]
      refine h.hits i hi ?_
      rcases List.mem_append.1 hm with hm | hm
      · exact hm
      · simp at hm; omega
end Spoilt
/-- The bytes of a frame are spoilt one after another. -/
theorem IsPack.hitTo {q : ByteArray} {d s n L : Nat} {fs : List (List Nat)} {k : Nat} (hk : k < fs.length) (a : Nat) (g : Nat → Nat) (j : Nat) (h : IsPack q d s n L (fs.set k (xorTo fs[k] a g j))) (ha : a + j < L + 5) {q' : ByteArray}
    (hq : nums q' = (nums q).set (10 + k * (L + 5) + (a + j)) ((nums q).getD (10 + k * (L + 5) + (a + j)) 0 ^^^ g j)) : IsPack q' d s n L (fs.set k (xorTo fs[k] a g (j + 1))) := by
  have hk' : k < (fs.set k (xorTo fs[k] a g j)).length := by simpa using hk
  have ge : (fs.set k (xorTo fs[k] a g j))[k] = xorTo fs[k] a g j := by simp
  have hv : (nums q).getD (10 + k * (L + 5) + (a + j)) 0 = (xorTo fs[k] a g j).getD (a + j) 0 := by
    have hf := h.frame k hk'
    rw [ge] at hf
    rw [← hf]
    unfold frameAt
    rw [numsX, h.hL]
    simp only [List.getD_eq_getElem?_getD, List.getElem?_take, List.getElem?_drop]
    rw [if_pos (by rw [Nat.add_mul]; omega)]
  have := h.set k (a + j) _ hk' ha hq
  rw [ge, hv, List.set_set] at this
  exact this
end Go.Proofs.YtokmllopbfmadaaDoor.Ref

namespace Go.Proofs.YtokmllopbfmadaaDoor.Ref
open Go.RowKit Parts
/-- The old byte. -/
def oldOf (pieces : List ByteArray) (p t : Nat) : Nat := (nums (pieces.getD p ByteArray.empty)).getD t 0
end Go.Proofs.YtokmllopbfmadaaDoor.Ref

/- A row of bytes that came of a string and is the call's own: strings are appended to it. Nothing of the program but its type of bytes. -/
namespace Go.Proofs.YtokmllopbfmadaaDoor.Pk
open Go.RowKit Mem FieldWalks Tab ByTab Parts Ref
open Go.Lib (strCells strCells_length strCells_oneCell)

/-- Values are stored one after another into a row of which nothing is frozen, or nothing but what lies behind it. -/
theorem store_run {P : Program} (g o : Nat) (t : TypeId) (fz : Nat × Nat) : ∀ (vs : List Value) (i : Nat) (cur : Array Value) (w : World), w.heap[g]? = some (.cells cur t fz) → (fz = (0, 0) ∨ cur.size ≤ fz.1) → o + i + vs.length ≤ cur.size → (∀ v ∈ vs, v.oneCell' = true) →
    ∃ cur', (storeCells ⟨g, o, none⟩ vs i).run P w = .ok () (w.setRow g cur') ∧ cur'.size = cur.size ∧ cur'.toList.take (o + i + vs.length) = cur.toList.take (o + i) ++ vs
  | [], i, cur, w, hg, _, _, _ => ⟨cur, by simp only [storeCells]; rw [setRow_self w g cur t fz hg]; rfl, rfl, by simp⟩
  | v :: rest, i, cur, w, hg, hf, hl, h1 => by
    rw [List.length_cons] at hl
    have hlt : o + i < cur.size := by omega
    have ha : (⟨g, o, none⟩ : Addr).add i = ⟨g, o + i, none⟩ := by unfold Addr.add; split <;> simp_all
    have hc : w.cell? ⟨g, o + i, none⟩ = some cur[o + i] := by rw [cell_of_row w g (o + i) cur t fz hg, Array.getElem?_eq_getElem hlt]
    have hz : w.frozen? ⟨g, o + i, none⟩ = false := by
      unfold World.frozen?
      simp only [hg]
      rcases hf with rfl | hf
      · simp
      · simp; intro h; omega
    have hs : (store ((⟨g, o, none⟩ : Addr).add i) v).run P w = .ok () (w.setRow g (cur.setIfInBounds (o + i) v)) := by
      rw [ha, run_store P w _ v _ (h1 v (by simp)), hc]
      simp [hz, setCell_eq_setRow w g (o + i) cur t fz v hg]
    obtain ⟨cur', h2, h3, h4⟩ := store_run (P := P) g o t fz rest (i + 1) (cur.setIfInBounds (o + i) v) (w.setRow g (cur.setIfInBounds (o + i) v)) (setRow_heap w g cur _ t _ hg) (by simpa using hf) (by simp; omega) (fun x hx => h1 x (by simp [hx]))
    refine ⟨cur', ?_, by simpa using h3, ?_⟩
    · simp only [storeCells, Sem.run_bind, hs, Result.andThen_ok, h2, setRow_setRow]
    · rw [List.length_cons, show o + i + (rest.length + 1) = o + (i + 1) + rest.length by omega, h4, Array.toList_setIfInBounds, show o + (i + 1) = o + i + 1 by omega, List.take_add_one]
      rw [List.take_set_of_le (Nat.le_refl _), List.getElem?_set_self (by simpa using hlt)]
      simp
/-- v is a slice of the call's own that holds the bytes of s. -/
def OwnB (w : World) (base : Nat) (v : Value) (s : ByteArray) : Prop :=
  ∃ g cap cur fz, v = .slice (some ⟨g, 0, none⟩) s.size cap ∧ base ≤ g ∧ w.heap[g]? = some (.cells cur 5 fz) ∧ (fz = (0, 0) ∨ cur.size ≤ fz.1) ∧ s.size ≤ cap ∧ cap ≤ maxLen ∧ cur.size = cap ∧ cur.toList.take s.size = strCells s
theorem OwnB.to {w w' : World} {base : Nat} {v : Value} {s : ByteArray} (h : OwnB w base v s) (hb : Below w.heap.size w w') : OwnB w' base v s := by
  obtain ⟨g, cap, cur, fz, hv, hg, hh, r⟩ := h
  exact ⟨g, cap, cur, fz, hv, hg, by rw [hb.block g (lt_of_block hh)]; exact hh, r⟩
theorem OwnB.new (w : World) (base : Nat) (s : ByteArray) (hb : base ≤ w.heap.size) (hs : s.size ≤ maxLen) : OwnB (Lib.bytesWorld w 5 s) base (.slice (some ⟨w.heap.size, 0, none⟩) s.size (grownCap w s.size 0 5)) s := by
  have hge := grownCap_ge w s.size 0 5
  refine ⟨w.heap.size, _, _, _, rfl, hb, Lib.bytesWorld_at_new w 5 s, .inr (Nat.le_refl _), hge, grownCap_le_maxLen w s.size 0 5 hs, ?_, ?_⟩
  · unfold Lib.bytesCells
    simp
    have : s.data.size = s.size := rfl
    have h2 := hge
    unfold grownCap at h2 ⊢
    omega
  · unfold Lib.bytesCells strCells
    have : s.size = (s.data.map fun b => Value.int .u8 b.toNat).toList.length := by simp
    rw [Array.toList_append, this, List.take_left]
    simp
theorem strCells_app (a b : ByteArray) : strCells (a ++ b) = strCells a ++ strCells b := by simp [strCells, ByteArray.data_append]
theorem infoByte : (Tryd.prog.info? 5).map (fun i => (i.zero, i.size, i.bytes)) = some (some (.int .u8 0), 1, 1) := by kernel_rfl
theorem append_str (w : World) (base : Nat) (v : Value) (S s : ByteArray) (ty : TypeId) (h : OwnB w base v S) (hs : S.size + s.size ≤ 100000000) (hbase : base ≤ w.heap.size) :
    ∃ v' w', (Builtin.append_ #[71, 9] ty #[v, .string s]).run Tryd.prog w = .ok v' w' ∧ OwnB w' base v' (S ++ s) ∧ (∀ B a, Below B a w → B ≤ base → Below B a w') := by
  obtain ⟨i, hi, hz0, hz1, hz2⟩ := info_parts infoByte
  obtain ⟨g, cap, cur, fz, rfl, hg, hh, hf, hc1, hc2, hc3, htk⟩ := h
  have hm : S.size + s.size ≤ maxLen := by unfold maxLen; omega
  by_cases hroom : S.size + s.size ≤ cap
  · obtain ⟨cur', h1, h2, h3⟩ := store_run (P := Tryd.prog) g S.size 5 fz (strCells s) 0 cur w hh hf (by rw [strCells_length]; omega) (strCells_oneCell s)
    have hfc := Lib.run_firstCells_string (P := Tryd.prog) w 1 s
    refine ⟨.slice (some ⟨g, 0, none⟩) (S ++ s).size cap, w.setRow g cur', ?_, ⟨g, cap, cur', fz, rfl, hg, setRow_heap w g cur _ _ _ hh, by rw [h2]; exact hf, by rw [ByteArray.size_append]; exact hroom, hc2, by rw [h2]; exact hc3, ?_⟩, fun B a hb hB => below_row hb (Nat.le_trans hB hg) cur'⟩
    · rw [ByteArray.size_append]
      simp [Builtin.append_, run_underlying Tryd.underlying71, run_underlying Tryd.underlying9, sizeOf, typeInfo, hi, hz1, Builtin.lenOf, hroom, hfc, Addr.add_lit, h1]
    · rw [Nat.add_zero, strCells_length, htk] at h3
      rw [ByteArray.size_append, h3, strCells_app]
  · have holds : ∀ j u, (strCells S)[j]? = some u → w.cell? ((⟨g, 0, none⟩ : Addr).add j) = some u := by
      intro j u hu
      rw [show (⟨g, 0, none⟩ : Addr).add j = ⟨g, j, none⟩ by unfold Addr.add; split <;> simp_all, cell_of_row w g j cur _ fz hh]
      rw [← htk, List.getElem?_take] at hu
      split at hu
      · simpa using hu
      · cases hu
    have hr := Lib.run_append_grow_string (P := Tryd.prog) w 71 9 ty 5 i (.int .u8 0) Tryd.underlying71 Tryd.underlying9 hi hz0 ⟨g, 0, none⟩ S.size cap (strCells S) (by rw [hz1, strCells_length, Nat.mul_one]) holds s (by omega) (by omega) (by rw [hz2]; exact growslice_fits (by omega) (by omega))
    have hge := grownCap_ge w (S.size + s.size) cap 5
    refine ⟨_, _, hr, ⟨w.heap.size, _, _, (0, 0), by rw [ByteArray.size_append], hbase, heap_alloc_new w.drew _, .inl rfl, by rw [ByteArray.size_append]; exact hge, grownCap_le_maxLen w _ cap _ hm, ?_, ?_⟩, fun B a hb hB => hb.drew.alloc (Nat.le_trans hB hbase) _⟩
    · have hz1 : (Value.int IntKind.u8 0).cells.size = 1 := rfl
      simp only [Array.size_append, List.size_toArray, size_zeroCells, hz1, strCells_length]
      omega
    · rw [ByteArray.size_append, strCells_app]
      simp only [Array.toList_append]
      have : S.size + s.size = (strCells S ++ strCells s).length := by rw [List.length_append, strCells_length, strCells_length]
      rw [this]
      exact List.take_left
theorem wpList_append_str (w : World) {ops : Array Oper} {rest : List Oper} {o : Oper} {a : Act} {Q : Exit → Act → World → Prop}
    (hgd : o.guard = none) (x y : Operand) (hop : o.op = Op.call { callee := Callee.builtin Builtin.append, args := #[x, y], argTypes := #[71, 9] })
    (base : Nat) (v : Value) (S s : ByteArray) (hx : a.eval x = v) (hy : a.eval y = .string s) (h : OwnB w base v S) (hs : S.size + s.size ≤ 100000000) (hbase : base ≤ w.heap.size)
    (hK : ∀ v' w', OwnB w' base v' (S ++ s) → (∀ B a, Below B a w → B ≤ base → Below B a w') → wpList Tryd.prog ops Q rest (a.put o.dst v') w') :
    wpList Tryd.prog ops Q (o :: rest) a w := by
  refine wpList_plain hgd fun K hK' => ?_
  obtain ⟨v', w', hrun, h1, h2⟩ := append_str w base v S s o.type h hs hbase
  unfold Oper.wp
  simp [execOp, hop, resolve, invoke, builtin, hx, hy, hrun, Result.andThen]
  exact hK' _ _ (hK v' w' h1 h2)
theorem OwnB.bs {w : World} {base : Nat} {v : Value} {s : ByteArray} (h : OwnB w base v s) : BsAt w v (nums s) := by
  obtain ⟨g, cap, cur, fz, rfl, hg, hh, _, _, _, _, htk⟩ := h
  refine ⟨_, cap, by rw [nums_length], .inr ⟨g, 0, rfl, lt_of_block hh, fun k hk => ?_⟩⟩
  rw [nums_length] at hk
  rw [Nat.zero_add, cell_of_row w g k cur _ fz hh]
  have e : (cur.toList.take s.size)[k]? = (strCells s)[k]? := by rw [htk]
  rw [List.getElem?_take, if_pos hk] at e
  rw [← Array.getElem?_toList, e]
  have hk2 : k < s.data.size := hk
  simp only [strCells, nums, List.getElem?_map, Array.getElem?_toList, Array.getElem?_eq_getElem hk2, Option.map_some, List.getElem_map, Array.getElem_toList]
end Go.Proofs.YtokmllopbfmadaaDoor.Pk
