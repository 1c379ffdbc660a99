import Derived.Test.YtokmllopbfmadaaDoorGNCount
import Derived.Test.YtokmllopbfmadaaDoorGMem
import Derived.Test.YtokmllopbfmadaaDoorGPlanRun
namespace Go.Proofs.YtokmllopbfmadaaDoor.Plans
open Go.RowKit Mem

theorem blk_setCells {b : Nat} {t : TypeId} (vs : List Value) : ∀ (o : Nat) (us : List Value) (w : World), Blk w b t us → ∃ us', Blk (w.setCells b o vs) b t us' ∧ us'.length = us.length ∧ us'.take o = us.take o := by
  induction vs with
  | nil => intro o us w h; exact ⟨us, h, rfl, rfl⟩
  | cons v r ih =>
    intro o us w h
    obtain ⟨us', h1, h2, h3⟩ := ih (o + 1) _ _ (h.set o v)
    refine ⟨us', h1, by rw [h2]; simp, ?_⟩
    have := congrArg (List.take o) h3
    rw [List.take_take, List.take_take, Nat.min_eq_left (by omega)] at this
    rw [this, List.take_set_of_le (Nat.le_refl _)]
theorem but_setCells {b : Nat} (vs : List Value) : ∀ (o : Nat) (w0 w : World), But b w0 w → But b w0 (w.setCells b o vs) := by
  induction vs with
  | nil => intro o w0 w h; exact h
  | cons v r ih => intro o w0 w h; exact ih _ _ _ (h.setCell o v)
theorem rest2_inP (a b : Nat) (l : List Nat) : rest2 a b l = l.filter fun x => !inP a b x := rfl
theorem rest2_none {a b : Nat} {l : List Nat} (h : ∀ x, x ∈ l → inP a b x = false) : rest2 a b l = l := by
  rw [rest2_inP]; exact List.filter_eq_self.2 fun x hx => by rw [h x hx]; rfl
theorem take_next {l : List Nat} {k : Nat} (hk : k < l.length) : l.take (k + 1) = l.take k ++ [l[k]] := by rw [List.take_add_one, List.getElem?_eq_getElem hk]; rfl
theorem rest2_next_no {a b : Nat} {l : List Nat} {k : Nat} (hk : k < l.length) (h : inP a b l[k] = true) : rest2 a b (l.take (k + 1)) = rest2 a b (l.take k) := by
  rw [take_next hk, rest2_inP, rest2_inP, List.filter_append]; simp [h]
theorem rest2_next_yes {a b : Nat} {l : List Nat} {k : Nat} (hk : k < l.length) (h : inP a b l[k] = false) : rest2 a b (l.take (k + 1)) = rest2 a b (l.take k) ++ [l[k]] := by
  rw [take_next hk, rest2_inP, rest2_inP, List.filter_append]; simp [h]
/-- The row while it is gone through: the first places hold what stays, those from j on what was there. -/
structure DelSt (w : World) (g : Nat) (us : List Value) (l : List Nat) (a b j : Nat) (us' : List Value) : Prop where
  blk : Blk w g 3 us'
  len : us'.length = us.length
  low : ∀ q, (h : q < (rest2 a b (l.take j)).length) → us'[q]? = some (.int .i64 ((rest2 a b (l.take j))[q] : Nat))
  high : ∀ q, j ≤ q → (h : q < l.length) → us'[q]? = some (.int .i64 (l[q] : Nat))
theorem DelSt.skip {w : World} {g : Nat} {us us' : List Value} {l : List Nat} {a b j : Nat} (h : DelSt w g us l a b j us') (hj : j < l.length) (hp : inP a b l[j] = true) : DelSt w g us l a b (j + 1) us' := by
  refine ⟨h.blk, h.len, ?_, fun q h1 h2 => h.high q (by omega) h2⟩
  have e := rest2_next_no hj hp
  intro q hq
  have := h.low q (by rw [← e]; exact hq)
  rw [this]; congr 3; simp only [e]
theorem DelSt.keep {w : World} {g : Nat} {us us' : List Value} {l : List Nat} {a b j : Nat} (h : DelSt w g us l a b j us') (hj : j < l.length) (hp : inP a b l[j] = false) (hlt : (rest2 a b (l.take j)).length < us'.length) (hle : (rest2 a b (l.take j)).length ≤ j) :
    DelSt (w.setCell ⟨g, (rest2 a b (l.take j)).length, none⟩ (.int .i64 (l[j] : Nat))) g us l a b (j + 1) (us'.set (rest2 a b (l.take j)).length (.int .i64 (l[j] : Nat))) := by
  have e := rest2_next_yes hj hp
  refine ⟨h.blk.set _ _, by rw [List.length_set]; exact h.len, fun q hq => ?_, fun q h1 h2 => ?_⟩
  · have key : ∀ (t : List Nat), t = rest2 a b (l.take j) ++ [l[j]] → ∀ (hq : q < t.length), (us'.set (rest2 a b (l.take j)).length (.int .i64 (l[j] : Nat)))[q]? = some (.int .i64 (t[q] : Nat)) := by
      rintro t rfl hq
      by_cases e2 : q = (rest2 a b (l.take j)).length
      · subst e2; rw [List.getElem?_set_self hlt]; simp
      · have hq2 : q < (rest2 a b (l.take j)).length := by simp at hq; omega
        rw [List.getElem?_set_ne (by omega), h.low q hq2, List.getElem_append_left hq2]
    exact key _ e hq
  · rw [List.getElem?_set_ne (by omega)]
    exact h.high q (by omega) h2
theorem rest2_le (a b : Nat) (l : List Nat) : (rest2 a b l).length ≤ l.length := List.length_filter_le ..
theorem rest2_lt {a b : Nat} {l : List Nat} {k j : Nat} (hk : k < l.length) (hp : inP a b l[k] = true) (hkj : k < j) (hj : j ≤ l.length) : (rest2 a b (l.take j)).length < j := by
  have hm : l[k] ∈ l.take j := by
    have : (l.take j)[k]'(by simp; omega) = l[k] := by simp
    rw [← this]; exact List.getElem_mem _
  have h1 : (rest2 a b (l.take j)).length < (l.take j).length := by
    rw [rest2_inP]
    refine Nat.lt_of_le_of_ne (List.length_filter_le ..) fun e => ?_
    have := (List.length_filter_eq_length_iff.1 e) l[k] hm
    rw [hp] at this; cases this
  simp at h1; omega

set_option maxRecDepth 100000 in
set_option maxHeartbeats 2000000 in
theorem deleteFunc_any (l : List Nat) (a b pb g cap : Nat) (us : List Value) (w : World) (hg : Blk w g 3 us) (hus : ∀ k, (h : k < l.length) → us[k]? = some (.int .i64 (l[k] : Nat))) (hlen : us.length = cap) (hcap : l.length ≤ cap) (hp : Blk w pb 159 [.int .i64 a, .int .i64 b]) (hl : l.length ≤ 1000000) (hin : a ∈ l) :
    Calls Tryd.prog 140 #[.slice (some ⟨g, 0, none⟩) l.length cap, .func (.func 141) #[] #[.pointer (some ⟨pb, 0, none⟩)]] w fun e w' =>
      e = .returned (.slice (some ⟨g, 0, none⟩) (rest2 a b l).length cap) ∧ (∃ us', Blk w' g 3 us' ∧ us'.length = cap ∧ us'.take (rest2 a b l).length = intsV (rest2 a b l)) ∧ But g w w' := by
  have hgp : pb ≠ g := hp.type_ne hg (by decide)
  have HI : Hid (IntsAt w (.slice (some ⟨g, 0, none⟩) l.length cap) l) := ⟨_, _, rfl, hcap, .inr ⟨g, us, rfl, hg, hus⟩⟩
  have HG : Hid (Blk w g 3 us) := hg
  have HUS : Hid (∀ k, (h : k < l.length) → us[k]? = some (.int .i64 (l[k] : Nat))) := hus
  have HP : Hid (Blk w pb 159 [.int .i64 a, .int .i64 b]) := hp
  have HIN : Hid (a ∈ l) := hin
  clear hg hus hp hin
  go_enter Tryd.func140, Tryd.ntmps140
  go_wp2_with fail
  refine (indexFunc_any l a b pb _ _ HI.out HP.out hl).mono ?_
  rintro e w' ⟨hres, hw⟩
  obtain rfl : w = w' := hw.symm
  rcases hres with ⟨k0, rfl, ⟨hk0, hp0⟩, hpre⟩ | ⟨_, hno⟩
  · have hd0 : DelSt w g us l a b (k0 + 1) us := by
      have e0 : rest2 a b (l.take (k0 + 1)) = l.take k0 := by rw [rest2_next_no hk0 hp0, rest2_none hpre]
      refine ⟨HG.out, rfl, ?_, fun q _ h2 => HUS.out q h2⟩
      have key : ∀ t : List Nat, t = l.take k0 → ∀ q, (h : q < t.length) → us[q]? = some (.int .i64 (t[q] : Nat)) := by
        rintro t rfl q h
        have hq : q < l.length := by simp at h; omega
        rw [HUS.out q hq]; simp [List.getElem_take]
      exact key _ e0
    have e00 : (rest2 a b (l.take (k0 + 1))).length = k0 := by rw [rest2_next_no hk0 hp0, rest2_none hpre]; simp; omega
    have HD0 : Hid (DelSt w g us l a b (k0 + 1) us) := hd0
    have HE0 : Hid ((rest2 a b (l.take (k0 + 1))).length = k0) := e00
    have HLT : Hid (∀ j, k0 < j → j ≤ l.length → (rest2 a b (l.take j)).length < j) := fun j h1 h2 => rest2_lt hk0 hp0 h1 h2
    have hne : ((k0 : Int) == -1) = false := by simp
    clear hd0 e00 hp0 hpre
    go_wp2
    go_loopw [5, 6] (fun iv jv wr => ∃ (i j : Nat) (us' : List Value), k0 < j ∧ j ≤ l.length ∧ iv = .int .i64 i ∧ jv = .int .i64 j ∧ i = (rest2 a b (l.take j)).length ∧ DelSt wr g us l a b j us' ∧ But g w wr) (fun _ jv _ => l.length - (intOf jv).toNat)
    case atStart => exact ⟨k0, k0 + 1, us, by omega, by omega, rfl, by go_num, HE0.out.symm, HD0.out, But.refl _ _⟩
    case round =>
      clear HD0 HE0
      obtain ⟨i, j, us', hkj, hj, rfl, rfl, hi, hd, hbut⟩ := hrel
      have hij : i < j := by rw [hi]; exact HLT.out j hkj hj
      have HD : Hid (DelSt wr g us l a b j us') := hd
      have HIE : Hid (i = (rest2 a b (l.take j)).length) := hi
      have hle : us'.length = cap := hd.len.trans hlen
      by_cases hlt : j < l.length
      · have cj := hd.blk.cell_some (hd.high j (Nat.le_refl _) hlt)
        have ci := hd.blk.cell_some (k := i) (v := us'[i]'(by omega)) (List.getElem?_eq_getElem (by omega))
        have fi := hd.blk.free i
        have HCL : Hid (∀ x : Nat, Calls Tryd.prog 141 #[.int .i64 x, .pointer (some ⟨pb, 0, none⟩)] wr fun e w' => e = .returned (.bool (inP a b x)) ∧ w' = wr) := fun x => closure_any a b x pb wr (hbut.blk HP.out hgp)
        have hcl := HCL.out l[j]
        have HSK : Hid (inP a b l[j] = true → DelSt wr g us l a b (j + 1) us' ∧ i = (rest2 a b (l.take (j + 1))).length) := fun h => ⟨HD.out.skip hlt h, by rw [rest2_next_no hlt h]; exact HIE.out⟩
        have HKE : Hid (inP a b l[j] = false → DelSt (wr.setCell ⟨g, i, none⟩ (.int .i64 (l[j] : Nat))) g us l a b (j + 1) (us'.set i (.int .i64 (l[j] : Nat))) ∧ i + 1 = (rest2 a b (l.take (j + 1))).length) := fun h => by
          have e := HIE.out
          refine ⟨?_, by rw [rest2_next_yes hlt h, List.length_append, ← e]; rfl⟩
          have := HD.out.keep hlt h (by omega) (by omega)
          rw [← e] at this
          exact this
        generalize l[j] = x at cj hcl HSK HKE
        generalize inP a b x = r at hcl HSK HKE
        generalize us'[i]'(by omega) = old at ci
        have HBUT : Hid (But g w wr) := hbut
        clear hd hi hbut HCL hw
        cases r
        · have HK2 : Hid (DelSt (wr.setCell ⟨g, i, none⟩ (.int .i64 (x : Nat))) g us l a b (j + 1) (us'.set i (.int .i64 (x : Nat))) ∧ i + 1 = (rest2 a b (l.take (j + 1))).length) := HKE.out rfl
          clear HSK HKE
          go_wp2_with (go_at_call 141; refine hcl.mono ?_; rintro e w' ⟨rfl, hw⟩; obtain rfl : wr = w' := hw.symm)
          go_roundw
          case rel => exact ⟨i + 1, j + 1, _, by omega, by omega, by go_num, by go_num, HK2.out.2, HK2.out.1, HBUT.out.setCell _ _⟩
          case measure => simp [intOf]; omega
        · have HK2 : Hid (DelSt wr g us l a b (j + 1) us' ∧ i = (rest2 a b (l.take (j + 1))).length) := HSK.out rfl
          clear HSK HKE
          go_wp2_with (go_at_call 141; refine hcl.mono ?_; rintro e w' ⟨rfl, hw⟩; obtain rfl : wr = w' := hw.symm)
          go_roundw
          case rel => exact ⟨i, j + 1, us', by omega, by omega, rfl, by go_num, HK2.out.2, HK2.out.1, HBUT.out⟩
          case measure => simp [intOf]; omega
      · obtain rfl : j = l.length := by omega
        have hcl : ∀ ty, (Builtin.clear_ #[45] ty #[.slice (some ⟨g, i, none⟩) (l.length - i) (cap - i)]).run Tryd.prog wr = .ok (.tuple #[]) (wr.setCells g i (List.replicate (l.length - i) (.int .i64 0))) :=
          fun ty => Lib.run_clear_slice wr 45 3 ty _ Tryd.underlying45 zeroI rfl rfl g i _ _ (by omega) (fun t ht => by rw [hd.blk.cell]; simp; omega) (fun t ht => hd.blk.free _)
        obtain ⟨us2, h21, h22, h23⟩ := blk_setCells (List.replicate (l.length - i) (.int .i64 0)) i us' wr hd.blk
        have HF : Hid (Blk (wr.setCells g i (List.replicate (l.length - i) (.int .i64 0))) g 3 us2 ∧ us2.length = cap ∧ us2.take (rest2 a b l).length = intsV (rest2 a b l)) := by
          refine ⟨h21, by omega, ?_⟩
          have e := HIE.out
          rw [List.take_length] at e
          have hlow := hd.low
          rw [List.take_length] at hlow
          rw [← e, h23]
          apply List.ext_getElem?
          intro q
          by_cases hq : q < i
          · rw [List.getElem?_take_of_lt hq, hlow q (by omega)]
            simp [intsV, show q < (rest2 a b l).length by omega]
          · rw [List.getElem?_eq_none (by simp; omega), List.getElem?_eq_none (by simp [intsV]; omega)]
        have HB2 : Hid (But g w (wr.setCells g i (List.replicate (l.length - i) (.int .i64 0)))) := but_setCells _ _ _ _ hbut
        have HE2 : Hid (i = (rest2 a b l).length) := by have e := HIE.out; rw [List.take_length] at e; exact e
        have q1 : (i : Int) ≤ (l.length : Int) := by omega
        have q2 : ¬ cap = i := by omega
        have q3 : (i : Int) ≤ (cap : Int) := by omega
        clear hd h21 h22 h23 hbut hi hw
        go_wp2
        go_ret
        exact ⟨by rw [← HE2.out]; rfl, ⟨us2, HF.out⟩, HB2.out⟩
  · have := hno a HIN.out
    simp [inP] at this
end Go.Proofs.YtokmllopbfmadaaDoor.Plans

/- More on blocks of memory. -/
namespace Go.Proofs.YtokmllopbfmadaaDoor.Mem
open Go.RowKit
theorem Laid.again {w W W' : World} {B i : Nat} {u v : Value} {t : TypeId} {us : List Value} (h : Laid w W B i u) (hb : Below w.heap.size W W') (hB : Blk w B t us) : Laid w (W'.setCell ⟨B, i, none⟩ v) B i v := by
  have hlt := hB.lt
  refine ⟨by have := hb.size; have := h.size; simp [World.setCell]; omega, fun b h1 h2 => ?_, ?_⟩
  · rw [Below.heap_setCell _ _ _ _ h1, hb.block b h2]; exact h.rest b h1 h2
  · have e : W'.heap[B]? = some (.cells ((us.set i u)).toArray t (0, 0)) := by
      rw [hb.block B hlt, h.row]; exact hB.set i u
    have e1 : Blk (W'.setCell ⟨B, i, none⟩ v) B t ((us.set i u).set i v) := Blk.set (w := W') e i v
    have e2 : Blk (w.setCell ⟨B, i, none⟩ v) B t (us.set i v) := hB.set i v
    rw [List.set_set] at e1
    exact e1.trans e2.symm
/-- The same as one step of a region that draws its order. -/
theorem step_append_one {P : Program} {w : World} {ops : Array Oper} {o : Oper} {a : Act} {K : Act → World → Prop} {Q : Exit → Act → World → Prop} {E : Prop}
    (hgd : o.guard = none) (s x : Operand) (t : TypeId) (hop : o.op = Op.call { callee := Callee.builtin Builtin.append, args := #[s, x], argTypes := #[t, t] })
    (base : Nat) (e : TypeId) (z : Value) (bytes : Nat) (ht : P.underlying t = some (.slice e)) (hinfo : (P.info? e).map (fun i => (i.zero, i.size, i.bytes)) = some (some z, 1, bytes)) (hz : z.cells.size = 1) (hby : bytes ≤ 1000)
    (v : Value) (n : Nat) (xs : List Value) (hs : a.eval s = v) (hown : w.ownsRow base e 1 v n xs) (ad : Addr) (c : Nat) (u : Value) (hx : a.eval x = .slice (some ad) 1 c) (hu : w.cell? ad = some u) (h1 : u.oneCell' = true) (hn : n ≤ 100000) (hbase : base ≤ w.heap.size)
    (hK : ∀ v' w', w'.ownsRow base e 1 v' (n + 1) (xs ++ [u]) → (∀ B a, Below B a w → B ≤ base → Below B a w') → K (a.put o.dst v') w') :
    if Region.wanted o (yielded ops a.tmps) = true then Oper.wp P o a w K Q else E := by
  have hw : Region.wanted o (yielded ops a.tmps) = true := by simp [Region.wanted, hgd]
  rw [if_pos hw]
  obtain ⟨i0, hi, hz0, hz1, hz2⟩ := info_parts hinfo
  obtain ⟨v', w', hrun, ho, hg, _⟩ := run_append_own (P := P) w base t o.type e i0 z 1 bytes ht hi hz0 hz1 hz2 hz (by decide) v n xs hown ad 1 c [u] rfl (fun j y hy => by
    match j, hy with
    | 0, hy => simp at hy; subst hy; rw [Addr.add_zero']; exact hu
    | j + 1, hy => simp at hy) (fun y hy => by simp at hy; subst hy; exact h1) (by unfold maxLen; omega) (by
    have : (n + 1) * bytes ≤ 100001 * 1000 := Nat.mul_le_mul (by omega) hby
    omega) hbase
  unfold Oper.wp
  simp [execOp, hop, resolve, invoke, builtin, hs, hx, hrun, Result.andThen]
  exact hK v' w' ho (fun B b hb hB => below_grown hb hown hg (Nat.le_trans hB hbase) hB)
theorem ownsRow_laid {w W : World} {B i : Nat} {u : Value} {us : List Value} {tB : TypeId} {base : Nat} {e : TypeId} {v : Value} {n : Nat} {xs : List Value} (h : w.ownsRow base e 1 v n xs) (hl : Laid w W B i u) (hB : Blk w B tB us) (ht : e ≠ tB) : W.ownsRow base e 1 v n xs := by
  obtain ⟨h1, h2⟩ := h
  refine ⟨h1, ?_⟩
  rcases h2 with h2 | ⟨g, cap, cur, hv, hg, hh, r⟩
  · exact Or.inl h2
  · have hne : g ≠ B := Blk.type_ne (w := w) (vs := cur.toList) (by unfold Blk; rw [hh]) hB ht
    exact Or.inr ⟨g, cap, cur, hv, hg, by rw [hl.rest g hne (lt_of_block hh)]; exact hh, r⟩
theorem BsAt.of_owns {w : World} {base : Nat} {t : TypeId} {v : Value} {l : List Nat} (h : w.ownsRow base t 1 v l.length (bytesV l)) : BsAt w v l := by
  obtain ⟨hl, h2⟩ := h
  rcases h2 with ⟨rfl, h0⟩ | ⟨g, cap, cur, rfl, hg, hh, _, _, _, ht⟩
  · exact ⟨none, 0, by rw [h0], .inl (List.eq_nil_of_length_eq_zero h0)⟩
  · refine ⟨_, cap, rfl, .inr ⟨g, 0, rfl, lt_of_block hh, fun k hk => ?_⟩⟩
    rw [Nat.zero_add, cell_of_row w g k cur t (0, 0) hh]
    rw [Nat.mul_one] at ht
    have : (cur.toList.take l.length)[k]? = some (.int .u8 (l[k] : Nat)) := by rw [ht]; exact bytesV_at hk
    rw [List.getElem?_take_of_lt hk] at this
    simpa using this
end Go.Proofs.YtokmllopbfmadaaDoor.Mem

namespace Go.Proofs.YtokmllopbfmadaaDoor.Plans
open Go.RowKit Mem

set_option maxRecDepth 100000 in
theorem isNaN_any (x : Int) (w : World) : Calls Tryd.prog 162 #[.int .i64 x] w fun e w' => e = .returned (.bool false) ∧ w' = w := by
  go_enter Tryd.func162, Tryd.ntmps162
  go_wp2
  go_ret
  exact ⟨rfl, rfl⟩
def cmpI (x y : Nat) : Int := if x < y then -1 else if y < x then 1 else 0
set_option maxRecDepth 100000 in
theorem cmp_any (x y : Nat) (w : World) : Calls Tryd.prog 156 #[.int .i64 x, .int .i64 y] w fun e w' => e = .returned (.int .i64 (cmpI x y)) ∧ w' = w := by
  go_enter Tryd.func156, Tryd.ntmps156
  go_wp2_with fail
  refine (isNaN_any _ _).mono ?_
  rintro e w1 ⟨rfl, hw1⟩
  obtain rfl : w = w1 := hw1.symm
  go_wp2_with fail
  refine (isNaN_any _ _).mono ?_
  rintro e w1 ⟨rfl, hw1⟩
  obtain rfl : w = w1 := hw1.symm
  by_cases h1 : x < y
  · go_wp2
    go_ret
    exact ⟨by simp [cmpI, h1], rfl⟩
  · by_cases h2 : y < x
    · go_wp2
      go_ret
      exact ⟨by simp [cmpI, h1, h2], rfl⟩
    · go_wp2
      go_ret
      exact ⟨by simp [cmpI, h1, h2], rfl⟩
/-- Two pairs compared. -/
def cmp2 (x y a b : Nat) : Int := if cmpI x a = 0 then cmpI y b else cmpI x a
theorem cmpI_zero {x y : Nat} : cmpI x y = 0 ↔ x = y := by
  unfold cmpI; split
  · omega
  · split <;> omega
theorem cmp2_neg (x y a b : Nat) : cmp2 x y a b < 0 ↔ (x < a ∨ (x = a ∧ y < b)) := by
  unfold cmp2 cmpI
  by_cases h1 : x < a
  · simp [h1]
  · by_cases h2 : a < x
    · simp [h1, h2]; omega
    · by_cases h3 : y < b
      · simp [h1, h2, h3]; omega
      · by_cases h4 : b < y
        · simp [h1, h2, h3, h4]
        · simp [h1, h2, h3, h4]
set_option maxRecDepth 100000 in
set_option maxHeartbeats 1000000 in
theorem compare_any (x y a b g1 g2 : Nat) (w : World) (h1 : Blk w g1 159 [.int .i64 x, .int .i64 y]) (h2 : Blk w g2 159 [.int .i64 a, .int .i64 b]) :
    Calls Tryd.prog 139 #[.slice (some ⟨g1, 0, none⟩) 2 2, .slice (some ⟨g2, 0, none⟩) 2 2] w fun e w' => e = .returned (.int .i64 (cmp2 x y a b)) ∧ w' = w := by
  have x0 := h1.cell_some (k := 0) (v := .int .i64 x) rfl
  have x1 := h1.cell_some (k := 1) (v := .int .i64 y) rfl
  have a0 := h2.cell_some (k := 0) (v := .int .i64 a) rfl
  have a1 := h2.cell_some (k := 1) (v := .int .i64 b) rfl
  clear h1 h2
  go_enter Tryd.func139, Tryd.ntmps139
  go_wp2
  go_loopw [11] (fun iv wr => ((iv = .int .i64 0) ∨ (iv = .int .i64 1 ∧ x = a) ∨ (iv = .int .i64 2 ∧ x = a ∧ y = b)) ∧ w = wr) (fun iv _ => 2 - (intOf iv).toNat)
  case atStart => exact ⟨.inl rfl, rfl⟩
  case round =>
    obtain ⟨hc, rfl⟩ := hrel
    rcases hc with rfl | ⟨rfl, hxa⟩ | ⟨rfl, hxa, hyb⟩
    · have hz : cmpI x a = 0 ↔ x = a := cmpI_zero
      have HC2 : Hid (cmp2 x y a b = if cmpI x a = 0 then cmpI y b else cmpI x a) := rfl
      go_wp2_with fail
      refine (cmp_any x a _).mono ?_
      rintro e w1 ⟨rfl, hw1⟩
      obtain rfl : w = w1 := hw1.symm
      generalize cmpI x a = c at hz HC2
      by_cases hc : c = 0
      · subst hc
        have hxa := hz.1 rfl
        clear hz HC2
        go_wp2
        go_roundw
        case rel => exact ⟨.inr (.inl ⟨rfl, hxa⟩), trivial⟩
        case measure => simp [intOf]
      · have HR : Hid (cmp2 x y a b = c) := by show _ = _; rw [HC2.out, if_neg hc]
        clear hz HC2
        go_wp2
        go_ret
        exact ⟨by rw [HR.out]; rfl, rfl⟩
    · have hz : cmpI y b = 0 ↔ y = b := cmpI_zero
      have HC2 : Hid (cmp2 x y a b = cmpI y b) := by show _ = _; unfold cmp2; rw [if_pos (cmpI_zero.2 hxa)]
      have HXA : Hid (x = a) := hxa
      clear hxa
      go_wp2_with fail
      refine (cmp_any y b _).mono ?_
      rintro e w1 ⟨rfl, hw1⟩
      obtain rfl : w = w1 := hw1.symm
      generalize cmpI y b = c at hz HC2
      by_cases hc : c = 0
      · subst hc
        have hyb := hz.1 rfl
        clear hz HC2
        go_wp2
        go_roundw
        case rel => exact ⟨.inr (.inr ⟨rfl, HXA.out, hyb⟩), trivial⟩
        case measure => simp [intOf]
      · clear hz
        go_wp2
        go_ret
        exact ⟨by rw [HC2.out]; rfl, rfl⟩
    · have HR : Hid (cmp2 x y a b = 0) := by show _ = _; unfold cmp2; rw [if_pos (cmpI_zero.2 hxa)]; exact cmpI_zero.2 hyb
      clear hxa hyb
      go_wp2
      go_ret
      exact ⟨by rw [HR.out]; rfl, rfl⟩
end Go.Proofs.YtokmllopbfmadaaDoor.Plans

/- The check of the document, in plain numbers: what any change of four bytes in a row makes of it. Nothing of the program. -/
namespace Go.Proofs.YtokmllopbfmadaaDoor.Crc
open Gf (Bytes xlc xcl xor4)

def P : Nat := 3988292384
/-- Moved down by one bit, and turned if a 1 fell out. -/
def stp (v : Nat) : Nat := if v % 2 = 1 then v / 2 ^^^ P else v / 2
def stpTo (v : Nat) : Nat → Nat
  | 0 => v
  | k + 1 => stp (stpTo v k)
/-- One byte. -/
def crcB (v b : Nat) : Nat := stpTo (v ^^^ b) 8
/-- All bytes. -/
def run (v : Nat) (l : List Nat) : Nat := l.foldl crcB v
def crc (l : List Nat) : Nat := 4294967295 - run 4294967295 l
/-- A number in four bytes. -/
def four (v : Nat) : List Nat := [v / 16777216 % 256, v / 65536 % 256, v / 256 % 256, v % 256]
/-- The check's four bytes. -/
def check (l : List Nat) : List Nat := four (crc l)

theorem div2_xor (a b : Nat) : (a ^^^ b) / 2 = a / 2 ^^^ b / 2 := by
  have := Nat.shiftRight_xor_distrib (a := a) (b := b) (i := 1)
  simpa only [Nat.shiftRight_eq_div_pow, Nat.pow_one] using this
theorem mod2_xor (a b : Nat) : (a ^^^ b) % 2 = (a % 2 + b % 2) % 2 := by
  have h : ∀ n : Nat, n % 2 = (n.testBit 0).toNat := fun n => by
    rw [Nat.testBit_zero]; rcases Nat.mod_two_eq_zero_or_one n with h | h <;> simp [h]
  rw [h, h a, h b, Nat.testBit_xor]
  cases a.testBit 0 <;> cases b.testBit 0 <;> rfl
theorem stp_xor (a b : Nat) : stp (a ^^^ b) = stp a ^^^ stp b := by
  unfold stp
  rw [mod2_xor, div2_xor]
  rcases Nat.mod_two_eq_zero_or_one a with ha | ha <;> rcases Nat.mod_two_eq_zero_or_one b with hb | hb <;> simp [ha, hb, Nat.xor_comm, xlc, xcl]
theorem stp_lt {v : Nat} (h : v < 4294967296) : stp v < 4294967296 := by
  unfold stp
  split
  · exact Nat.xor_lt_two_pow (n := 32) (by omega) (by decide)
  · omega
theorem stp_zero {a : Nat} (ha : a < 4294967296) (h : stp a = 0) : a = 0 := by
  unfold stp at h
  split at h
  · have e : (a / 2 ^^^ P).testBit 31 = true := by
      rw [Nat.testBit_xor, Nat.testBit_lt_two_pow (show a / 2 < 2 ^ 31 by omega)]; rfl
    rw [h] at e; simp at e
  · omega
theorem xor_zero {a b : Nat} (h : a ^^^ b = 0) : a = b := by
  have := congrArg (a ^^^ ·) h
  simp only [xcl, Nat.xor_zero] at this; exact this.symm
theorem xlt {a b : Nat} (ha : a < 4294967296) (hb : b < 4294967296) : a ^^^ b < 4294967296 := Nat.xor_lt_two_pow (n := 32) ha hb
theorem stp_inj {a b : Nat} (ha : a < 4294967296) (hb : b < 4294967296) (h : stp a = stp b) : a = b := by
  refine xor_zero (stp_zero (xlt ha hb) ?_)
  rw [stp_xor, h, Nat.xor_self]
theorem stpTo_lt {v : Nat} (h : v < 4294967296) : ∀ k, stpTo v k < 4294967296
  | 0 => h
  | k + 1 => stp_lt (stpTo_lt h k)
theorem stpTo_xor (a b : Nat) : ∀ k, stpTo (a ^^^ b) k = stpTo a k ^^^ stpTo b k
  | 0 => rfl
  | k + 1 => by unfold stpTo; rw [stpTo_xor a b k, stp_xor]
theorem stpTo_inj {a b : Nat} (ha : a < 4294967296) (hb : b < 4294967296) : ∀ k, stpTo a k = stpTo b k → a = b
  | 0, h => h
  | k + 1, h => stpTo_inj ha hb k (stp_inj (stpTo_lt ha k) (stpTo_lt hb k) h)
theorem stpTo_add (v j : Nat) : ∀ k, stpTo v (j + k) = stpTo (stpTo v j) k
  | 0 => rfl
  | k + 1 => by rw [← Nat.add_assoc]; unfold stpTo; rw [stpTo_add v j k]
theorem stp_even (v : Nat) : stp (2 * v) = v := by unfold stp; rw [if_neg (by omega)]; omega
theorem stpTo_shift (v : Nat) : ∀ k, stpTo (2 ^ k * v) k = v
  | 0 => by simp [stpTo]
  | k + 1 => by
    have : 2 ^ (k + 1) * v = 2 ^ k * (2 * v) := by rw [Nat.pow_succ, Nat.mul_assoc]
    rw [this]; unfold stpTo; rw [stpTo_shift (2 * v) k, stp_even]

theorem crcB_lt {v b : Nat} (h : v < 4294967296) (hb : b < 256) : crcB v b < 4294967296 := stpTo_lt (xlt h (by omega)) 8
theorem crcB_inj {u v b : Nat} (hu : u < 4294967296) (hv : v < 4294967296) (hb : b < 256) (h : crcB u b = crcB v b) : u = v := by
  have := stpTo_inj (xlt hu (show b < 4294967296 by omega)) (xlt hv (show b < 4294967296 by omega)) 8 h
  have := congrArg (b ^^^ ·) this
  simp only [Nat.xor_comm _ b, xcl] at this
  exact this
theorem run_lt {l : List Nat} (hb : Bytes l) : ∀ {v : Nat}, v < 4294967296 → run v l < 4294967296 := by
  induction l with
  | nil => intro v h; exact h
  | cons b l ih => intro v h; exact ih (fun x hx => hb x (by simp [hx])) (crcB_lt h (hb b (by simp)))
theorem run_append (v : Nat) (l m : List Nat) : run v (l ++ m) = run (run v l) m := by simp [run]
theorem run_inj {l : List Nat} (hb : Bytes l) : ∀ {u v : Nat}, u < 4294967296 → v < 4294967296 → run u l = run v l → u = v := by
  induction l with
  | nil => intro u v _ _ h; exact h
  | cons b l ih =>
    intro u v hu hv h
    have h8 : b < 256 := hb b (by simp)
    exact crcB_inj hu hv h8 (ih (fun x hx => hb x (by simp [hx])) (crcB_lt hu h8) (crcB_lt hv h8) h)
/-- Four bytes at once. -/
theorem run_four (u a b c d : Nat) : run u [a, b, c, d] = stpTo (u ^^^ (a ^^^ (256 * b ^^^ (65536 * c ^^^ 16777216 * d)))) 32 := by
  have e8 : ∀ x, stpTo (256 * x) 8 = x := fun x => stpTo_shift x 8
  have e16 : ∀ x, stpTo (65536 * x) 8 = 256 * x := fun x => by rw [show 65536 * x = 256 * (256 * x) by omega]; exact stpTo_shift (256 * x) 8
  have e24 : ∀ x, stpTo (16777216 * x) 8 = 65536 * x := fun x => by rw [show 16777216 * x = 256 * (65536 * x) by omega]; exact stpTo_shift (65536 * x) 8
  simp only [run, List.foldl_cons, List.foldl_nil, crcB]
  rw [show (32 : Nat) = 8 + (8 + (8 + 8)) from rfl, stpTo_add _ 8 (8 + (8 + 8)), stpTo_add _ 8 (8 + 8), stpTo_add _ 8 8]
  rw [← Nat.xor_assoc u a, stpTo_xor (u ^^^ a), stpTo_xor (256 * b), stpTo_xor (65536 * c), e8, e16, e24]
  rw [← Nat.xor_assoc (stpTo (u ^^^ a) 8) b, stpTo_xor (stpTo (u ^^^ a) 8 ^^^ b), stpTo_xor (256 * c), e8, e16]
  rw [← Nat.xor_assoc (stpTo (stpTo (u ^^^ a) 8 ^^^ b) 8) c, stpTo_xor (stpTo (stpTo (u ^^^ a) 8 ^^^ b) 8 ^^^ c), e8]
theorem low_xor (a x : Nat) (ha : a < 256) : a ^^^ 256 * x = a + 256 * x := by
  have := Nat.two_pow_add_eq_or_of_lt (i := 8) (b := a) ha x
  rw [Nat.add_comm] at this
  rw [show 256 * x = 2 ^ 8 * x from rfl, this]
  apply Nat.eq_of_testBit_eq
  intro i
  rw [Nat.testBit_xor, Nat.testBit_or, Nat.testBit_two_pow_mul]
  by_cases hi : 8 ≤ i
  · rw [Nat.testBit_lt_two_pow (Nat.lt_of_lt_of_le ha (show 2 ^ 8 ≤ 2 ^ i from Nat.pow_le_pow_right (by decide) hi))]; simp
  · simp [hi]
theorem mul256_xor (a b : Nat) : 256 * (a ^^^ b) = 256 * a ^^^ 256 * b := by
  have := Nat.shiftLeft_xor_distrib (a := a) (b := b) (i := 8)
  simp only [Nat.shiftLeft_eq] at this
  rw [Nat.mul_comm 256, Nat.mul_comm 256, Nat.mul_comm 256]; exact this
theorem word_four (a b c d : Nat) (ha : a < 256) (hb : b < 256) (hc : c < 256) : a ^^^ (256 * b ^^^ (65536 * c ^^^ 16777216 * d)) = a + 256 * b + 65536 * c + 16777216 * d := by
  rw [show 65536 * c = 256 * (256 * c) by omega, show 16777216 * d = 256 * (256 * (256 * d)) by omega, ← mul256_xor (256 * c), ← mul256_xor c, low_xor c d hc,
    ← mul256_xor b, low_xor b _ hb, low_xor a _ ha]
  omega
theorem four_inj {u a b c d a' b' c' d' : Nat} (hu : u < 4294967296) (ha : a < 256) (hb : b < 256) (hc : c < 256) (hd : d < 256) (ha' : a' < 256) (hb' : b' < 256) (hc' : c' < 256) (hd' : d' < 256)
    (h : run u [a, b, c, d] = run u [a', b', c', d']) : a = a' ∧ b = b' ∧ c = c' ∧ d = d' := by
  rw [run_four, run_four, word_four a b c d ha hb hc, word_four a' b' c' d' ha' hb' hc'] at h
  have := stpTo_inj (xlt hu (by omega)) (xlt hu (by omega)) 32 h
  have := congrArg (u ^^^ ·) this
  simp only [xcl] at this
  omega
theorem run_short {x y : List Nat} {u : Nat} (hu : u < 4294967296) (hx : Bytes x) (hy : Bytes y) (hl : x.length = y.length) (h4 : x.length ≤ 4) (h : run u x = run u y) : x = y := by
  have key : ∀ x' y' : List Nat, x'.length = 4 → y'.length = 4 → Bytes x' → Bytes y' → run u x' = run u y' → x' = y' := by
    intro x' y' h1 h2 b1 b2 h
    match x', y', h1, h2 with
    | [a, b, c, d], [a', b', c', d'], _, _ =>
      obtain ⟨rfl, rfl, rfl, rfl⟩ := four_inj hu (b1 a (by simp)) (b1 b (by simp)) (b1 c (by simp)) (b1 d (by simp)) (b2 a' (by simp)) (b2 b' (by simp)) (b2 c' (by simp)) (b2 d' (by simp)) h
      rfl
  have hz : Bytes (List.replicate (4 - x.length) 0) := fun z hz => by
    rw [List.mem_replicate] at hz; omega
  have hap : ∀ {l m : List Nat}, Bytes l → Bytes m → Bytes (l ++ m) := fun h1 h2 z hz => by
    rcases List.mem_append.1 hz with h | h
    · exact h1 z h
    · exact h2 z h
  have := key (x ++ List.replicate (4 - x.length) 0) (y ++ List.replicate (4 - x.length) 0) (by simp; omega) (by simp; omega) (hap hx hz) (hap hy hz) (by rw [run_append, run_append, h])
  exact List.append_cancel_right this
/-- What is changed within four bytes in a row changes the check. -/
theorem burst {p x y q : List Nat} (hp : Bytes p) (hx : Bytes x) (hy : Bytes y) (hq : Bytes q) (hl : x.length = y.length) (h4 : x.length ≤ 4) (h : crc (p ++ x ++ q) = crc (p ++ y ++ q)) : x = y := by
  have i : (4294967295 : Nat) < 4294967296 := by decide
  have hap : ∀ {l m : List Nat}, Bytes l → Bytes m → Bytes (l ++ m) := fun h1 h2 z hz => by
    rcases List.mem_append.1 hz with h | h
    · exact h1 z h
    · exact h2 z h
  have l1 := run_lt (hap (hap hp hx) hq) i
  have l2 := run_lt (hap (hap hp hy) hq) i
  have e : run 4294967295 (p ++ x ++ q) = run 4294967295 (p ++ y ++ q) := by unfold crc at h; omega
  rw [run_append, run_append, run_append, run_append] at e
  exact run_short (run_lt hp i) hx hy hl h4 (run_inj hq (run_lt hx (run_lt hp i)) (run_lt hy (run_lt hp i)) e)
theorem crc_lt {l : List Nat} : crc l < 4294967296 := by unfold crc; omega
theorem four_eq {u v : Nat} (hu : u < 4294967296) (hv : v < 4294967296) (h : four u = four v) : u = v := by
  simp only [four, List.cons.injEq, and_true] at h
  omega
theorem four_bytes (v : Nat) : Bytes (four v) := by
  intro x hx; simp only [four, List.mem_cons, List.not_mem_nil, or_false] at hx
  rcases hx with rfl | rfl | rfl | rfl <;> exact Nat.mod_lt _ (by decide)
theorem check_burst {p x y q : List Nat} (hp : Bytes p) (hx : Bytes x) (hy : Bytes y) (hq : Bytes q) (hl : x.length = y.length) (h4 : x.length ≤ 4) (h : check (p ++ x ++ q) = check (p ++ y ++ q)) : x = y :=
  burst hp hx hy hq hl h4 (four_eq crc_lt crc_lt h)
@[simp] theorem check_length (l : List Nat) : (check l).length = 4 := rfl
theorem check_bytes (l : List Nat) : Bytes (check l) := four_bytes _
end Go.Proofs.YtokmllopbfmadaaDoor.Crc
