import Derived.Lib.SliceRun
import Derived.Test.YtokmllopbfmadabDoorGPairMap
namespace Go.Proofs.YtokmllopbfmadabDoor.Plans
open Go.RowKit Mem

theorem not_take_next' {l : List Nat} {n k : Nat} (h : n ∉ l.take k) (hk : k < l.length) (hne : l[k] ≠ n) : n ∉ l.take (k + 1) := by
  rw [List.take_add_one, List.getElem?_eq_getElem hk]
  simp only [Option.toList_some, List.mem_append, List.mem_singleton]
  rintro (h1 | h1)
  · exact h h1
  · exact hne h1.symm
set_option maxRecDepth 100000 in
theorem index_nat (l : List Nat) (n : Nat) (v : Value) (w : World) (h : IntsAt w v l) (hl : l.length ≤ 1000000) :
    Calls Tryd.prog 65 #[v, .int .i64 n] w fun e w' => ((∃ k : Nat, e = .returned (.int .i64 k) ∧ k < l.length ∧ n ∈ l) ∨ (e = .returned (.int .i64 (-1)) ∧ n ∉ l)) ∧ w' = w := by
  obtain ⟨ao, cap, rfl, _, hc⟩ := h
  have HC : Hid (l = [] ∨ ∃ g us, ao = some ⟨g, 0, none⟩ ∧ Blk w g 3 us ∧ ∀ k, (h : k < l.length) → us[k]? = some (.int .i64 (l[k] : Nat))) := hc
  clear hc
  go_enter Tryd.func65, Tryd.ntmps65
  go_wp2
  go_loop [8] (fun i => ∃ k : Nat, k ≤ l.length ∧ i = .int .i64 k ∧ n ∉ l.take k) (fun i => l.length - (intOf i).toNat)
  case atStart => exact ⟨0, Nat.zero_le _, rfl, by simp⟩
  case round =>
    obtain ⟨k, hk, rfl, hn⟩ := hrel
    by_cases hlt : k < l.length
    · obtain ⟨g, us, rfl, hg, hus⟩ : ∃ g us, ao = some ⟨g, 0, none⟩ ∧ Blk w g 3 us ∧ ∀ k, (h : k < l.length) → us[k]? = some (.int .i64 (l[k] : Nat)) := by
        rcases HC.out with h | h
        · rw [h] at hlt; simp at hlt
        · exact h
      have c1 := hg.cell_some (hus k hlt)
      have HN : Hid (n ∉ l.take k) := hn
      clear hg hus hn
      by_cases e : l[k] = n
      · have HM : Hid (n ∈ l) := e ▸ List.getElem_mem hlt
        rw [e] at c1
        clear e
        go_wp2
        go_ret
        exact ⟨.inl ⟨k, rfl, hlt, HM.out⟩, rfl⟩
      · have HX : Hid (n ∉ l.take (k + 1)) := not_take_next' HN.out hlt e
        have he : ((n : Int) == (l[k] : Nat)) = false := by simp; omega
        have he2 : ¬ n = l[k] := fun h => e h.symm
        generalize l[k] = x at c1 he he2
        clear e
        go_wp2
        go_round
        case rel => exact ⟨k + 1, by omega, by go_num, HX.out⟩
        case measure => simp [intOf]; omega
    · obtain rfl : k = l.length := by omega
      rw [List.take_length] at hn
      have HN : Hid (n ∉ l) := hn
      clear hn
      go_wp2
      go_ret
      exact ⟨.inr ⟨rfl, HN.out⟩, rfl⟩
set_option maxRecDepth 100000 in
theorem contains_nat (l : List Nat) (n : Nat) (v : Value) (w : World) (h : IntsAt w v l) (hl : l.length ≤ 1000000) :
    Calls Tryd.prog 57 #[v, .int .i64 n] w fun e w' => e = .returned (.bool (decide (n ∈ l))) ∧ w' = w := by
  go_enter Tryd.func57, Tryd.ntmps57
  go_wp2_with fail
  refine (index_nat l n v w h hl).mono ?_
  rintro e w' ⟨h1, rfl⟩
  rcases h1 with ⟨k, rfl, hk, hm⟩ | ⟨rfl, hm⟩
  · have HD : Hid (decide (n ∈ l) = true) := by show _ = _; simp [hm]
    clear hm
    go_wp2
    go_ret
    exact ⟨by rw [HD.out]; rfl, rfl⟩
  · have HD : Hid (decide (n ∈ l) = false) := by show _ = _; simp [hm]
    clear hm
    go_wp2
    go_ret
    exact ⟨by rw [HD.out]; rfl, rfl⟩
/-- Is it one of the pair? -/
def inP (a b x : Nat) : Bool := x == a || x == b
set_option maxRecDepth 100000 in
theorem closure_any (a b x pb : Nat) (w : World) (h : Blk w pb 149 [.int .i64 a, .int .i64 b]) :
    Calls Tryd.prog 94 #[.int .i64 x, .pointer (some ⟨pb, 0, none⟩)] w fun e w' => e = .returned (.bool (inP a b x)) ∧ w' = w := by
  have c0 := h.cell_some (k := 0) (v := .int .i64 a) rfl
  have c1 := h.cell_some (k := 1) (v := .int .i64 b) rfl
  clear h
  go_enter Tryd.func94, Tryd.ntmps94
  by_cases h1 : x = a
  · have e1 : ((x : Int) == (a : Int)) = true := by simp [h1]
    have HP : Hid (inP a b x = true) := by show _ = _; simp [inP, h1]
    clear h1
    go_wp2
    go_ret
    exact ⟨by rw [HP.out]; rfl, rfl⟩
  · have e1 : ((x : Int) == (a : Int)) = false := by simp; omega
    by_cases h2 : x = b
    · have e2 : ((x : Int) == (b : Int)) = true := by simp [h2]
      have HP : Hid (inP a b x = true) := by show _ = _; simp [inP, h2]
      clear h2
      go_wp2
      go_ret
      exact ⟨by rw [HP.out]; rfl, rfl⟩
    · have e2 : ((x : Int) == (b : Int)) = false := by simp; omega
      have HP : Hid (inP a b x = false) := by show _ = _; simp [inP, h1, h2]
      go_wp2
      go_ret
      exact ⟨by rw [HP.out]; rfl, rfl⟩
end Go.Proofs.YtokmllopbfmadabDoor.Plans

namespace Go.Proofs.YtokmllopbfmadabDoor.Plans
open Go.RowKit Mem

def clV (pb : Nat) : Value := .func (.func 94) #[] #[.pointer (some ⟨pb, 0, none⟩)]
set_option maxRecDepth 100000 in
set_option maxHeartbeats 1000000 in
theorem indexFunc_any (l : List Nat) (a b pb : Nat) (v : Value) (w : World) (h : IntsAt w v l) (hp : Blk w pb 149 [.int .i64 a, .int .i64 b]) (hl : l.length ≤ 1000000) :
    Calls Tryd.prog 96 #[v, .func (.func 94) #[] #[.pointer (some ⟨pb, 0, none⟩)]] w fun e w' => ((∃ k : Nat, e = .returned (.int .i64 k) ∧ (∃ h : k < l.length, inP a b l[k] = true) ∧ ∀ x, x ∈ l.take k → inP a b x = false) ∨ (e = .returned (.int .i64 (-1)) ∧ ∀ x, x ∈ l → inP a b x = false)) ∧ w' = w := by
  obtain ⟨ao, cap, rfl, _, hc⟩ := h
  have HC : Hid (l = [] ∨ ∃ g us, ao = some ⟨g, 0, none⟩ ∧ Blk w g 3 us ∧ ∀ k, (h : k < l.length) → us[k]? = some (.int .i64 (l[k] : Nat))) := hc
  have HCL : Hid (∀ x : Nat, Calls Tryd.prog 94 #[.int .i64 x, .pointer (some ⟨pb, 0, none⟩)] w fun e w' => e = .returned (.bool (inP a b x)) ∧ w' = w) := fun x => closure_any a b x pb w hp
  clear hc hp
  go_enter Tryd.func96, Tryd.ntmps96
  go_wp2
  go_loopw [8] (fun i wr => ∃ k : Nat, k ≤ l.length ∧ i = .int .i64 k ∧ (∀ x, x ∈ l.take k → inP a b x = false) ∧ w = wr) (fun i _ => l.length - (intOf i).toNat)
  case atStart => exact ⟨0, Nat.zero_le _, rfl, by simp, rfl⟩
  case round =>
    obtain ⟨k, hk, rfl, hn, rfl⟩ := hrel
    by_cases hlt : k < l.length
    · obtain ⟨g, us, rfl, hg, hus⟩ : ∃ g us, ao = some ⟨g, 0, none⟩ ∧ Blk w g 3 us ∧ ∀ k, (h : k < l.length) → us[k]? = some (.int .i64 (l[k] : Nat)) := by
        rcases HC.out with h | h
        · rw [h] at hlt; simp at hlt
        · exact h
      have c1 := hg.cell_some (hus k hlt)
      have HN : Hid (∀ x, x ∈ l.take k → inP a b x = false) := hn
      have HNX : Hid (inP a b l[k] = false → ∀ x, x ∈ l.take (k + 1) → inP a b x = false) := by
        intro h0 x hx
        rw [List.take_add_one, List.getElem?_eq_getElem hlt] at hx
        simp only [Option.toList_some, List.mem_append, List.mem_singleton] at hx
        rcases hx with hx | hx
        · exact HN.out x hx
        · rw [hx]; exact h0
      have HYS : Hid (inP a b l[k] = true → ∃ h : k < l.length, inP a b l[k] = true) := fun h => ⟨hlt, h⟩
      have hcl := HCL.out l[k]
      generalize l[k] = x at c1 hcl HNX HYS
      generalize inP a b x = r at hcl HNX HYS
      clear hg hus hn
      cases r
      · have HN2 : Hid (∀ x, x ∈ l.take (k + 1) → inP a b x = false) := HNX.out rfl
        clear HNX HYS
        go_wp2_with (go_at_call 94; refine hcl.mono ?_; rintro e w' ⟨rfl, hw⟩; obtain rfl : w = w' := hw.symm)
        go_roundw
        case rel => exact ⟨k + 1, by omega, by go_num, HN2.out, trivial⟩
        case measure => simp [intOf]; omega
      · have HY2 : Hid (∃ h : k < l.length, inP a b l[k] = true) := HYS.out rfl
        clear HNX HYS
        go_wp2_with (go_at_call 94; refine hcl.mono ?_; rintro e w' ⟨rfl, hw⟩; obtain rfl : w = w' := hw.symm)
        go_ret
        exact ⟨.inl ⟨k, rfl, HY2.out, HN.out⟩, rfl⟩
    · obtain rfl : k = l.length := by omega
      rw [List.take_length] at hn
      have HN : Hid (∀ x, x ∈ l → inP a b x = false) := hn
      clear hn
      go_wp2
      go_ret
      exact ⟨.inr ⟨rfl, HN.out⟩, rfl⟩
end Go.Proofs.YtokmllopbfmadabDoor.Plans

namespace Go.Proofs.YtokmllopbfmadabDoor.Plans
open Go.RowKit Mem

theorem blk_setCells {b : Nat} {t : TypeId} (vs : List Value) : ∀ (o : Nat) (us : List Value) (w : World), Blk w b t us → ∃ us', Blk (w.setCells b o vs) b t us' ∧ us'.length = us.length ∧ us'.take o = us.take o := by
  induction vs with
  | nil => intro o us w h; exact ⟨us, h, rfl, rfl⟩
  | cons v r ih =>
    intro o us w h
    obtain ⟨us', h1, h2, h3⟩ := ih (o + 1) _ _ (h.set o v)
    refine ⟨us', h1, by rw [h2]; simp, ?_⟩
    have := congrArg (List.take o) h3
    rw [List.take_take, List.take_take, Nat.min_eq_left (by omega)] at this
    rw [this, List.take_set_of_le (Nat.le_refl _)]
theorem but_setCells {b : Nat} (vs : List Value) : ∀ (o : Nat) (w0 w : World), But b w0 w → But b w0 (w.setCells b o vs) := by
  induction vs with
  | nil => intro o w0 w h; exact h
  | cons v r ih => intro o w0 w h; exact ih _ _ _ (h.setCell o v)
theorem rest2_inP (a b : Nat) (l : List Nat) : rest2 a b l = l.filter fun x => !inP a b x := rfl
theorem rest2_none {a b : Nat} {l : List Nat} (h : ∀ x, x ∈ l → inP a b x = false) : rest2 a b l = l := by
  rw [rest2_inP]; exact List.filter_eq_self.2 fun x hx => by rw [h x hx]; rfl
theorem take_next {l : List Nat} {k : Nat} (hk : k < l.length) : l.take (k + 1) = l.take k ++ [l[k]] := by rw [List.take_add_one, List.getElem?_eq_getElem hk]; rfl
theorem rest2_next_no {a b : Nat} {l : List Nat} {k : Nat} (hk : k < l.length) (h : inP a b l[k] = true) : rest2 a b (l.take (k + 1)) = rest2 a b (l.take k) := by
  rw [take_next hk, rest2_inP, rest2_inP, List.filter_append]; simp [h]
theorem rest2_next_yes {a b : Nat} {l : List Nat} {k : Nat} (hk : k < l.length) (h : inP a b l[k] = false) : rest2 a b (l.take (k + 1)) = rest2 a b (l.take k) ++ [l[k]] := by
  rw [take_next hk, rest2_inP, rest2_inP, List.filter_append]; simp [h]
/-- The row while it is gone through: the first places hold what stays, those from j on what was there. -/
structure DelSt (w : World) (g : Nat) (us : List Value) (l : List Nat) (a b j : Nat) (us' : List Value) : Prop where
  blk : Blk w g 3 us'
  len : us'.length = us.length
  low : ∀ q, (h : q < (rest2 a b (l.take j)).length) → us'[q]? = some (.int .i64 ((rest2 a b (l.take j))[q] : Nat))
  high : ∀ q, j ≤ q → (h : q < l.length) → us'[q]? = some (.int .i64 (l[q] : Nat))
theorem DelSt.skip {w : World} {g : Nat} {us us' : List Value} {l : List Nat} {a b j : Nat} (h : DelSt w g us l a b j us') (hj : j < l.length) (hp : inP a b l[j] = true) : DelSt w g us l a b (j + 1) us' := by
  refine ⟨h.blk, h.len, ?_, fun q h1 h2 => h.high q (by omega) h2⟩
  have e := rest2_next_no hj hp
  intro q hq
  have := h.low q (by rw [← e]; exact hq)
  rw [this]; congr 3; simp only [e]
theorem DelSt.keep {w : World} {g : Nat} {us us' : List Value} {l : List Nat} {a b j : Nat} (h : DelSt w g us l a b j us') (hj : j < l.length) (hp : inP a b l[j] = false) (hlt : (rest2 a b (l.take j)).length < us'.length) (hle : (rest2 a b (l.take j)).length ≤ j) :
    DelSt (w.setCell ⟨g, (rest2 a b (l.take j)).length, none⟩ (.int .i64 (l[j] : Nat))) g us l a b (j + 1) (us'.set (rest2 a b (l.take j)).length (.int .i64 (l[j] : Nat))) := by
  have e := rest2_next_yes hj hp
  refine ⟨h.blk.set _ _, by rw [List.length_set]; exact h.len, fun q hq => ?_, fun q h1 h2 => ?_⟩
  · have key : ∀ (t : List Nat), t = rest2 a b (l.take j) ++ [l[j]] → ∀ (hq : q < t.length), (us'.set (rest2 a b (l.take j)).length (.int .i64 (l[j] : Nat)))[q]? = some (.int .i64 (t[q] : Nat)) := by
      rintro t rfl hq
      by_cases e2 : q = (rest2 a b (l.take j)).length
      · subst e2; rw [List.getElem?_set_self hlt]; simp
      · have hq2 : q < (rest2 a b (l.take j)).length := by simp at hq; omega
        rw [List.getElem?_set_ne (by omega), h.low q hq2, List.getElem_append_left hq2]
    exact key _ e hq
  · rw [List.getElem?_set_ne (by omega)]
    exact h.high q (by omega) h2
theorem rest2_le (a b : Nat) (l : List Nat) : (rest2 a b l).length ≤ l.length := List.length_filter_le ..
theorem rest2_lt {a b : Nat} {l : List Nat} {k j : Nat} (hk : k < l.length) (hp : inP a b l[k] = true) (hkj : k < j) (hj : j ≤ l.length) : (rest2 a b (l.take j)).length < j := by
  have hm : l[k] ∈ l.take j := by
    have : (l.take j)[k]'(by simp; omega) = l[k] := by simp
    rw [← this]; exact List.getElem_mem _
  have h1 : (rest2 a b (l.take j)).length < (l.take j).length := by
    rw [rest2_inP]
    refine Nat.lt_of_le_of_ne (List.length_filter_le ..) fun e => ?_
    have := (List.length_filter_eq_length_iff.1 e) l[k] hm
    rw [hp] at this; cases this
  simp at h1; omega

set_option maxRecDepth 100000 in
set_option maxHeartbeats 2000000 in
theorem deleteFunc_any (l : List Nat) (a b pb g cap : Nat) (us : List Value) (w : World) (hg : Blk w g 3 us) (hus : ∀ k, (h : k < l.length) → us[k]? = some (.int .i64 (l[k] : Nat))) (hlen : us.length = cap) (hcap : l.length ≤ cap) (hp : Blk w pb 149 [.int .i64 a, .int .i64 b]) (hl : l.length ≤ 1000000) (hin : a ∈ l) :
    Calls Tryd.prog 93 #[.slice (some ⟨g, 0, none⟩) l.length cap, .func (.func 94) #[] #[.pointer (some ⟨pb, 0, none⟩)]] w fun e w' =>
      e = .returned (.slice (some ⟨g, 0, none⟩) (rest2 a b l).length cap) ∧ (∃ us', Blk w' g 3 us' ∧ us'.length = cap ∧ us'.take (rest2 a b l).length = intsV (rest2 a b l)) ∧ But g w w' := by
  have hgp : pb ≠ g := hp.type_ne hg (by decide)
  have HI : Hid (IntsAt w (.slice (some ⟨g, 0, none⟩) l.length cap) l) := ⟨_, _, rfl, hcap, .inr ⟨g, us, rfl, hg, hus⟩⟩
  have HG : Hid (Blk w g 3 us) := hg
  have HUS : Hid (∀ k, (h : k < l.length) → us[k]? = some (.int .i64 (l[k] : Nat))) := hus
  have HP : Hid (Blk w pb 149 [.int .i64 a, .int .i64 b]) := hp
  have HIN : Hid (a ∈ l) := hin
  clear hg hus hp hin
  go_enter Tryd.func93, Tryd.ntmps93
  go_wp2_with fail
  refine (indexFunc_any l a b pb _ _ HI.out HP.out hl).mono ?_
  rintro e w' ⟨hres, hw⟩
  obtain rfl : w = w' := hw.symm
  rcases hres with ⟨k0, rfl, ⟨hk0, hp0⟩, hpre⟩ | ⟨_, hno⟩
  · have hd0 : DelSt w g us l a b (k0 + 1) us := by
      have e0 : rest2 a b (l.take (k0 + 1)) = l.take k0 := by rw [rest2_next_no hk0 hp0, rest2_none hpre]
      refine ⟨HG.out, rfl, ?_, fun q _ h2 => HUS.out q h2⟩
      have key : ∀ t : List Nat, t = l.take k0 → ∀ q, (h : q < t.length) → us[q]? = some (.int .i64 (t[q] : Nat)) := by
        rintro t rfl q h
        have hq : q < l.length := by simp at h; omega
        rw [HUS.out q hq]; simp [List.getElem_take]
      exact key _ e0
    have e00 : (rest2 a b (l.take (k0 + 1))).length = k0 := by rw [rest2_next_no hk0 hp0, rest2_none hpre]; simp; omega
    have HD0 : Hid (DelSt w g us l a b (k0 + 1) us) := hd0
    have HE0 : Hid ((rest2 a b (l.take (k0 + 1))).length = k0) := e00
    have HLT : Hid (∀ j, k0 < j → j ≤ l.length → (rest2 a b (l.take j)).length < j) := fun j h1 h2 => rest2_lt hk0 hp0 h1 h2
    have hne : ((k0 : Int) == -1) = false := by simp
    clear hd0 e00 hp0 hpre
    go_wp2
    go_loopw [5, 6] (fun iv jv wr => ∃ (i j : Nat) (us' : List Value), k0 < j ∧ j ≤ l.length ∧ iv = .int .i64 i ∧ jv = .int .i64 j ∧ i = (rest2 a b (l.take j)).length ∧ DelSt wr g us l a b j us' ∧ But g w wr) (fun _ jv _ => l.length - (intOf jv).toNat)
    case atStart => exact ⟨k0, k0 + 1, us, by omega, by omega, rfl, by go_num, HE0.out.symm, HD0.out, But.refl _ _⟩
    case round =>
      clear HD0 HE0
      obtain ⟨i, j, us', hkj, hj, rfl, rfl, hi, hd, hbut⟩ := hrel
      have hij : i < j := by rw [hi]; exact HLT.out j hkj hj
      have HD : Hid (DelSt wr g us l a b j us') := hd
      have HIE : Hid (i = (rest2 a b (l.take j)).length) := hi
      have hle : us'.length = cap := hd.len.trans hlen
      by_cases hlt : j < l.length
      · have cj := hd.blk.cell_some (hd.high j (Nat.le_refl _) hlt)
        have ci := hd.blk.cell_some (k := i) (v := us'[i]'(by omega)) (List.getElem?_eq_getElem (by omega))
        have fi := hd.blk.free i
        have HCL : Hid (∀ x : Nat, Calls Tryd.prog 94 #[.int .i64 x, .pointer (some ⟨pb, 0, none⟩)] wr fun e w' => e = .returned (.bool (inP a b x)) ∧ w' = wr) := fun x => closure_any a b x pb wr (hbut.blk HP.out hgp)
        have hcl := HCL.out l[j]
        have HSK : Hid (inP a b l[j] = true → DelSt wr g us l a b (j + 1) us' ∧ i = (rest2 a b (l.take (j + 1))).length) := fun h => ⟨HD.out.skip hlt h, by rw [rest2_next_no hlt h]; exact HIE.out⟩
        have HKE : Hid (inP a b l[j] = false → DelSt (wr.setCell ⟨g, i, none⟩ (.int .i64 (l[j] : Nat))) g us l a b (j + 1) (us'.set i (.int .i64 (l[j] : Nat))) ∧ i + 1 = (rest2 a b (l.take (j + 1))).length) := fun h => by
          have e := HIE.out
          refine ⟨?_, by rw [rest2_next_yes hlt h, List.length_append, ← e]; rfl⟩
          have := HD.out.keep hlt h (by omega) (by omega)
          rw [← e] at this
          exact this
        generalize l[j] = x at cj hcl HSK HKE
        generalize inP a b x = r at hcl HSK HKE
        generalize us'[i]'(by omega) = old at ci
        have HBUT : Hid (But g w wr) := hbut
        clear hd hi hbut HCL hw
        cases r
        · have HK2 : Hid (DelSt (wr.setCell ⟨g, i, none⟩ (.int .i64 (x : Nat))) g us l a b (j + 1) (us'.set i (.int .i64 (x : Nat))) ∧ i + 1 = (rest2 a b (l.take (j + 1))).length) := HKE.out rfl
          clear HSK HKE
          go_wp2_with (go_at_call 94; refine hcl.mono ?_; rintro e w' ⟨rfl, hw⟩; obtain rfl : wr = w' := hw.symm)
          go_roundw
          case rel => exact ⟨i + 1, j + 1, _, by omega, by omega, by go_num, by go_num, HK2.out.2, HK2.out.1, HBUT.out.setCell _ _⟩
          case measure => simp [intOf]; omega
        · have HK2 : Hid (DelSt wr g us l a b (j + 1) us' ∧ i = (rest2 a b (l.take (j + 1))).length) := HSK.out rfl
          clear HSK HKE
          go_wp2_with (go_at_call 94; refine hcl.mono ?_; rintro e w' ⟨rfl, hw⟩; obtain rfl : wr = w' := hw.symm)
          go_roundw
          case rel => exact ⟨i, j + 1, us', by omega, by omega, rfl, by go_num, HK2.out.2, HK2.out.1, HBUT.out⟩
          case measure => simp [intOf]; omega
      · obtain rfl : j = l.length := by omega
        have hcl : ∀ ty, (Builtin.clear_ #[32] ty #[.slice (some ⟨g, i, none⟩) (l.length - i) (cap - i)]).run Tryd.prog wr = .ok (.tuple #[]) (wr.setCells g i (List.replicate (l.length - i) (.int .i64 0))) :=
          fun ty => Lib.run_clear_slice wr 32 3 ty _ Tryd.underlying32 zeroI rfl rfl g i _ _ (by omega) (fun t ht => by rw [hd.blk.cell]; simp; omega) (fun t ht => hd.blk.free _)
        obtain ⟨us2, h21, h22, h23⟩ := blk_setCells (List.replicate (l.length - i) (.int .i64 0)) i us' wr hd.blk
        have HF : Hid (Blk (wr.setCells g i (List.replicate (l.length - i) (.int .i64 0))) g 3 us2 ∧ us2.length = cap ∧ us2.take (rest2 a b l).length = intsV (rest2 a b l)) := by
          refine ⟨h21, by omega, ?_⟩
          have e := HIE.out
          rw [List.take_length] at e
          have hlow := hd.low
          rw [List.take_length] at hlow
          rw [← e, h23]
          apply List.ext_getElem?
          intro q
          by_cases hq : q < i
          · rw [List.getElem?_take_of_lt hq, hlow q (by omega)]
            simp [intsV, show q < (rest2 a b l).length by omega]
          · rw [List.getElem?_eq_none (by simp; omega), List.getElem?_eq_none (by simp [intsV]; omega)]
        have HB2 : Hid (But g w (wr.setCells g i (List.replicate (l.length - i) (.int .i64 0)))) := but_setCells _ _ _ _ hbut
        have HE2 : Hid (i = (rest2 a b l).length) := by have e := HIE.out; rw [List.take_length] at e; exact e
        have q1 : (i : Int) ≤ (l.length : Int) := by omega
        have q2 : ¬ cap = i := by omega
        have q3 : (i : Int) ≤ (cap : Int) := by omega
        clear hd h21 h22 h23 hbut hi hw
        go_wp2
        go_ret
        exact ⟨by rw [← HE2.out]; rfl, ⟨us2, HF.out⟩, HB2.out⟩
  · have := hno a HIN.out
    simp [inP] at this
end Go.Proofs.YtokmllopbfmadabDoor.Plans

namespace Go.Proofs.YtokmllopbfmadabDoor.Plans
open Go.RowKit Mem

set_option maxRecDepth 100000 in
theorem isNaN_any (x : Int) (w : World) : Calls Tryd.prog 97 #[.int .i64 x] w fun e w' => e = .returned (.bool false) ∧ w' = w := by
  go_enter Tryd.func97, Tryd.ntmps97
  go_wp2
  go_ret
  exact ⟨rfl, rfl⟩
def cmpI (x y : Nat) : Int := if x < y then -1 else if y < x then 1 else 0
set_option maxRecDepth 100000 in
theorem cmp_any (x y : Nat) (w : World) : Calls Tryd.prog 95 #[.int .i64 x, .int .i64 y] w fun e w' => e = .returned (.int .i64 (cmpI x y)) ∧ w' = w := by
  go_enter Tryd.func95, Tryd.ntmps95
  go_wp2_with fail
  refine (isNaN_any _ _).mono ?_
  rintro e w1 ⟨rfl, hw1⟩
  obtain rfl : w = w1 := hw1.symm
  go_wp2_with fail
  refine (isNaN_any _ _).mono ?_
  rintro e w1 ⟨rfl, hw1⟩
  obtain rfl : w = w1 := hw1.symm
  by_cases h1 : x < y
  · go_wp2
    go_ret
    exact ⟨by simp [cmpI, h1], rfl⟩
  · by_cases h2 : y < x
    · go_wp2
      go_ret
      exact ⟨by simp [cmpI, h1, h2], rfl⟩
    · go_wp2
      go_ret
      exact ⟨by simp [cmpI, h1, h2], rfl⟩
/-- Two pairs compared. -/
def cmp2 (x y a b : Nat) : Int := if cmpI x a = 0 then cmpI y b else cmpI x a
theorem cmpI_zero {x y : Nat} : cmpI x y = 0 ↔ x = y := by
  unfold cmpI; split
  · omega
  · split <;> omega
theorem cmp2_neg (x y a b : Nat) : cmp2 x y a b < 0 ↔ (x < a ∨ (x = a ∧ y < b)) := by
  unfold cmp2 cmpI
  by_cases h1 : x < a
  · simp [h1]
  · by_cases h2 : a < x
    · simp [h1, h2]; omega
    · by_cases h3 : y < b
      · simp [h1, h2, h3]; omega
      · by_cases h4 : b < y
        · simp [h1, h2, h3, h4]
        · simp [h1, h2, h3, h4]
set_option maxRecDepth 100000 in
set_option maxHeartbeats 1000000 in
theorem compare_any (x y a b g1 g2 : Nat) (w : World) (h1 : Blk w g1 149 [.int .i64 x, .int .i64 y]) (h2 : Blk w g2 149 [.int .i64 a, .int .i64 b]) :
    Calls Tryd.prog 92 #[.slice (some ⟨g1, 0, none⟩) 2 2, .slice (some ⟨g2, 0, none⟩) 2 2] w fun e w' => e = .returned (.int .i64 (cmp2 x y a b)) ∧ w' = w := by
  have x0 := h1.cell_some (k := 0) (v := .int .i64 x) rfl
  have x1 := h1.cell_some (k := 1) (v := .int .i64 y) rfl
  have a0 := h2.cell_some (k := 0) (v := .int .i64 a) rfl
  have a1 := h2.cell_some (k := 1) (v := .int .i64 b) rfl
  clear h1 h2
  go_enter Tryd.func92, Tryd.ntmps92
  go_wp2
  go_loopw [11] (fun iv wr => ((iv = .int .i64 0) ∨ (iv = .int .i64 1 ∧ x = a) ∨ (iv = .int .i64 2 ∧ x = a ∧ y = b)) ∧ w = wr) (fun iv _ => 2 - (intOf iv).toNat)
  case atStart => exact ⟨.inl rfl, rfl⟩
  case round =>
    obtain ⟨hc, rfl⟩ := hrel
    rcases hc with rfl | ⟨rfl, hxa⟩ | ⟨rfl, hxa, hyb⟩
    · have hz : cmpI x a = 0 ↔ x = a := cmpI_zero
      have HC2 : Hid (cmp2 x y a b = if cmpI x a = 0 then cmpI y b else cmpI x a) := rfl
      go_wp2_with fail
      refine (cmp_any x a _).mono ?_
      rintro e w1 ⟨rfl, hw1⟩
      obtain rfl : w = w1 := hw1.symm
      generalize cmpI x a = c at hz HC2
      by_cases hc : c = 0
      · subst hc
        have hxa := hz.1 rfl
        clear hz HC2
        go_wp2
        go_roundw
        case rel => exact ⟨.inr (.inl ⟨rfl, hxa⟩), trivial⟩
        case measure => simp [intOf]
      · have HR : Hid (cmp2 x y a b = c) := by show _ = _; rw [HC2.out, if_neg hc]
        clear hz HC2
        go_wp2
        go_ret
        exact ⟨by rw [HR.out]; rfl, rfl⟩
    · have hz : cmpI y b = 0 ↔ y = b := cmpI_zero
      have HC2 : Hid (cmp2 x y a b = cmpI y b) := by show _ = _; unfold cmp2; rw [if_pos (cmpI_zero.2 hxa)]
      have HXA : Hid (x = a) := hxa
      clear hxa
      go_wp2_with fail
      refine (cmp_any y b _).mono ?_
      rintro e w1 ⟨rfl, hw1⟩
      obtain rfl : w = w1 := hw1.symm
      generalize cmpI y b = c at hz HC2
      by_cases hc : c = 0
      · subst hc
        have hyb := hz.1 rfl
        clear hz HC2
        go_wp2
        go_roundw
        case rel => exact ⟨.inr (.inr ⟨rfl, HXA.out, hyb⟩), trivial⟩
        case measure => simp [intOf]
      · clear hz
        go_wp2
        go_ret
        exact ⟨by rw [HC2.out]; rfl, rfl⟩
    · have HR : Hid (cmp2 x y a b = 0) := by show _ = _; unfold cmp2; rw [if_pos (cmpI_zero.2 hxa)]; exact cmpI_zero.2 hyb
      clear hxa hyb
      go_wp2
      go_ret
      exact ⟨by rw [HR.out]; rfl, rfl⟩
end Go.Proofs.YtokmllopbfmadabDoor.Plans
