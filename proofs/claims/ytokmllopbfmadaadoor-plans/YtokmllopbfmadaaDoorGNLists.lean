import Derived.Test.YtokmllopbfmadaaDoorGPairMap
import Derived.Test.YtokmllopbfmadaaDoorGTurnMath
import Derived.Lib.SliceRun
namespace Go.Proofs.YtokmllopbfmadaaDoor.Plans
open Go.RowKit Mem

/-- Does the list have this pair? -/
def one (l : List Nat) (x y : Nat) : Nat := if x < y ∧ x ∈ l ∧ y ∈ l then 1 else 0
theorem count_rising {l : List Nat} (hp : l.Pairwise (· < ·)) (x : Nat) : l.count x = if x ∈ l then 1 else 0 := by
  by_cases h : x ∈ l
  · rw [if_pos h]
    have hn : l.Nodup := hp.imp (fun h => by omega)
    have h1 := List.nodup_iff_count.1 hn x
    have h2 := List.count_pos_iff.2 h
    omega
  · rw [if_neg h, List.count_eq_zero_of_not_mem h]
theorem occ_to {l : List Nat} (hp : l.Pairwise (· < ·)) (x y : Nat) : ∀ k, k ≤ l.length → occTo l k x y = one (l.take k) x y
  | 0, _ => by simp [occTo, one]
  | k + 1, hk => by
    have hlt : k < l.length := by omega
    have ih := occ_to hp x y k (by omega)
    have e : l.take (k + 1) = l.take k ++ [l[k]] := by rw [List.take_add_one, List.getElem?_eq_getElem hlt]; rfl
    have hgt : ∀ z, z ∈ l.take k → z < l[k] := by
      intro z hz
      have h2 := hp.sublist (List.take_sublist (k + 1) l)
      rw [e, List.pairwise_append] at h2
      exact h2.2.2 z hz l[k] (by simp)
    have hgd : l.getD k 0 = l[k] := by simp [hlt]
    rw [occTo, ih, hgd, count_rising (hp.sublist (List.take_sublist k l)), e]
    generalize l[k] = z at hgt
    generalize l.take k = t at hgt
    unfold one
    simp only [List.mem_append, List.mem_singleton]
    by_cases hzy : z = y
    · subst hzy
      have hn : ¬ z ∈ t := fun h => by have := hgt z h; omega
      by_cases hx : x ∈ t
      · have := hgt x hx
        simp [hx, hn, this]
      · by_cases hxz : x = z
        · subst hxz; simp [hn]
        · simp [hx, hn, hxz]
    · rw [if_neg hzy]
      have hyz : ¬ y = z := fun h => hzy h.symm
      by_cases hy : y ∈ t
      · have := hgt y hy
        by_cases hxz : x = z
        · subst hxz
          have : ¬ x < y := by omega
          simp [this]
        · simp [hy, hyz, hxz]
      · simp [hy, hyz]
theorem occ_rising {l : List Nat} (hp : l.Pairwise (· < ·)) (x y : Nat) : occTo l l.length x y = one l x y := by
  have := occ_to hp x y l.length (Nat.le_refl _)
  rwa [List.take_length] at this
theorem cnt_cons (l : List Nat) (L : List (List Nat)) (x y : Nat) : cnt (l :: L) x y = cnt L x y + one l x y := by
  unfold cnt one
  by_cases h : x < y
  · simp only [h, if_true, true_and]
    rw [List.countP_cons]
    simp only [both_iff]
  · simp [h]
theorem cnt_set : ∀ (L : List (List Nat)) (i : Nat) (l' : List Nat) (x y : Nat), i < L.length → cnt (L.set i l') x y + one (L.getD i []) x y = cnt L x y + one l' x y
  | [], i, l', x, y, h => by simp at h
  | l :: L, 0, l', x, y, h => by simp only [List.set_cons_zero, List.getD_cons_zero]; rw [cnt_cons, cnt_cons]; omega
  | l :: L, i + 1, l', x, y, h => by
    have := cnt_set L i l' x y (by simpa using h)
    simp only [List.set_cons_succ, List.getD_cons_succ]; rw [cnt_cons, cnt_cons]; omega
theorem cnt_le (L : List (List Nat)) (x y : Nat) : cnt L x y ≤ L.length := by
  unfold cnt; split
  · exact List.countP_le_length
  · omega
def cntI (L : List (List Nat)) : Nat → Nat → Int := fun x y => (cnt L x y : Nat)
theorem cntI_le (L : List (List Nat)) (h : L.length ≤ 1000) : ∀ x y, -1000000 ≤ cntI L x y ∧ cntI L x y ≤ 1000000 := by
  intro x y; have := cnt_le L x y; unfold cntI; omega
/-- One list more, one list less. -/
theorem count_set (L : List (List Nat)) (i : Nat) (l' : List Nat) (hi : i < L.length) (h0 : L.getD i [] = []) (hp : l'.Pairwise (· < ·)) : ∀ x y, cntF (cntI L) 1 l' l'.length 0 x y = cntI (L.set i l') x y := by
  intro x y
  have := cnt_set L i l' x y hi
  rw [h0] at this
  have e : one [] x y = 0 := by simp [one]
  unfold cntF cntI
  rw [occ_rising hp]
  simp only [List.take_zero, List.count_nil, ite_self]
  omega
theorem count_set2 (L : List (List Nat)) (i : Nat) (l' : List Nat) (hi : i < L.length) (hp0 : (L.getD i []).Pairwise (· < ·)) (hp : l'.Pairwise (· < ·)) : ∀ x y, cntF (cntF (cntI L) (-1) (L.getD i []) (L.getD i []).length 0) 1 l' l'.length 0 x y = cntI (L.set i l') x y := by
  intro x y
  have := cnt_set L i l' x y hi
  unfold cntF cntI
  rw [occ_rising hp, occ_rising hp0]
  simp only [List.take_zero, List.count_nil, ite_self]
  omega
/-- The lists of a piece in memory: block B holds their slices, each has a row of its own. -/
def LS (w : World) (B base : Nat) (L : List (List Nat)) : Prop :=
  ∃ vs : List Value, vs.length = L.length ∧ Blk w B 45 vs ∧ (∀ i v, vs[i]? = some v → w.ownsRow base 3 1 v (L.getD i []).length (intsV (L.getD i []))) ∧
    ∀ (i j : Nat) (vi vj : Value), i ≠ j → vs[i]? = some vi → vs[j]? = some vj → ∀ g, vi.ownBlock = some g → vj.ownBlock ≠ some g
/-- A row that is owned stays, where its block does. -/
theorem own_keep {w w' : World} {base n : Nat} {v : Value} {xs : List Value} (h : w.ownsRow base 3 1 v n xs) (hk : ∀ g us, v.ownBlock = some g → Blk w g 3 us → w'.heap[g]? = w.heap[g]?) : w'.ownsRow base 3 1 v n xs := by
  obtain ⟨h1, h2⟩ := h
  refine ⟨h1, ?_⟩
  rcases h2 with h2 | ⟨g, cap, cur, rfl, hg, hh, r⟩
  · exact .inl h2
  · exact .inr ⟨g, cap, cur, rfl, hg, by rw [hk g cur.toList rfl (by unfold Blk; rw [hh])]; exact hh, r⟩
theorem LS.keep {w w' : World} {B base : Nat} {L : List (List Nat)} (h : LS w B base L) (hB : w'.heap[B]? = w.heap[B]?) (hk : ∀ g us, Blk w g 3 us → w'.heap[g]? = w.heap[g]?) : LS w' B base L := by
  obtain ⟨vs, h1, h2, h3, h4⟩ := h
  exact ⟨vs, h1, by unfold Blk; rw [hB]; exact h2, fun i v hv => own_keep (h3 i v hv) (fun g us _ hg => hk g us hg), h4⟩
theorem LS.lt {w : World} {B base : Nat} {L : List (List Nat)} (h : LS w B base L) : B < w.heap.size := by
  obtain ⟨vs, h1, h2, _⟩ := h; exact h2.lt
theorem LS.to {w w' : World} {B base : Nat} {L : List (List Nat)} (h : LS w B base L) (hb : Below w.heap.size w w') : LS w' B base L :=
  h.keep (hb.block B h.lt) (fun g _ hg => hb.block g hg.lt)
theorem LS.map {w w' : World} {B base M n : Nat} {f : Nat → Nat → Int} {L : List (List Nat)} (h : LS w B base L) (hM : PM w M n f) (hb : But M w w') : LS w' B base L := by
  have hB : B ≠ M := by obtain ⟨vs, _, h2, _⟩ := h; exact hM.ne h2
  exact h.keep (hb.rest B hB h.lt) (fun g _ hg => hb.rest g (hM.ne hg) hg.lt)
/-- The slice of one list. -/
theorem LS.at {w : World} {B base : Nat} {L : List (List Nat)} (h : LS w B base L) {i : Nat} (hi : i < L.length) : ∃ v, w.cell? ⟨B, i, none⟩ = some v ∧ w.ownsRow base 3 1 v (L.getD i []).length (intsV (L.getD i [])) := by
  obtain ⟨vs, h1, h2, h3, h4⟩ := h
  have hv : vs[i]? = some (vs[i]'(by omega)) := List.getElem?_eq_getElem (by omega)
  exact ⟨_, h2.cell_some hv, h3 i _ hv⟩
theorem LS.free {w : World} {B base : Nat} {L : List (List Nat)} (h : LS w B base L) (i : Nat) : w.frozen? ⟨B, i, none⟩ = false := by
  obtain ⟨vs, h1, h2, h3, h4⟩ := h; exact h2.free i
theorem own_base {w : World} {base base' n : Nat} {v : Value} {xs : List Value} (h : w.ownsRow base 3 1 v n xs) (hb : base' ≤ base) : w.ownsRow base' 3 1 v n xs := by
  obtain ⟨h1, h2⟩ := h
  refine ⟨h1, ?_⟩
  rcases h2 with h2 | ⟨g, cap, cur, rfl, hg, r⟩
  · exact .inl h2
  · exact .inr ⟨g, cap, cur, rfl, by omega, r⟩
theorem own_block {w : World} {base n : Nat} {v : Value} {xs : List Value} (h : w.ownsRow base 3 1 v n xs) : ∀ g, v.ownBlock = some g → base ≤ g := by
  intro g hv
  rcases h.2 with ⟨rfl, _⟩ | ⟨g', cap, cur, rfl, hg, r⟩
  · cases hv
  · obtain rfl := Option.some.inj hv; exact hg
/-- One list is written anew: its row is its own, or a new one. -/
theorem LS.put {w w1 : World} {B base i : Nat} {L : List (List Nat)} {v v' : Value} {l' : List Nat} (h : LS w B base L) (hi : i < L.length) (hv : w.cell? ⟨B, i, none⟩ = some v)
    (hB : w1.heap[B]? = w.heap[B]?) (hrest : ∀ g us, Blk w g 3 us → v.ownBlock ≠ some g → w1.heap[g]? = w.heap[g]?) (hown : w1.ownsRow base 3 1 v' l'.length (intsV l'))
    (hblk : ∀ g, v'.ownBlock = some g → v.ownBlock = some g ∨ w.heap.size ≤ g) : LS (w1.setCell ⟨B, i, none⟩ v') B base (L.set i l') := by
  obtain ⟨vs, h1, h2, h3, h4⟩ := h
  have hvi : vs[i]? = some (vs[i]'(by omega)) := List.getElem?_eq_getElem (by omega)
  have e : v = vs[i]'(by omega) := by
    have := h2.cell_some hvi
    rw [hv] at this; exact Option.some.inj this
  have h21 : Blk w1 B 45 vs := by unfold Blk; rw [hB]; exact h2
  have hne : ∀ g us, Blk w1 g 3 us → g ≠ B := fun g us hg => hg.type_ne h21 (by decide)
  have hkeep : ∀ (vx : Value) (n : Nat) (xs : List Value), w1.ownsRow base 3 1 vx n xs → (w1.setCell ⟨B, i, none⟩ v').ownsRow base 3 1 vx n xs := fun vx n xs ho => own_keep ho (fun g us _ hg => Below.heap_setCell w1 _ v' g (hne g us hg))
  refine ⟨vs.set i v', by simp [h1], h21.set i v', fun j u hu => ?_, fun j k vj vk hjk hj hk g hg => ?_⟩
  · by_cases ej : i = j
    · subst ej
      rw [List.getElem?_set_self (by omega)] at hu
      obtain rfl := Option.some.inj hu
      have e2 : (L.set i l').getD i [] = l' := by simp [List.getD_eq_getElem?_getD, hi]
      rw [e2]
      exact hkeep _ _ _ hown
    · rw [List.getElem?_set_ne ej] at hu
      have e2 : (L.set i l').getD j [] = L.getD j [] := by simp [List.getD_eq_getElem?_getD, ej]
      rw [e2]
      refine hkeep _ _ _ (own_keep (h3 j u hu) (fun g us hug hg => hrest g us hg ?_))
      intro hvg
      exact h4 i j v u ej (by rw [e]; exact hvi) hu g hvg hug
  · have hold : ∀ (k : Nat) (u : Value) (g : Nat), vs[k]? = some u → u.ownBlock = some g → g < w.heap.size := fun k u g hu hg => by
      have := h3 k u hu
      rcases this.2 with ⟨rfl, _⟩ | ⟨g', cap, cur, rfl, _, hh, _⟩
      · cases hg
      · obtain rfl := Option.some.inj hg; exact lt_of_block hh
    by_cases ej : i = j
    · subst ej
      rw [List.getElem?_set_self (by omega)] at hj
      obtain rfl := Option.some.inj hj
      rw [List.getElem?_set_ne (by omega)] at hk
      intro hkg
      rcases hblk g hg with h | h
      · exact h4 i k v vk hjk (by rw [e]; exact hvi) hk g h hkg
      · have := hold k vk g hk hkg; omega
    · rw [List.getElem?_set_ne ej] at hj
      by_cases ek : i = k
      · subst ek
        rw [List.getElem?_set_self (by omega)] at hk
        obtain rfl := Option.some.inj hk
        intro hkg
        rcases hblk g hkg with h | h
        · exact h4 j i vj v (by omega) hj (by rw [e]; exact hvi) g hg h
        · have := hold j vj g hj hg; omega
      · rw [List.getElem?_set_ne ek] at hk
        exact h4 j k vj vk hjk hj hk g hg
theorem LS.made (w : World) (B base m : Nat) (h : Blk w B 45 (List.replicate m (.slice none 0 0))) : LS w B base (List.replicate m []) := by
  refine ⟨_, by simp, h, fun i v hv => ?_, fun i j vi vj _ hi _ g hg => ?_⟩
  · have hlt : i < m := by have := (List.getElem?_eq_some_iff.1 hv).1; simpa using this
    rw [List.getElem?_replicate, if_pos hlt] at hv
    obtain rfl := Option.some.inj hv
    have e : (List.replicate m ([] : List Nat)).getD i [] = [] := by simp [List.getD_eq_getElem?_getD, hlt]
    rw [e]; exact World.ownsRow_nil _ _ _ _
  · have hlt : i < m := by have := (List.getElem?_eq_some_iff.1 hi).1; simpa using this
    rw [List.getElem?_replicate, if_pos hlt] at hi
    obtain rfl := Option.some.inj hi
    cases hg
end Go.Proofs.YtokmllopbfmadaaDoor.Plans

namespace Go.Proofs.YtokmllopbfmadaaDoor.Plans
open Go.RowKit Mem

theorem not_take_next' {l : List Nat} {n k : Nat} (h : n ∉ l.take k) (hk : k < l.length) (hne : l[k] ≠ n) : n ∉ l.take (k + 1) := by
  rw [List.take_add_one, List.getElem?_eq_getElem hk]
  simp only [Option.toList_some, List.mem_append, List.mem_singleton]
  rintro (h1 | h1)
  · exact h h1
  · exact hne h1.symm
set_option maxRecDepth 100000 in
theorem index_nat (l : List Nat) (n : Nat) (v : Value) (w : World) (h : IntsAt w v l) (hl : l.length ≤ 1000000) :
    Calls Tryd.prog 135 #[v, .int .i64 n] w fun e w' => ((∃ k : Nat, e = .returned (.int .i64 k) ∧ k < l.length ∧ n ∈ l) ∨ (e = .returned (.int .i64 (-1)) ∧ n ∉ l)) ∧ w' = w := by
  obtain ⟨ao, cap, rfl, _, hc⟩ := h
  have HC : Hid (l = [] ∨ ∃ g us, ao = some ⟨g, 0, none⟩ ∧ Blk w g 3 us ∧ ∀ k, (h : k < l.length) → us[k]? = some (.int .i64 (l[k] : Nat))) := hc
  clear hc
  go_enter Tryd.func135, Tryd.ntmps135
  go_wp2
  go_loop [8] (fun i => ∃ k : Nat, k ≤ l.length ∧ i = .int .i64 k ∧ n ∉ l.take k) (fun i => l.length - (intOf i).toNat)
  case atStart => exact ⟨0, Nat.zero_le _, rfl, by simp⟩
  case round =>
    obtain ⟨k, hk, rfl, hn⟩ := hrel
    by_cases hlt : k < l.length
    · obtain ⟨g, us, rfl, hg, hus⟩ : ∃ g us, ao = some ⟨g, 0, none⟩ ∧ Blk w g 3 us ∧ ∀ k, (h : k < l.length) → us[k]? = some (.int .i64 (l[k] : Nat)) := by
        rcases HC.out with h | h
        · rw [h] at hlt; simp at hlt
        · exact h
      have c1 := hg.cell_some (hus k hlt)
      have HN : Hid (n ∉ l.take k) := hn
      clear hg hus hn
      by_cases e : l[k] = n
      · have HM : Hid (n ∈ l) := e ▸ List.getElem_mem hlt
        rw [e] at c1
        clear e
        go_wp2
        go_ret
        exact ⟨.inl ⟨k, rfl, hlt, HM.out⟩, rfl⟩
      · have HX : Hid (n ∉ l.take (k + 1)) := not_take_next' HN.out hlt e
        have he : ((n : Int) == (l[k] : Nat)) = false := by simp; omega
        have he2 : ¬ n = l[k] := fun h => e h.symm
        generalize l[k] = x at c1 he he2
        clear e
        go_wp2
        go_round
        case rel => exact ⟨k + 1, by omega, by go_num, HX.out⟩
        case measure => simp [intOf]; omega
    · obtain rfl : k = l.length := by omega
      rw [List.take_length] at hn
      have HN : Hid (n ∉ l) := hn
      clear hn
      go_wp2
      go_ret
      exact ⟨.inr ⟨rfl, HN.out⟩, rfl⟩
set_option maxRecDepth 100000 in
theorem contains_nat (l : List Nat) (n : Nat) (v : Value) (w : World) (h : IntsAt w v l) (hl : l.length ≤ 1000000) :
    Calls Tryd.prog 109 #[v, .int .i64 n] w fun e w' => e = .returned (.bool (decide (n ∈ l))) ∧ w' = w := by
  go_enter Tryd.func109, Tryd.ntmps109
  go_wp2_with fail
  refine (index_nat l n v w h hl).mono ?_
  rintro e w' ⟨h1, rfl⟩
  rcases h1 with ⟨k, rfl, hk, hm⟩ | ⟨rfl, hm⟩
  · have HD : Hid (decide (n ∈ l) = true) := by show _ = _; simp [hm]
    clear hm
    go_wp2
    go_ret
    exact ⟨by rw [HD.out]; rfl, rfl⟩
  · have HD : Hid (decide (n ∈ l) = false) := by show _ = _; simp [hm]
    clear hm
    go_wp2
    go_ret
    exact ⟨by rw [HD.out]; rfl, rfl⟩
/-- Is it one of the pair? -/
def inP (a b x : Nat) : Bool := x == a || x == b
set_option maxRecDepth 100000 in
theorem closure_any (a b x pb : Nat) (w : World) (h : Blk w pb 159 [.int .i64 a, .int .i64 b]) :
    Calls Tryd.prog 141 #[.int .i64 x, .pointer (some ⟨pb, 0, none⟩)] w fun e w' => e = .returned (.bool (inP a b x)) ∧ w' = w := by
  have c0 := h.cell_some (k := 0) (v := .int .i64 a) rfl
  have c1 := h.cell_some (k := 1) (v := .int .i64 b) rfl
  clear h
  go_enter Tryd.func141, Tryd.ntmps141
  by_cases h1 : x = a
  · have e1 : ((x : Int) == (a : Int)) = true := by simp [h1]
    have HP : Hid (inP a b x = true) := by show _ = _; simp [inP, h1]
    clear h1
    go_wp2
    go_ret
    exact ⟨by rw [HP.out]; rfl, rfl⟩
  · have e1 : ((x : Int) == (a : Int)) = false := by simp; omega
    by_cases h2 : x = b
    · have e2 : ((x : Int) == (b : Int)) = true := by simp [h2]
      have HP : Hid (inP a b x = true) := by show _ = _; simp [inP, h2]
      clear h2
      go_wp2
      go_ret
      exact ⟨by rw [HP.out]; rfl, rfl⟩
    · have e2 : ((x : Int) == (b : Int)) = false := by simp; omega
      have HP : Hid (inP a b x = false) := by show _ = _; simp [inP, h1, h2]
      go_wp2
      go_ret
      exact ⟨by rw [HP.out]; rfl, rfl⟩
end Go.Proofs.YtokmllopbfmadaaDoor.Plans

namespace Go.Proofs.YtokmllopbfmadaaDoor.Plans
open Go.RowKit Mem

def clV (pb : Nat) : Value := .func (.func 141) #[] #[.pointer (some ⟨pb, 0, none⟩)]
set_option maxRecDepth 100000 in
set_option maxHeartbeats 1000000 in
theorem indexFunc_any (l : List Nat) (a b pb : Nat) (v : Value) (w : World) (h : IntsAt w v l) (hp : Blk w pb 159 [.int .i64 a, .int .i64 b]) (hl : l.length ≤ 1000000) :
    Calls Tryd.prog 157 #[v, .func (.func 141) #[] #[.pointer (some ⟨pb, 0, none⟩)]] w fun e w' => ((∃ k : Nat, e = .returned (.int .i64 k) ∧ (∃ h : k < l.length, inP a b l[k] = true) ∧ ∀ x, x ∈ l.take k → inP a b x = false) ∨ (e = .returned (.int .i64 (-1)) ∧ ∀ x, x ∈ l → inP a b x = false)) ∧ w' = w := by
  obtain ⟨ao, cap, rfl, _, hc⟩ := h
  have HC : Hid (l = [] ∨ ∃ g us, ao = some ⟨g, 0, none⟩ ∧ Blk w g 3 us ∧ ∀ k, (h : k < l.length) → us[k]? = some (.int .i64 (l[k] : Nat))) := hc
  have HCL : Hid (∀ x : Nat, Calls Tryd.prog 141 #[.int .i64 x, .pointer (some ⟨pb, 0, none⟩)] w fun e w' => e = .returned (.bool (inP a b x)) ∧ w' = w) := fun x => closure_any a b x pb w hp
  clear hc hp
  go_enter Tryd.func157, Tryd.ntmps157
  go_wp2
  go_loopw [8] (fun i wr => ∃ k : Nat, k ≤ l.length ∧ i = .int .i64 k ∧ (∀ x, x ∈ l.take k → inP a b x = false) ∧ w = wr) (fun i _ => l.length - (intOf i).toNat)
  case atStart => exact ⟨0, Nat.zero_le _, rfl, by simp, rfl⟩
  case round =>
    obtain ⟨k, hk, rfl, hn, rfl⟩ := hrel
    by_cases hlt : k < l.length
    · obtain ⟨g, us, rfl, hg, hus⟩ : ∃ g us, ao = some ⟨g, 0, none⟩ ∧ Blk w g 3 us ∧ ∀ k, (h : k < l.length) → us[k]? = some (.int .i64 (l[k] : Nat)) := by
        rcases HC.out with h | h
        · rw [h] at hlt; simp at hlt
        · exact h
      have c1 := hg.cell_some (hus k hlt)
      have HN : Hid (∀ x, x ∈ l.take k → inP a b x = false) := hn
      have HNX : Hid (inP a b l[k] = false → ∀ x, x ∈ l.take (k + 1) → inP a b x = false) := by
        intro h0 x hx
        rw [List.take_add_one, List.getElem?_eq_getElem hlt] at hx
        simp only [Option.toList_some, List.mem_append, List.mem_singleton] at hx
        rcases hx with hx | hx
        · exact HN.out x hx
        · rw [hx]; exact h0
      have HYS : Hid (inP a b l[k] = true → ∃ h : k < l.length, inP a b l[k] = true) := fun h => ⟨hlt, h⟩
      have hcl := HCL.out l[k]
      generalize l[k] = x at c1 hcl HNX HYS
      generalize inP a b x = r at hcl HNX HYS
      clear hg hus hn
      cases r
      · have HN2 : Hid (∀ x, x ∈ l.take (k + 1) → inP a b x = false) := HNX.out rfl
        clear HNX HYS
        go_wp2_with (go_at_call 141; refine hcl.mono ?_; rintro e w' ⟨rfl, hw⟩; obtain rfl : w = w' := hw.symm)
        go_roundw
        case rel => exact ⟨k + 1, by omega, by go_num, HN2.out, trivial⟩
        case measure => simp [intOf]; omega
      · have HY2 : Hid (∃ h : k < l.length, inP a b l[k] = true) := HYS.out rfl
        clear HNX HYS
        go_wp2_with (go_at_call 141; refine hcl.mono ?_; rintro e w' ⟨rfl, hw⟩; obtain rfl : w = w' := hw.symm)
        go_ret
        exact ⟨.inl ⟨k, rfl, HY2.out, HN.out⟩, rfl⟩
    · obtain rfl : k = l.length := by omega
      rw [List.take_length] at hn
      have HN : Hid (∀ x, x ∈ l → inP a b x = false) := hn
      clear hn
      go_wp2
      go_ret
      exact ⟨.inr ⟨rfl, HN.out⟩, rfl⟩
end Go.Proofs.YtokmllopbfmadaaDoor.Plans

namespace Go.Proofs.YtokmllopbfmadaaDoor.Plans
open Go.RowKit Mem

theorem blk_setCells {b : Nat} {t : TypeId} (vs : List Value) : ∀ (o : Nat) (us : List Value) (w : World), Blk w b t us → ∃ us', Blk (w.setCells b o vs) b t us' ∧ us'.length = us.length ∧ us'.take o = us.take o := by
  induction vs with
  | nil => intro o us w h; exact ⟨us, h, rfl, rfl⟩
  | cons v r ih =>
    intro o us w h
    obtain ⟨us', h1, h2, h3⟩ := ih (o + 1) _ _ (h.set o v)
    refine ⟨us', h1, by rw [h2]; simp, ?_⟩
    have := congrArg (List.take o) h3
    rw [List.take_take, List.take_take, Nat.min_eq_left (by omega)] at this
    rw [this, List.take_set_of_le (Nat.le_refl _)]
theorem but_setCells {b : Nat} (vs : List Value) : ∀ (o : Nat) (w0 w : World), But b w0 w → But b w0 (w.setCells b o vs) := by
  induction vs with
  | nil => intro o w0 w h; exact h
  | cons v r ih => intro o w0 w h; exact ih _ _ _ (h.setCell o v)
theorem rest2_inP (a b : Nat) (l : List Nat) : rest2 a b l = l.filter fun x => !inP a b x := rfl
theorem rest2_none {a b : Nat} {l : List Nat} (h : ∀ x, x ∈ l → inP a b x = false) : rest2 a b l = l := by
  rw [rest2_inP]; exact List.filter_eq_self.2 fun x hx => by rw [h x hx]; rfl
theorem take_next {l : List Nat} {k : Nat} (hk : k < l.length) : l.take (k + 1) = l.take k ++ [l[k]] := by rw [List.take_add_one, List.getElem?_eq_getElem hk]; rfl
theorem rest2_next_no {a b : Nat} {l : List Nat} {k : Nat} (hk : k < l.length) (h : inP a b l[k] = true) : rest2 a b (l.take (k + 1)) = rest2 a b (l.take k) := by
  rw [take_next hk, rest2_inP, rest2_inP, List.filter_append]; simp [h]
theorem rest2_next_yes {a b : Nat} {l : List Nat} {k : Nat} (hk : k < l.length) (h : inP a b l[k] = false) : rest2 a b (l.take (k + 1)) = rest2 a b (l.take k) ++ [l[k]] := by
  rw [take_next hk, rest2_inP, rest2_inP, List.filter_append]; simp [h]
/-- The row while it is gone through: the first places hold what stays, those from j on what was there. -/
structure DelSt (w : World) (g : Nat) (us : List Value) (l : List Nat) (a b j : Nat) (us' : List Value) : Prop where
  blk : Blk w g 3 us'
  len : us'.length = us.length
  low : ∀ q, (h : q < (rest2 a b (l.take j)).length) → us'[q]? = some (.int .i64 ((rest2 a b (l.take j))[q] : Nat))
  high : ∀ q, j ≤ q → (h : q < l.length) → us'[q]? = some (.int .i64 (l[q] : Nat))
theorem DelSt.skip {w : World} {g : Nat} {us us' : List Value} {l : List Nat} {a b j : Nat} (h : DelSt w g us l a b j us') (hj : j < l.length) (hp : inP a b l[j] = true) : DelSt w g us l a b (j + 1) us' := by
  refine ⟨h.blk, h.len, ?_, fun q h1 h2 => h.high q (by omega) h2⟩
  have e := rest2_next_no hj hp
  intro q hq
  have := h.low q (by rw [← e]; exact hq)
  rw [this]; congr 3; simp only [e]
theorem DelSt.keep {w : World} {g : Nat} {us us' : List Value} {l : List Nat} {a b j : Nat} (h : DelSt w g us l a b j us') (hj : j < l.length) (hp : inP a b l[j] = false) (hlt : (rest2 a b (l.take j)).length < us'.length) (hle : (rest2 a b (l.take j)).length ≤ j) :
    DelSt (w.setCell ⟨g, (rest2 a b (l.take j)).length, none⟩ (.int .i64 (l[j] : Nat))) g us l a b (j + 1) (us'.set (rest2 a b (l.take j)).length (.int .i64 (l[j] : Nat))) := by
  have e := rest2_next_yes hj hp
  refine ⟨h.blk.set _ _, by rw [List.length_set]; exact h.len, fun q hq => ?_, fun q h1 h2 => ?_⟩
  · have key : ∀ (t : List Nat), t = rest2 a b (l.take j) ++ [l[j]] → ∀ (hq : q < t.length), (us'.set (rest2 a b (l.take j)).length (.int .i64 (l[j] : Nat)))[q]? = some (.int .i64 (t[q] : Nat)) := by
      rintro t rfl hq
      by_cases e2 : q = (rest2 a b (l.take j)).length
      · subst e2; rw [List.getElem?_set_self hlt]; simp
      · have hq2 : q < (rest2 a b (l.take j)).length := by simp at hq; omega
        rw [List.getElem?_set_ne (by omega), h.low q hq2, List.getElem_append_left hq2]
    exact key _ e hq
  · rw [List.getElem?_set_ne (by omega)]
    exact h.high q (by omega) h2
theorem rest2_le (a b : Nat) (l : List Nat) : (rest2 a b l).length ≤ l.length := List.length_filter_le ..
theorem rest2_lt {a b : Nat} {l : List Nat} {k j : Nat} (hk : k < l.length) (hp : inP a b l[k] = true) (hkj : k < j) (hj : j ≤ l.length) : (rest2 a b (l.take j)).length < j := by
  have hm : l[k] ∈ l.take j := by
    have : (l.take j)[k]'(by simp; omega) = l[k] := by simp
    rw [← this]; exact List.getElem_mem _
  have h1 : (rest2 a b (l.take j)).length < (l.take j).length := by
    rw [rest2_inP]
    refine Nat.lt_of_le_of_ne (List.length_filter_le ..) fun e => ?_
    have := (List.length_filter_eq_length_iff.1 e) l[k] hm
    rw [hp] at this; cases this
  simp at h1; omega

set_option maxRecDepth 100000 in
set_option maxHeartbeats 2000000 in
theorem deleteFunc_any (l : List Nat) (a b pb g cap : Nat) (us : List Value) (w : World) (hg : Blk w g 3 us) (hus : ∀ k, (h : k < l.length) → us[k]? = some (.int .i64 (l[k] : Nat))) (hlen : us.length = cap) (hcap : l.length ≤ cap) (hp : Blk w pb 159 [.int .i64 a, .int .i64 b]) (hl : l.length ≤ 1000000) (hin : a ∈ l) :
    Calls Tryd.prog 140 #[.slice (some ⟨g, 0, none⟩) l.length cap, .func (.func 141) #[] #[.pointer (some ⟨pb, 0, none⟩)]] w fun e w' =>
      e = .returned (.slice (some ⟨g, 0, none⟩) (rest2 a b l).length cap) ∧ (∃ us', Blk w' g 3 us' ∧ us'.length = cap ∧ us'.take (rest2 a b l).length = intsV (rest2 a b l)) ∧ But g w w' := by
  have hgp : pb ≠ g := hp.type_ne hg (by decide)
  have HI : Hid (IntsAt w (.slice (some ⟨g, 0, none⟩) l.length cap) l) := ⟨_, _, rfl, hcap, .inr ⟨g, us, rfl, hg, hus⟩⟩
  have HG : Hid (Blk w g 3 us) := hg
  have HUS : Hid (∀ k, (h : k < l.length) → us[k]? = some (.int .i64 (l[k] : Nat))) := hus
  have HP : Hid (Blk w pb 159 [.int .i64 a, .int .i64 b]) := hp
  have HIN : Hid (a ∈ l) := hin
  clear hg hus hp hin
  go_enter Tryd.func140, Tryd.ntmps140
  go_wp2_with fail
  refine (indexFunc_any l a b pb _ _ HI.out HP.out hl).mono ?_
  rintro e w' ⟨hres, hw⟩
  obtain rfl : w = w' := hw.symm
  rcases hres with ⟨k0, rfl, ⟨hk0, hp0⟩, hpre⟩ | ⟨_, hno⟩
  · have hd0 : DelSt w g us l a b (k0 + 1) us := by
      have e0 : rest2 a b (l.take (k0 + 1)) = l.take k0 := by rw [rest2_next_no hk0 hp0, rest2_none hpre]
      refine ⟨HG.out, rfl, ?_, fun q _ h2 => HUS.out q h2⟩
      have key : ∀ t : List Nat, t = l.take k0 → ∀ q, (h : q < t.length) → us[q]? = some (.int .i64 (t[q] : Nat)) := by
        rintro t rfl q h
        have hq : q < l.length := by simp at h; omega
        rw [HUS.out q hq]; simp [List.getElem_take]
      exact key _ e0
    have e00 : (rest2 a b (l.take (k0 + 1))).length = k0 := by rw [rest2_next_no hk0 hp0, rest2_none hpre]; simp; omega
    have HD0 : Hid (DelSt w g us l a b (k0 + 1) us) := hd0
    have HE0 : Hid ((rest2 a b (l.take (k0 + 1))).length = k0) := e00
    have HLT : Hid (∀ j, k0 < j → j ≤ l.length → (rest2 a b (l.take j)).length < j) := fun j h1 h2 => rest2_lt hk0 hp0 h1 h2
    have hne : ((k0 : Int) == -1) = false := by simp
    clear hd0 e00 hp0 hpre
    go_wp2
    go_loopw [5, 6] (fun iv jv wr => ∃ (i j : Nat) (us' : List Value), k0 < j ∧ j ≤ l.length ∧ iv = .int .i64 i ∧ jv = .int .i64 j ∧ i = (rest2 a b (l.take j)).length ∧ DelSt wr g us l a b j us' ∧ But g w wr) (fun _ jv _ => l.length - (intOf jv).toNat)
    case atStart => exact ⟨k0, k0 + 1, us, by omega, by omega, rfl, by go_num, HE0.out.symm, HD0.out, But.refl _ _⟩
    case round =>
      clear HD0 HE0
      obtain ⟨i, j, us', hkj, hj, rfl, rfl, hi, hd, hbut⟩ := hrel
      have hij : i < j := by rw [hi]; exact HLT.out j hkj hj
      have HD : Hid (DelSt wr g us l a b j us') := hd
      have HIE : Hid (i = (rest2 a b (l.take j)).length) := hi
      have hle : us'.length = cap := hd.len.trans hlen
      by_cases hlt : j < l.length
      · have cj := hd.blk.cell_some (hd.high j (Nat.le_refl _) hlt)
        have ci := hd.blk.cell_some (k := i) (v := us'[i]'(by omega)) (List.getElem?_eq_getElem (by omega))
        have fi := hd.blk.free i
        have HCL : Hid (∀ x : Nat, Calls Tryd.prog 141 #[.int .i64 x, .pointer (some ⟨pb, 0, none⟩)] wr fun e w' => e = .returned (.bool (inP a b x)) ∧ w' = wr) := fun x => closure_any a b x pb wr (hbut.blk HP.out hgp)
        have hcl := HCL.out l[j]
        have HSK : Hid (inP a b l[j] = true → DelSt wr g us l a b (j + 1) us' ∧ i = (rest2 a b (l.take (j + 1))).length) := fun h => ⟨HD.out.skip hlt h, by rw [rest2_next_no hlt h]; exact HIE.out⟩
        have HKE : Hid (inP a b l[j] = false → DelSt (wr.setCell ⟨g, i, none⟩ (.int .i64 (l[j] : Nat))) g us l a b (j + 1) (us'.set i (.int .i64 (l[j] : Nat))) ∧ i + 1 = (rest2 a b (l.take (j + 1))).length) := fun h => by
          have e := HIE.out
          refine ⟨?_, by rw [rest2_next_yes hlt h, List.length_append, ← e]; rfl⟩
          have := HD.out.keep hlt h (by omega) (by omega)
          rw [← e] at this
          exact this
        generalize l[j] = x at cj hcl HSK HKE
        generalize inP a b x = r at hcl HSK HKE
        generalize us'[i]'(by omega) = old at ci
        have HBUT : Hid (But g w wr) := hbut
        clear hd hi hbut HCL hw
        cases r
        · have HK2 : Hid (DelSt (wr.setCell ⟨g, i, none⟩ (.int .i64 (x : Nat))) g us l a b (j + 1) (us'.set i (.int .i64 (x : Nat))) ∧ i + 1 = (rest2 a b (l.take (j + 1))).length) := HKE.out rfl
          clear HSK HKE
          go_wp2_with (go_at_call 141; refine hcl.mono ?_; rintro e w' ⟨rfl, hw⟩; obtain rfl : wr = w' := hw.symm)
          go_roundw
          case rel => exact ⟨i + 1, j + 1, _, by omega, by omega, by go_num, by go_num, HK2.out.2, HK2.out.1, HBUT.out.setCell _ _⟩
          case measure => simp [intOf]; omega
        · have HK2 : Hid (DelSt wr g us l a b (j + 1) us' ∧ i = (rest2 a b (l.take (j + 1))).length) := HSK.out rfl
          clear HSK HKE
          go_wp2_with (go_at_call 141; refine hcl.mono ?_; rintro e w' ⟨rfl, hw⟩; obtain rfl : wr = w' := hw.symm)
          go_roundw
          case rel => exact ⟨i, j + 1, us', by omega, by omega, rfl, by go_num, HK2.out.2, HK2.out.1, HBUT.out⟩
          case measure => simp [intOf]; omega
      · obtain rfl : j = l.length := by omega
        have hcl : ∀ ty, (Builtin.clear_ #[45] ty #[.slice (some ⟨g, i, none⟩) (l.length - i) (cap - i)]).run Tryd.prog wr = .ok (.tuple #[]) (wr.setCells g i (List.replicate (l.length - i) (.int .i64 0))) :=
          fun ty => Lib.run_clear_slice wr 45 3 ty _ Tryd.underlying45 zeroI rfl rfl g i _ _ (by omega) (fun t ht => by rw [hd.blk.cell]; simp; omega) (fun t ht => hd.blk.free _)
        obtain ⟨us2, h21, h22, h23⟩ := blk_setCells (List.replicate (l.length - i) (.int .i64 0)) i us' wr hd.blk
        have HF : Hid (Blk (wr.setCells g i (List.replicate (l.length - i) (.int .i64 0))) g 3 us2 ∧ us2.length = cap ∧ us2.take (rest2 a b l).length = intsV (rest2 a b l)) := by
          refine ⟨h21, by omega, ?_⟩
          have e := HIE.out
          rw [List.take_length] at e
          have hlow := hd.low
          rw [List.take_length] at hlow
          rw [← e, h23]
          apply List.ext_getElem?
          intro q
          by_cases hq : q < i
          · rw [List.getElem?_take_of_lt hq, hlow q (by omega)]
            simp [intsV, show q < (rest2 a b l).length by omega]
          · rw [List.getElem?_eq_none (by simp; omega), List.getElem?_eq_none (by simp [intsV]; omega)]
        have HB2 : Hid (But g w (wr.setCells g i (List.replicate (l.length - i) (.int .i64 0)))) := but_setCells _ _ _ _ hbut
        have HE2 : Hid (i = (rest2 a b l).length) := by have e := HIE.out; rw [List.take_length] at e; exact e
        have q1 : (i : Int) ≤ (l.length : Int) := by omega
        have q2 : ¬ cap = i := by omega
        have q3 : (i : Int) ≤ (cap : Int) := by omega
        clear hd h21 h22 h23 hbut hi hw
        go_wp2
        go_ret
        exact ⟨by rw [← HE2.out]; rfl, ⟨us2, HF.out⟩, HB2.out⟩
  · have := hno a HIN.out
    simp [inP] at this
end Go.Proofs.YtokmllopbfmadaaDoor.Plans
