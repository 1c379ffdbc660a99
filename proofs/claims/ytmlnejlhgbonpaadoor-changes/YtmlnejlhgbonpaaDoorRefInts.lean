import Derived.Test.YtmlnejlhgbonpaaDoorRefSpread
import Derived.Test.YtmlnejlhgbonpaaDoorChosen
namespace Go.Proofs.YtmlnejlhgbonpaaDoor.Ref
open Go.RowKit Mem FieldWalks Tab ByTab Parts
open Gf (Bytes sumTo addTo)

/-- The slice v reads as these whole numbers; its room is no less than its length. -/
def IsC (w : World) (v : Value) (l : List Int) : Prop :=
  ∃ ao ex, v = .slice ao l.length (l.length + ex) ∧ (l = [] ∨ ∃ b off, ao = some ⟨b, off, none⟩ ∧ b < w.heap.size ∧ ∀ k, (h : k < l.length) → w.cell? ⟨b, off + k, none⟩ = some (.int .i64 l[k]))
theorem IsC.to {w w' : World} {v : Value} {l : List Int} (h : IsC w v l) (hb : Below w.heap.size w w') : IsC w' v l := by
  obtain ⟨ao, cap, rfl, h⟩ := h
  refine ⟨ao, cap, rfl, ?_⟩
  rcases h with h | ⟨b, off, rfl, hlt, hc⟩
  · exact .inl h
  · exact .inr ⟨b, off, rfl, Nat.lt_of_lt_of_le hlt hb.size, fun k hk => by rw [hb.cell (p := ⟨b, off + k, none⟩) hlt]; exact hc k hk⟩
theorem IsC.drewN {w : World} {v : Value} {l : List Int} (h : IsC w v l) (n : Nat) : IsC (w.drewN n) v l := h
theorem IsC.take {w : World} {ao : Option Addr} {n c k : Nat} {l : List Int} (h : IsC w (.slice ao n c) l) (hk : k ≤ l.length) : IsC w (.slice ao k c) (l.take k) := by
  obtain ⟨ao, ex, he, h⟩ := h
  injection he with h1 h2 h3
  subst h1 h2 h3
  have e : (l.take k).length = k := by rw [List.length_take]; omega
  refine ⟨ao, l.length - k + ex, by rw [e]; congr 1; omega, ?_⟩
  rcases h with rfl | ⟨b, off, rfl, hlt, hc⟩
  · exact .inl (by simp)
  · exact .inr ⟨b, off, rfl, hlt, fun i hi => by rw [List.getElem_take]; exact hc i (by omega)⟩
theorem not_take_next {l : List Int} {n : Int} {k : Nat} (h : n ∉ l.take k) (hk : k < l.length) (e : l[k] ≠ n) : n ∉ l.take (k + 1) := by
  rw [List.take_add_one, List.getElem?_eq_getElem hk]
  simp only [Option.toList_some, List.mem_append, List.mem_singleton, not_or]
  exact ⟨h, Ne.symm e⟩

set_option maxRecDepth 100000 in
theorem within_any (l : List Int) (n : Int) (v : Value) (w : World) (h : IsC w v l) (hl : l.length < 2 ^ 62) :
    Calls Tryd.prog 94 #[v, .int .i64 n] w fun e w' => e = .returned (.bool (decide (n ∈ l))) ∧ w' = w := by
  obtain ⟨ao, ex, rfl, hc⟩ := h
  have HC : Hid (l = [] ∨ ∃ b off, ao = some ⟨b, off, none⟩ ∧ b < w.heap.size ∧ ∀ k, (h : k < l.length) → w.cell? ⟨b, off + k, none⟩ = some (.int .i64 l[k])) := hc
  clear hc
  go_enter Tryd.func94, Tryd.ntmps94
  go_wp2
  go_loop [5] (fun i => ∃ k : Nat, k ≤ l.length ∧ i = .int .i64 k ∧ n ∉ l.take k) (fun i => l.length - (intOf i).toNat)
  case atStart => exact ⟨0, Nat.zero_le _, rfl, by simp⟩
  case round =>
    obtain ⟨k, hk, rfl, hn⟩ := hrel
    by_cases hlt : k < l.length
    · obtain ⟨b, off, rfl, hb, hc⟩ : ∃ b off, ao = some ⟨b, off, none⟩ ∧ b < w.heap.size ∧ ∀ k, (h : k < l.length) → w.cell? ⟨b, off + k, none⟩ = some (.int .i64 l[k]) := by
        rcases HC.out with h | h
        · rw [h] at hlt; simp at hlt
        · exact h
      have c1 := hc k hlt
      have HN : Hid (n ∉ l.take k) := hn
      clear hc hn
      by_cases e : l[k] = n
      · have hmem : decide (n ∈ l) = true := by simp; exact e ▸ List.getElem_mem hlt
        rw [e] at c1
        go_wp2
        go_ret
        exact ⟨rfl, rfl⟩
      · have HX : Hid (n ∉ l.take (k + 1)) := not_take_next HN.out hlt e
        have he : (l[k] == n) = false := by simp [e]
        generalize l[k] = x at c1 he
        clear e
        go_wp2
        go_round
        case rel => exact ⟨k + 1, by omega, by go_num, HX.out⟩
        case measure => simp [intOf]; omega
    · obtain rfl : k = l.length := by omega
      rw [List.take_length] at hn
      have hmem : decide (n ∈ l) = false := by simp [hn]
      go_wp2
      go_ret
      exact ⟨rfl, rfl⟩

/-- Do pieces and lost numbers go together? -/
structure ShapeOk (d s L : Nat) (pieces : List ByteArray) (lost : List Int) : Prop where
  count : pieces.length = d + s
  nums : ∀ k, (h : k < lost.length) → 0 ≤ lost[k] ∧ lost[k] < (d + s : Nat) ∧ lost[k] ∉ lost.take k
  sizes : ∀ p, (h : p < pieces.length) → (p : Int) ∉ lost → pieces[p].size = L
theorem ShapeOk.nodup {d s L : Nat} {pieces : List ByteArray} {lost : List Int} (h : ShapeOk d s L pieces lost) : lost.Nodup := by
  rw [List.Nodup, List.pairwise_iff_getElem]
  intro i j hi hj hij e
  refine (h.nums j hj).2.2 ?_
  rw [← e]
  rw [List.mem_iff_getElem]
  exact ⟨i, by simp; omega, by simp⟩
end Go.Proofs.YtmlnejlhgbonpaaDoor.Ref
