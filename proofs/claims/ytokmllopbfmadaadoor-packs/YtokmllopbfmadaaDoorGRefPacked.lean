import Derived.Deep.RegionHeld3
import Derived.Test.YtokmllopbfmadaaDoorGPackMath
import Derived.Test.YtokmllopbfmadaaDoorGRefAll
import Derived.Test.YtokmllopbfmadaaDoorGCauchy
import Derived.Deep.QuietTactic
import Derived.BigQuiet
namespace Go.Proofs.YtokmllopbfmadaaDoor.Ref
open Go.RowKit Mem FieldWalks Tab ByTab Parts
open Gf (Bytes)

theorem packTo_size (h : ByteArray) (ps : List ByteArray) (L : Nat) (hp : ∀ p, (h : p < ps.length) → ps[p].size = L) : ∀ k, k ≤ ps.length → (packTo h ps k).size = h.size + 4 + k * (L + 5)
  | 0, _ => by unfold packTo; rw [ByteArray.size_append, checkS_size]; omega
  | k + 1, hk => by
    unfold packTo frameS
    rw [ByteArray.size_append, ByteArray.size_append, ByteArray.size_append, checkS_size, oneS_size, packTo_size h ps L hp k (by omega), List.getD_eq_getElem?_getD, List.getElem?_eq_getElem (by omega), Option.getD_some, hp k (by omega), Nat.add_mul]
    omega
theorem packTo_le (h : ByteArray) (ps : List ByteArray) (hp : ∀ p, (h : p < ps.length) → ps[p].size ≤ 1000) : ∀ k, k ≤ ps.length → (packTo h ps k).size ≤ h.size + 4 + k * 1005
  | 0, _ => by unfold packTo; rw [ByteArray.size_append, checkS_size]; omega
  | k + 1, hk => by
    unfold packTo frameS
    have := packTo_le h ps hp k (by omega)
    have h2 := hp k (by omega)
    rw [ByteArray.size_append, ByteArray.size_append, ByteArray.size_append, checkS_size, oneS_size, List.getD_eq_getElem?_getD, List.getElem?_eq_getElem (by omega), Option.getD_some, Nat.add_mul]
    omega
set_option maxRecDepth 100000 in
set_option maxHeartbeats 2000000 in
theorem packed_any (d s n : Nat) (ps : List ByteArray) (v : Value) (hn : n < 4611686018427387904) (hl : ps.length ≤ 100) (hp : ∀ p, (h : p < ps.length) → ps[p].size ≤ 1000) (w : World) (hv : StrsAt w v ps) :
    Calls Tryd.prog 74 #[.int .i64 d, .int .i64 s, .int .i64 n, v] w fun e w' => e = .returned (.string (packS d s n ps)) ∧ Below w.heap.size w w' := by
  obtain ⟨ao, cap, rfl, hx⟩ := hv
  have HX : Hid (ps = [] ∨ ∃ b off, ao = some ⟨b, off, none⟩ ∧ b < w.heap.size ∧ ∀ k, (h : k < ps.length) → w.cell? ⟨b, off + k, none⟩ = some (.string ps[k])) := hx
  have HP : Hid (∀ p, (h : p < ps.length) → ps[p].size ≤ 1000) := hp
  obtain ⟨h, hh⟩ : ∃ h, h = headS d s n := ⟨_, rfl⟩
  have hz : h.size = 6 := by rw [hh]; rfl
  have HH : Hid (packS d s n ps = packTo h ps ps.length) := by rw [hh]; rfl
  have HEAD : Hid (Calls Tryd.prog 100 #[.int .i64 d, .int .i64 s, .int .i64 n] w fun e w' => e = .returned (.string h) ∧ Below w.heap.size w w') := by
    rw [hh]; exact head_any d s n hn w
  clear hx hp hh
  go_enter Tryd.func74, Tryd.ntmps74
  go_wp2_with fail
  refine Calls.mono HEAD.out ?_
  rintro e w1 ⟨rfl, hb1⟩
  go_wp2_with fail
  refine (check_any h (by omega) _).mono ?_
  rintro e w2 ⟨rfl, hb2⟩
  have B2 := hb1.trans (hb2.mono hb1.size)
  have zc := checkS_size h
  clear hb1 hb2 HEAD
  go_wp2
  go_loopw [10, 11] (fun o i wr => ∃ k : Nat, k ≤ ps.length ∧ i = .int .i64 k ∧ o = .string (packTo h ps k) ∧ Below w.heap.size w wr) (fun _ i _ => ps.length - (intOf i).toNat)
  case atStart => exact ⟨0, Nat.zero_le _, rfl, rfl, B2⟩
  case round =>
    obtain ⟨k, hk, rfl, rfl, hbel⟩ := hrel
    have hA := packTo_le h ps HP.out k hk
    have hA2 : (packTo h ps k).size ≤ 1000000 := by
      have := Nat.mul_le_mul_right 1005 (Nat.le_trans hk hl); omega
    clear hA
    by_cases hlt : k < ps.length
    · obtain ⟨b, off, rfl, hb, hc⟩ : ∃ b off, ao = some ⟨b, off, none⟩ ∧ b < w.heap.size ∧ ∀ k, (h : k < ps.length) → w.cell? ⟨b, off + k, none⟩ = some (.string ps[k]) := by
        rcases HX.out with h | h
        · rw [h] at hlt; simp at hlt
        · exact h
      have c1 := (hbel.cell (p := ⟨b, off + k, none⟩) hb).trans (hc k hlt)
      have E : Hid (packTo h ps (k + 1) = packTo h ps k ++ frameS h k ps[k]) := by
        show _ = _
        rw [packTo, List.getD_eq_getElem?_getD, List.getElem?_eq_getElem hlt, Option.getD_some]
      have hzx := HP.out k hlt
      generalize ps[k] = x at c1 E hzx
      generalize packTo h ps k = A at hA2 E ⊢
      have z1 := oneS_size k
      have z2 := checkS_size (h ++ oneS k ++ x)
      have hki : (k : Int) < (ps.length : Int) := by omega
      clear hc
      have hsz := hbel.size
      have q1 : ¬ 9223372036854775807 < A.size + 1 := by omega
      have q2 : ¬ 9223372036854775807 < A.size + 1 + x.size := by omega
      have q3 : ¬ 9223372036854775807 < 7 + x.size := by omega
      have q4 : ¬ 9223372036854775807 < A.size + 1 + x.size + 4 := by omega
      go_wp2
      have B3 : Below w.heap.size w wr.drew := hbel.drew
      have c3 : wr.drew.cell? ⟨b, off + k, none⟩ = some (.string x) := c1
      go_region_held3 (fun wx => wx.cell? ⟨b, off + k, none⟩ = some (.string x)) (go_keep) (first | (go_at_call 102; refine (one_any k _).mono ?_; rintro e w3 ⟨rfl, hb3⟩; replace c3 := (hb3.cell (p := ⟨b, off + k, none⟩) (Nat.lt_of_lt_of_le hb B3.size)).trans c3; replace B3 : Below w.heap.size w w3 := B3.trans (hb3.mono B3.size)) | (go_at_call 101; refine (check_any (h ++ oneS k ++ x) (by rw [ByteArray.size_append, ByteArray.size_append]; omega) _).mono ?_; rintro e w4 ⟨rfl, hb4⟩; have c4 := (hb4.cell (p := ⟨b, off + k, none⟩) (Nat.lt_of_lt_of_le hb B3.size)).trans c3; have B4 : Below w.heap.size w w4 := B3.trans (hb4.mono B3.size)))
      go_wp2
      go_roundw
      case rel => exact ⟨k + 1, by omega, by go_num, by rw [E.out]; unfold frameS; simp only [ByteArray.append_assoc], B4⟩
      case measure => simp [intOf]; omega
    · obtain rfl : k = ps.length := by omega
      go_wp2
      go_ret
      exact ⟨by rw [HH.out]; rfl, hbel⟩
end Go.Proofs.YtokmllopbfmadaaDoor.Ref

namespace Go.Proofs.YtokmllopbfmadaaDoor.Ref
open Go.RowKit Mem FieldWalks Tab ByTab Parts
open Gf (Bytes sumTo addTo)

/-- The slice v reads as these whole numbers; its room is no less than its length. -/
def IsC (w : World) (v : Value) (l : List Int) : Prop :=
  ∃ ao ex, v = .slice ao l.length (l.length + ex) ∧ (l = [] ∨ ∃ b off, ao = some ⟨b, off, none⟩ ∧ b < w.heap.size ∧ ∀ k, (h : k < l.length) → w.cell? ⟨b, off + k, none⟩ = some (.int .i64 l[k]))
theorem IsC.to {w w' : World} {v : Value} {l : List Int} (h : IsC w v l) (hb : Below w.heap.size w w') : IsC w' v l := by
  obtain ⟨ao, cap, rfl, h⟩ := h
  refine ⟨ao, cap, rfl, ?_⟩
  rcases h with h | ⟨b, off, rfl, hlt, hc⟩
  · exact .inl h
  · exact .inr ⟨b, off, rfl, Nat.lt_of_lt_of_le hlt hb.size, fun k hk => by rw [hb.cell (p := ⟨b, off + k, none⟩) hlt]; exact hc k hk⟩
theorem IsC.drewN {w : World} {v : Value} {l : List Int} (h : IsC w v l) (n : Nat) : IsC (w.drewN n) v l := h
theorem IsC.take {w : World} {ao : Option Addr} {n c k : Nat} {l : List Int} (h : IsC w (.slice ao n c) l) (hk : k ≤ l.length) : IsC w (.slice ao k c) (l.take k) := by
  obtain ⟨ao, ex, he, h⟩ := h
  injection he with h1 h2 h3
  subst h1 h2 h3
  have e : (l.take k).length = k := by rw [List.length_take]; omega
  refine ⟨ao, l.length - k + ex, by rw [e]; congr 1; omega, ?_⟩
  rcases h with rfl | ⟨b, off, rfl, hlt, hc⟩
  · exact .inl (by simp)
  · exact .inr ⟨b, off, rfl, hlt, fun i hi => by rw [List.getElem_take]; exact hc i (by omega)⟩
theorem not_take_next {l : List Int} {n : Int} {k : Nat} (h : n ∉ l.take k) (hk : k < l.length) (e : l[k] ≠ n) : n ∉ l.take (k + 1) := by
  rw [List.take_add_one, List.getElem?_eq_getElem hk]
  simp only [Option.toList_some, List.mem_append, List.mem_singleton, not_or]
  exact ⟨h, Ne.symm e⟩

set_option maxRecDepth 100000 in
theorem within_any (l : List Int) (n : Int) (v : Value) (w : World) (h : IsC w v l) (hl : l.length < 2 ^ 62) :
    Calls Tryd.prog 113 #[v, .int .i64 n] w fun e w' => e = .returned (.bool (decide (n ∈ l))) ∧ w' = w := by
  obtain ⟨ao, ex, rfl, hc⟩ := h
  have HC : Hid (l = [] ∨ ∃ b off, ao = some ⟨b, off, none⟩ ∧ b < w.heap.size ∧ ∀ k, (h : k < l.length) → w.cell? ⟨b, off + k, none⟩ = some (.int .i64 l[k])) := hc
  clear hc
  go_enter Tryd.func113, Tryd.ntmps113
  go_wp2
  go_loop [5] (fun i => ∃ k : Nat, k ≤ l.length ∧ i = .int .i64 k ∧ n ∉ l.take k) (fun i => l.length - (intOf i).toNat)
  case atStart => exact ⟨0, Nat.zero_le _, rfl, by simp⟩
  case round =>
    obtain ⟨k, hk, rfl, hn⟩ := hrel
    by_cases hlt : k < l.length
    · obtain ⟨b, off, rfl, hb, hc⟩ : ∃ b off, ao = some ⟨b, off, none⟩ ∧ b < w.heap.size ∧ ∀ k, (h : k < l.length) → w.cell? ⟨b, off + k, none⟩ = some (.int .i64 l[k]) := by
        rcases HC.out with h | h
        · rw [h] at hlt; simp at hlt
        · exact h
      have c1 := hc k hlt
      have HN : Hid (n ∉ l.take k) := hn
      clear hc hn
      by_cases e : l[k] = n
      · have hmem : decide (n ∈ l) = true := by simp; exact e ▸ List.getElem_mem hlt
        rw [e] at c1
        go_wp2
        go_ret
        exact ⟨rfl, rfl⟩
      · have HX : Hid (n ∉ l.take (k + 1)) := not_take_next HN.out hlt e
        have he : (l[k] == n) = false := by simp [e]
        generalize l[k] = x at c1 he
        clear e
        go_wp2
        go_round
        case rel => exact ⟨k + 1, by omega, by go_num, HX.out⟩
        case measure => simp [intOf]; omega
    · obtain rfl : k = l.length := by omega
      rw [List.take_length] at hn
      have hmem : decide (n ∈ l) = false := by simp [hn]
      go_wp2
      go_ret
      exact ⟨rfl, rfl⟩

/-- Do pieces and lost numbers go together? -/
structure ShapeOk (d s L : Nat) (pieces : List ByteArray) (lost : List Int) : Prop where
  count : pieces.length = d + s
  nums : ∀ k, (h : k < lost.length) → 0 ≤ lost[k] ∧ lost[k] < (d + s : Nat) ∧ lost[k] ∉ lost.take k
  sizes : ∀ p, (h : p < pieces.length) → (p : Int) ∉ lost → pieces[p].size = L
theorem ShapeOk.nodup {d s L : Nat} {pieces : List ByteArray} {lost : List Int} (h : ShapeOk d s L pieces lost) : lost.Nodup := by
  rw [List.Nodup, List.pairwise_iff_getElem]
  intro i j hi hj hij e
  refine (h.nums j hj).2.2 ?_
  rw [← e]
  rw [List.mem_iff_getElem]
  exact ⟨i, by simp; omega, by simp⟩
end Go.Proofs.YtokmllopbfmadaaDoor.Ref

namespace Go.Proofs.YtokmllopbfmadaaDoor.Ref
open Go.RowKit Mem FieldWalks Tab ByTab Parts
open Gf (Bytes sumTo addTo)

def Drew (w w' : World) : Prop := ∃ m, w' = w.drewN m
theorem Drew.below {w w' : World} (h : Drew w w') : Below w.heap.size w w' := by
  obtain ⟨m, rfl⟩ := h
  exact below_drewN (Below.refl _ _) _
theorem Drew.cell {w w' : World} (h : Drew w w') (p : Addr) : w'.cell? p = w.cell? p := by
  obtain ⟨m, rfl⟩ := h; rfl
theorem Drew.more {w w' : World} (h : Drew w w') (n : Nat) : Drew w (w'.drewN n) := by
  obtain ⟨m, rfl⟩ := h; exact ⟨m + n, World.drewN_drewN _ _ _⟩
theorem Drew.isC {w w' : World} (h : Drew w w') {v : Value} {l : List Int} (k : IsC w v l) : IsC w' v l := k.to h.below
/-- The call says whether it is so. -/
def Says (P : Prop) (e : Ending) : Prop := ∃ b : Bool, e = .returned (.bool b) ∧ (b = true ↔ P)
theorem Says.yes {P : Prop} {e : Ending} (he : e = .returned (.bool true)) (h : P) : Says P e := ⟨true, he, fun _ => h, fun _ => rfl⟩
theorem Says.no {P : Prop} {e : Ending} (he : e = .returned (.bool false)) (h : ¬ P) : Says P e := ⟨false, he, fun h => (by cases h), fun k => absurd k h⟩
/-- The first k lost numbers are as they must be. -/
def NumsTo (d s : Nat) (lost : List Int) (k : Nat) : Prop := ∀ j, (h : j < lost.length) → j < k → 0 ≤ lost[j] ∧ lost[j] < (d + s : Nat) ∧ lost[j] ∉ lost.take j
def SizesTo (L : Nat) (pieces : List ByteArray) (lost : List Int) (k : Nat) : Prop := ∀ p, (h : p < pieces.length) → p < k → (p : Int) ∉ lost → pieces[p].size = L

set_option maxRecDepth 100000 in
set_option maxHeartbeats 4000000 in
theorem shaped_any (d s n L : Nat) (pieces : List ByteArray) (lost : List Int) (pv lv : Value) (w : World) (hp : StrsAt w pv pieces) (hl : IsC w lv lost) (hll : lost.length < 2 ^ 62) (hpl : pieces.length < 2 ^ 62)
    (hd : 1 ≤ d) (hd2 : d ≤ 10) (hs : s ≤ 6) (hn : n ≤ 400) (hL : L = (n + d - 1) / d) (hsz : ∀ p, (h : p < pieces.length) → pieces[p].size < 2 ^ 62) :
    Calls Tryd.prog 91 #[.int .i64 d, .int .i64 s, .int .i64 n, pv, lv] w fun e w' => Says (ShapeOk d s L pieces lost) e ∧ Drew w w' := by
  obtain ⟨pao, pcap, rfl, hpc⟩ := hp
  have HL : Hid (IsC w lv lost) := hl
  obtain ⟨lao, lex, rfl, hlc⟩ := hl
  have HPC : Hid (pieces = [] ∨ ∃ b off, pao = some ⟨b, off, none⟩ ∧ b < w.heap.size ∧ ∀ k, (h : k < pieces.length) → w.cell? ⟨b, off + k, none⟩ = some (.string pieces[k])) := hpc
  have HLC : Hid (lost = [] ∨ ∃ b off, lao = some ⟨b, off, none⟩ ∧ b < w.heap.size ∧ ∀ k, (h : k < lost.length) → w.cell? ⟨b, off + k, none⟩ = some (.int .i64 lost[k])) := hlc
  have HEL : Hid (L = (n + d - 1) / d) := hL
  have HSZ : Hid (∀ p, (h : p < pieces.length) → pieces[p].size < 2 ^ 62) := hsz
  clear hpc hlc hL hsz
  by_cases hcnt : pieces.length = d + s
  · have hne : ((pieces.length : Int) != (d : Int) + (s : Int)) = false := by simp; omega
    have HCN : Hid (pieces.length = d + s) := hcnt
    clear hcnt
    go_enter Tryd.func91, Tryd.ntmps91
    go_wp2
    go_loopw [11] (fun i wr => ∃ k : Nat, k ≤ lost.length ∧ i = .int .i64 k ∧ Drew w wr ∧ NumsTo d s lost k) (fun i _ => lost.length - (intOf i).toNat)
    case atStart => exact ⟨0, Nat.zero_le _, rfl, ⟨0, rfl⟩, fun j _ hj => by omega⟩
    case round =>
      obtain ⟨k, hk, rfl, ⟨m, rfl⟩, hdone⟩ := hrel
      by_cases hlt : k < lost.length
      · obtain ⟨b, off, rfl, hb, hc⟩ : ∃ b off, lao = some ⟨b, off, none⟩ ∧ b < w.heap.size ∧ ∀ k, (h : k < lost.length) → w.cell? ⟨b, off + k, none⟩ = some (.int .i64 lost[k]) := by
          rcases HLC.out with h | h
          · rw [h] at hlt; simp at hlt
          · exact h
        have c1 := hc k hlt
        have HD : Hid (NumsTo d s lost k) := hdone
        have HT : Hid (IsC w (.slice (some ⟨b, off, none⟩) k (lost.length + lex)) (lost.take k)) := HL.out.take (by omega)
        have HLK : Hid ((lost.take k).length < 2 ^ 62) := by show _ < _; rw [List.length_take]; omega
        obtain ⟨x, hx⟩ : ∃ x, x = lost[k] := ⟨_, rfl⟩
        rw [← hx] at c1
        have HX : Hid (x = lost[k]) := hx
        obtain ⟨tw, htw⟩ : ∃ tw : Bool, tw = decide (x ∈ lost.take k) := ⟨_, rfl⟩
        have HTW : Hid (tw = decide (x ∈ lost.take k)) := htw
        have z1 : (0 : Int) ≤ (k : Int) := by omega
        have z2 : (k : Int) ≤ ((lost.length + lex : Nat) : Int) := by omega
        have z2' : (k : Int) ≤ (lost.length : Int) + (lex : Int) := by omega
        have z3 : ¬ lost.length + lex = 0 := by omega
        have z4 : (0 : Int) ≤ max (k : Int) 0 := by omega
        clear hc hdone htw hx
        go_wp2_with fail
        go_region_with (go_at_call 113; refine (within_any (lost.take k) x _ _ (by exact HT.out) HLK.out).mono ?_; rintro e w2 ⟨rfl, rfl⟩; rw [← HTW.out])
        all_goals
          by_cases h1 : x < 0
          · have h1' : decide (x < 0) = true := by simp [h1]
            go_wp2
            go_ret
            refine ⟨Says.no rfl fun h => absurd (h.nums k hlt).1 ?_, _, rfl⟩
            rw [← HX.out]; omega
          · have h1' : decide (x < 0) = false := by simp [h1]
            by_cases h2 : x < (d : Int) + (s : Int)
            · have h2' : decide ((d : Int) + (s : Int) ≤ x) = false := by simp; omega
              cases tw
              · have HN : Hid (NumsTo d s lost (k + 1)) := by
                  intro j h hj
                  by_cases e : j = k
                  · subst e
                    rw [← HX.out]
                    refine ⟨by omega, by omega, ?_⟩
                    have := HTW.out
                    simpa using this
                  · exact HD.out j h (by omega)
                go_wp2
                go_roundw
                case rel => exact ⟨k + 1, by omega, by go_num, ⟨_, rfl⟩, HN.out⟩
                case measure => simp [intOf]; omega
              · go_wp2
                go_ret
                refine ⟨Says.no rfl fun h => absurd ?_ (h.nums k hlt).2.2, _, rfl⟩
                rw [← HX.out]
                have := HTW.out
                simpa using this.symm
            · have h2' : decide ((d : Int) + (s : Int) ≤ x) = true := by simp; omega
              go_wp2
              go_ret
              refine ⟨Says.no rfl fun h => absurd (h.nums k hlt).2.1 ?_, _, rfl⟩
              rw [← HX.out]; omega
      · obtain rfl : k = lost.length := by omega
        have HD : Hid (NumsTo d s lost lost.length) := hdone
        clear hdone
        go_wp2
        go_loopw [13] (fun i wr => ∃ k : Nat, k ≤ d + s ∧ i = .int .i64 k ∧ Drew w wr ∧ SizesTo L pieces lost k) (fun i _ => d + s - (intOf i).toNat)
        case atStart => exact ⟨0, Nat.zero_le _, rfl, ⟨m, rfl⟩, fun j _ hj => by omega⟩
        case round =>
          obtain ⟨k, hk, rfl, hdr, hdone⟩ := hrel
          by_cases hlt : k < d + s
          · obtain ⟨b, off, rfl, hb, hc⟩ : ∃ b off, pao = some ⟨b, off, none⟩ ∧ b < w.heap.size ∧ ∀ k, (h : k < pieces.length) → w.cell? ⟨b, off + k, none⟩ = some (.string pieces[k]) := by
              rcases HPC.out with h | h
              · have := HCN.out; rw [h] at this; simp at this; omega
              · exact h
            have hkp : k < pieces.length := by have := HCN.out; omega
            have c1 := hc k hkp
            rw [← hdr.cell] at c1
            have HDR : Hid (Drew w wr) := hdr
            have HLW : Hid (IsC wr (.slice lao lost.length (lost.length + lex)) lost) := hdr.isC HL.out
            have hzz := HSZ.out k hkp
            have HPS : Hid (SizesTo L pieces lost k) := hdone
            obtain ⟨x, hx⟩ : ∃ x, x = pieces[k]'hkp := ⟨_, rfl⟩
            rw [← hx] at c1 hzz
            have HX : Hid (x = pieces[k]'hkp) := hx
            obtain ⟨gn, hgn⟩ : ∃ gn : Bool, gn = decide ((k : Int) ∈ lost) := ⟨_, rfl⟩
            have HGN : Hid (gn = decide ((k : Int) ∈ lost)) := hgn
            clear hc hx hgn hdone hdr
            go_wp2_with fail
            refine (within_any lost k _ _ (by exact HLW.out) hll).mono ?_
            rintro e w2 ⟨rfl, rfl⟩
            rw [← HGN.out]
            cases gn
            · obtain ⟨nb, hnb⟩ : ∃ nb : Bool, ((x.size : Int) != ((L : Nat) : Int)) = nb := ⟨_, rfl⟩
              have HSI : Hid (∀ W : World, Calls Tryd.prog 84 #[.int .i64 d, .int .i64 n] W fun e w' => e = .returned (.int .i64 (L : Nat)) ∧ w' = W) := by
                intro W
                rw [HEL.out]
                exact size_any d n (by omega) (by omega) (by omega) W
              have hki : (k : Int) < (pieces.length : Int) := by omega
              go_wp2_with fail
              go_quiet ((go_at_call 84; exact Calls.quiet_of_same (HSI.out _)))
              all_goals
                have HNB : Hid (((x.size : Int) != ((L : Nat) : Int)) = nb) := hnb
                clear hnb
                cases nb
                · have HN : Hid (SizesTo L pieces lost (k + 1)) := by
                    intro p h hp hno
                    by_cases e : p = k
                    · subst e; rw [← HX.out]; have := HNB.out; simp at this; omega
                    · exact HPS.out p h (by omega) hno
                  go_wp2
                  go_roundw
                  case rel => exact ⟨k + 1, by omega, by go_num, HDR.out.more _, HN.out⟩
                  case measure => simp [intOf]; omega
                · go_wp2
                  go_ret
                  refine ⟨Says.no rfl fun h => absurd (h.sizes k hkp ?_) ?_, HDR.out.more _⟩
                  · have := HGN.out; simpa using this
                  · rw [← HX.out]; have := HNB.out; simp at this; omega
            · have HN : Hid (SizesTo L pieces lost (k + 1)) := by
                intro p h hp hno
                by_cases e : p = k
                · subst e
                  have := HGN.out
                  exact absurd (by simpa using this) hno
                · exact HPS.out p h (by omega) hno
              go_wp2_with fail
              go_quiet (fail)
              all_goals
                go_wp2
                go_roundw
                case rel => exact ⟨k + 1, by omega, by go_num, HDR.out.more _, HN.out⟩
                case measure => simp [intOf]; omega
          · obtain rfl : k = d + s := by omega
            go_wp2
            go_ret
            exact ⟨Says.yes rfl ⟨HCN.out, fun j h => HD.out j h h, fun p h hno => hdone p h (by have := HCN.out; omega) hno⟩, hdr⟩
  · have hne : ((pieces.length : Int) != (d : Int) + (s : Int)) = true := by simp; omega
    go_enter Tryd.func91, Tryd.ntmps91
    go_wp2
    go_ret
    exact ⟨Says.no rfl fun h => absurd h.count hcnt, 0, rfl⟩
end Go.Proofs.YtokmllopbfmadaaDoor.Ref

namespace Go.Proofs.YtokmllopbfmadaaDoor.Ref
open Go.RowKit Mem FieldWalks Tab ByTab Parts

set_option maxRecDepth 100000 in
theorem index_any (l : List Int) (n : Int) (v : Value) (w : World) (h : IsC w v l) (hl : l.length < 2 ^ 62) :
    Calls Tryd.prog 135 #[v, .int .i64 n] w fun e w' => ((∃ k : Nat, e = .returned (.int .i64 k) ∧ k < l.length ∧ n ∈ l) ∨ (e = .returned (.int .i64 (-1)) ∧ n ∉ l)) ∧ w' = w := by
  obtain ⟨ao, ex, rfl, hc⟩ := h
  have HC : Hid (l = [] ∨ ∃ b off, ao = some ⟨b, off, none⟩ ∧ b < w.heap.size ∧ ∀ k, (h : k < l.length) → w.cell? ⟨b, off + k, none⟩ = some (.int .i64 l[k])) := hc
  clear hc
  go_enter Tryd.func135, Tryd.ntmps135
  go_wp2
  go_loop [8] (fun i => ∃ k : Nat, k ≤ l.length ∧ i = .int .i64 k ∧ n ∉ l.take k) (fun i => l.length - (intOf i).toNat)
  case atStart => exact ⟨0, Nat.zero_le _, rfl, by simp⟩
  case round =>
    obtain ⟨k, hk, rfl, hn⟩ := hrel
    by_cases hlt : k < l.length
    · obtain ⟨b, off, rfl, hb, hc⟩ : ∃ b off, ao = some ⟨b, off, none⟩ ∧ b < w.heap.size ∧ ∀ k, (h : k < l.length) → w.cell? ⟨b, off + k, none⟩ = some (.int .i64 l[k]) := by
        rcases HC.out with h | h
        · rw [h] at hlt; simp at hlt
        · exact h
      have c1 := hc k hlt
      have HN : Hid (n ∉ l.take k) := hn
      clear hc hn
      by_cases e : l[k] = n
      · have HM : Hid (n ∈ l) := e ▸ List.getElem_mem hlt
        rw [e] at c1
        clear e
        go_wp2
        go_ret
        exact ⟨.inl ⟨k, rfl, hlt, HM.out⟩, rfl⟩
      · have HX : Hid (n ∉ l.take (k + 1)) := not_take_next HN.out hlt e
        have he : (n == l[k]) = false := by simp; exact fun h => e h.symm
        generalize l[k] = x at c1 he
        clear e
        go_wp2
        go_round
        case rel => exact ⟨k + 1, by omega, by go_num, HX.out⟩
        case measure => simp [intOf]; omega
    · obtain rfl : k = l.length := by omega
      rw [List.take_length] at hn
      have HN : Hid (n ∉ l) := hn
      clear hn
      go_wp2
      go_ret
      exact ⟨.inr ⟨rfl, HN.out⟩, rfl⟩

set_option maxRecDepth 100000 in
theorem contains_any (l : List Int) (n : Int) (v : Value) (w : World) (h : IsC w v l) (hl : l.length < 2 ^ 62) :
    Calls Tryd.prog 109 #[v, .int .i64 n] w fun e w' => e = .returned (.bool (decide (n ∈ l))) ∧ w' = w := by
  go_enter Tryd.func109, Tryd.ntmps109
  go_wp2_with fail
  refine (index_any l n v w h hl).mono ?_
  rintro e w' ⟨h1, rfl⟩
  rcases h1 with ⟨k, rfl, hk, hm⟩ | ⟨rfl, hm⟩
  · have hd : decide (n ∈ l) = true := by simp [hm]
    have HD : Hid (decide (n ∈ l) = true) := hd
    clear hd hm
    go_wp2
    go_ret
    exact ⟨by rw [HD.out]; rfl, rfl⟩
  · have hd : decide (n ∈ l) = false := by simp [hm]
    have HD : Hid (decide (n ∈ l) = false) := hd
    clear hd hm
    go_wp2
    go_ret
    exact ⟨by rw [HD.out]; rfl, rfl⟩

def okSize (n : Int) : Bool := decide (0 ≤ n ∧ n ≤ 400)
theorem okSize_yes (n : Int) (h : 0 ≤ n ∧ n ≤ 400) : okSize n = true := by simp [okSize]; omega
theorem okSize_no (n : Int) (h : ¬ (0 ≤ n ∧ n ≤ 400)) : okSize n = false := by simp [okSize]; omega
theorem isSize_any (n : Int) (w : World) : Calls Tryd.prog 86 #[.int .i64 n] w fun e w' => e = .returned (.bool (okSize n)) ∧ w' = w := by
  by_cases h1 : 0 ≤ n
  · by_cases h2 : n ≤ 400
    · rw [okSize_yes n ⟨h1, h2⟩]
      go_enter Tryd.func86, Tryd.ntmps86
      go_wp2
      go_ret
      exact ⟨rfl, rfl⟩
    · rw [okSize_no n (by omega)]
      go_enter Tryd.func86, Tryd.ntmps86
      go_wp2
      go_ret
      exact ⟨rfl, rfl⟩
  · rw [okSize_no n (by omega)]
    go_enter Tryd.func86, Tryd.ntmps86
    go_wp2
    go_ret
    exact ⟨rfl, rfl⟩

def okWithin (n at_ : Int) (m : Nat) : Bool := decide (0 ≤ at_ ∧ at_ + m ≤ n)
theorem isWithin_any (n : Nat) (hn : n ≤ 400) (at_ : Int) (h2 : at_ ≤ 9223372036854775807) (text : ByteArray) (hlen : text.size ≤ maxLen) (w : World) :
    Calls Tryd.prog 93 #[.int .i64 n, .int .i64 at_, .string text] w fun e w' => e = .returned (.bool (okWithin n at_ text.size)) ∧ w' = w := by
  unfold maxLen at hlen
  by_cases h1 : 0 ≤ at_
  · by_cases h3 : (text.size : Int) ≤ n - at_
    · have : okWithin n at_ text.size = true := by simp [okWithin]; omega
      rw [this]
      go_enter Tryd.func93, Tryd.ntmps93
      go_wp2
      go_ret
      exact ⟨rfl, rfl⟩
    · have : okWithin n at_ text.size = false := by simp [okWithin]; omega
      rw [this]
      go_enter Tryd.func93, Tryd.ntmps93
      go_wp2
      go_ret
      exact ⟨rfl, rfl⟩
  · have : okWithin n at_ text.size = false := by simp [okWithin]; omega
    rw [this]
    go_enter Tryd.func93, Tryd.ntmps93
    go_wp2
    go_ret
    exact ⟨rfl, rfl⟩

def NumsOk (N : Nat) (lost : List Int) : Prop := ∀ k, (h : k < lost.length) → 0 ≤ lost[k] ∧ lost[k] < (N : Int) ∧ lost[k] ∉ lost.take k
def NumsOkTo (N : Nat) (lost : List Int) (m : Nat) : Prop := ∀ k, (h : k < lost.length) → k < m → 0 ≤ lost[k] ∧ lost[k] < (N : Int) ∧ lost[k] ∉ lost.take k
set_option maxRecDepth 100000 in
set_option maxHeartbeats 4000000 in
theorem areNumbers_any (N : Nat) (_hN : N ≤ 100) (lost : List Int) (lv : Value) (w : World) (hl : IsC w lv lost) (hll : lost.length < 2 ^ 62) :
    Calls Tryd.prog 87 #[lv, .int .i64 N] w fun e w' => Says (NumsOk N lost) e ∧ w' = w := by
  have HL : Hid (IsC w lv lost) := hl
  obtain ⟨lao, lex, rfl, hlc⟩ := hl
  have HLC : Hid (lost = [] ∨ ∃ b off, lao = some ⟨b, off, none⟩ ∧ b < w.heap.size ∧ ∀ k, (h : k < lost.length) → w.cell? ⟨b, off + k, none⟩ = some (.int .i64 lost[k])) := hlc
  clear hlc
  go_enter Tryd.func87, Tryd.ntmps87
  go_wp2
  go_loop [9] (fun i => ∃ k : Nat, k ≤ lost.length ∧ i = .int .i64 k ∧ NumsOkTo N lost k) (fun i => lost.length - (intOf i).toNat)
  case atStart => exact ⟨0, Nat.zero_le _, rfl, fun j _ hj => by omega⟩
  case round =>
    obtain ⟨k, hk, rfl, hdone⟩ := hrel
    by_cases hlt : k < lost.length
    · obtain ⟨b, off, rfl, hb, hc⟩ : ∃ b off, lao = some ⟨b, off, none⟩ ∧ b < w.heap.size ∧ ∀ k, (h : k < lost.length) → w.cell? ⟨b, off + k, none⟩ = some (.int .i64 lost[k]) := by
        rcases HLC.out with h | h
        · rw [h] at hlt; simp at hlt
        · exact h
      have c1 := hc k hlt
      have HD : Hid (NumsOkTo N lost k) := hdone
      have HT : Hid (IsC w (.slice (some ⟨b, off, none⟩) k (lost.length + lex)) (lost.take k)) := HL.out.take (by omega)
      have HLK : Hid ((lost.take k).length < 2 ^ 62) := by show _ < _; rw [List.length_take]; omega
      obtain ⟨x, hx⟩ : ∃ x, x = lost[k] := ⟨_, rfl⟩
      rw [← hx] at c1
      have HX : Hid (x = lost[k]) := hx
      clear hx hc hdone
      by_cases h0 : 0 ≤ x
      · by_cases h1 : x < (N : Int)
        · by_cases h2 : x ∈ lost.take k
          · have hd2 : decide (x ∈ lost.take k) = true := by simp [h2]
            have HM : Hid (x ∈ lost.take k) := h2
            have HD2 : Hid (decide (x ∈ lost.take k) = true) := hd2
            clear h2 hd2
            go_wp2_with (go_at_call 109; refine (contains_any _ _ _ _ HT.out HLK.out).mono ?_; rintro e w' ⟨rfl, rfl⟩; rw [HD2.out])
            go_ret
            refine ⟨Says.no rfl fun h => ?_, rfl⟩
            have := (h k hlt).2.2
            rw [← HX.out] at this
            exact this HM.out
          · have hd2 : decide (x ∈ lost.take k) = false := by simp [h2]
            have HM : Hid (NumsOkTo N lost (k + 1)) := fun j hj hjk => by
              by_cases e : j = k
              · subst e; rw [← HX.out]; exact ⟨h0, h1, h2⟩
              · exact HD.out j hj (by omega)
            have HD2 : Hid (decide (x ∈ lost.take k) = false) := hd2
            clear h2 hd2
            go_wp2_with (go_at_call 109; refine (contains_any _ _ _ _ HT.out HLK.out).mono ?_; rintro e w' ⟨rfl, rfl⟩; rw [HD2.out])
            go_round
            case rel => exact ⟨k + 1, by omega, by go_num, HM.out⟩
            case measure => simp [intOf]; omega
        · have h1' : (N : Int) ≤ x := by omega
          go_wp2
          go_ret
          refine ⟨Says.no rfl fun h => ?_, rfl⟩
          have := (h k hlt).2.1
          rw [← HX.out] at this
          omega
      · have h0' : x < 0 := by omega
        go_wp2
        go_ret
        refine ⟨Says.no rfl fun h => ?_, rfl⟩
        have := (h k hlt).1
        rw [← HX.out] at this
        omega
    · obtain rfl : k = lost.length := by omega
      have HD : Hid (NumsOkTo N lost lost.length) := hdone
      clear hdone
      go_wp2
      go_ret
      exact ⟨Says.yes rfl fun j hj => HD.out j hj hj, rfl⟩

/-- The pieces that are not lost have L bytes. -/
def SizesOk (L : Nat) (pieces : List ByteArray) (lost : List Int) : Prop := ∀ p, (h : p < pieces.length) → (p : Int) ∉ lost → pieces[p].size = L
set_option maxRecDepth 100000 in
set_option maxHeartbeats 4000000 in
theorem goTogether_any (d s n L : Nat) (pieces : List ByteArray) (lost : List Int) (pv lv : Value) (w : World) (hp : StrsAt w pv pieces) (hl : IsC w lv lost) (hll : lost.length < 2 ^ 62) (hpl : pieces.length < 2 ^ 62)
    (hd : 1 ≤ d) (hd2 : d ≤ 10) (hs : s ≤ 6) (hn : n ≤ 400) (hL : L = (n + d - 1) / d) (hsz : ∀ p, (h : p < pieces.length) → pieces[p].size < 2 ^ 62) :
    Calls Tryd.prog 88 #[.int .i64 d, .int .i64 s, .int .i64 n, pv, lv] w fun e w' => Says (pieces.length = d + s ∧ SizesOk L pieces lost) e ∧ w' = w := by
  obtain ⟨pao, pcap, rfl, hpc⟩ := hp
  have HL : Hid (IsC w lv lost) := hl
  have HPC : Hid (pieces = [] ∨ ∃ b off, pao = some ⟨b, off, none⟩ ∧ b < w.heap.size ∧ ∀ k, (h : k < pieces.length) → w.cell? ⟨b, off + k, none⟩ = some (.string pieces[k])) := hpc
  have HSZ : Hid (∀ p, (h : p < pieces.length) → pieces[p].size < 2 ^ 62) := hsz
  have hLc : L ≤ 400 := by
    rw [hL]; exact Nat.le_trans (Nat.div_le_div_right (by omega : n + d - 1 ≤ n + d - 1)) (by
      have := ceil_le n d hd
      omega)
  clear hpc hsz hl
  by_cases hcnt : pieces.length = d + s
  · have hne : ((pieces.length : Int) != (d : Int) + (s : Int)) = false := by simp; omega
    have HCN : Hid (pieces.length = d + s) := hcnt
    clear hcnt
    go_enter Tryd.func88, Tryd.ntmps88
    go_wp2_with fail
    refine (length_any d n (by omega) (by omega) (by omega) w).mono ?_
    rintro e w' ⟨rfl, rfl⟩
    rw [← hL]
    clear hL
    go_wp2
    go_loop [25] (fun i => ∃ k : Nat, k ≤ pieces.length ∧ i = .int .i64 k ∧ SizesTo L pieces lost k) (fun i => pieces.length - (intOf i).toNat)
    case atStart => exact ⟨0, Nat.zero_le _, rfl, fun j _ hj => by omega⟩
    case round =>
      obtain ⟨k, hk, rfl, hdone⟩ := hrel
      by_cases hlt : k < pieces.length
      · obtain ⟨b, off, rfl, hb, hc⟩ : ∃ b off, pao = some ⟨b, off, none⟩ ∧ b < w'.heap.size ∧ ∀ k, (h : k < pieces.length) → w'.cell? ⟨b, off + k, none⟩ = some (.string pieces[k]) := by
          rcases HPC.out with h | h
          · rw [h] at hlt; simp at hlt
          · exact h
        have c1 := hc k hlt
        have HD : Hid (SizesTo L pieces lost k) := hdone
        have hz := HSZ.out k hlt
        clear hc hdone
        by_cases h0 : pieces[k].size = L
        · have HM : Hid (SizesTo L pieces lost (k + 1)) := fun j hj hjk hjl => by
            by_cases e : j = k
            · subst e; exact h0
            · exact HD.out j hj (by omega) hjl
          have h0' : ((pieces[k].size : Int) != (L : Int)) = false := by simp; omega
          clear h0
          generalize pieces[k] = pk at c1 h0' hz
          go_wp2
          go_round
          case rel => exact ⟨k + 1, by omega, by go_num, HM.out⟩
          case measure => simp [intOf]; omega
        · have h0' : ((pieces[k].size : Int) != (L : Int)) = true := by simp; omega
          by_cases h2 : ((k : Nat) : Int) ∈ lost
          · have HD2 : Hid (decide (((k : Nat) : Int) ∈ lost) = true) := decide_eq_true h2
            have HM : Hid (SizesTo L pieces lost (k + 1)) := fun j hj hjk hjl => by
              by_cases e : j = k
              · subst e; exact absurd h2 hjl
              · exact HD.out j hj (by omega) hjl
            clear h2 h0
            generalize pieces[k] = pk at c1 h0' hz
            go_wp2_with (go_at_call 109; refine (contains_any _ _ _ _ HL.out hll).mono ?_; rintro e w' ⟨rfl, rfl⟩; rw [HD2.out])
            go_round
            case rel => exact ⟨k + 1, by omega, by go_num, HM.out⟩
            case measure => simp [intOf]; omega
          · have HD2 : Hid (decide (((k : Nat) : Int) ∈ lost) = false) := decide_eq_false h2
            have HNO : Hid (¬ (pieces.length = d + s ∧ SizesOk L pieces lost)) := fun h => h0 (h.2 k hlt h2)
            clear h2 h0
            generalize pieces[k] = pk at c1 h0' hz
            go_wp2_with (go_at_call 109; refine (contains_any _ _ _ _ HL.out hll).mono ?_; rintro e w' ⟨rfl, rfl⟩; rw [HD2.out])
            go_ret
            exact ⟨Says.no rfl HNO.out, rfl⟩
      · obtain rfl : k = pieces.length := by omega
        have HD : Hid (SizesTo L pieces lost pieces.length) := hdone
        clear hdone
        go_wp2
        go_ret
        exact ⟨Says.yes rfl ⟨HCN.out, fun j hj hjl => HD.out j hj hj hjl⟩, rfl⟩
  · have hne : ((pieces.length : Int) != (d : Int) + (s : Int)) = true := by simp; omega
    have HNO : Hid (¬ (pieces.length = d + s ∧ SizesOk L pieces lost)) := fun h => hcnt h.1
    clear hcnt
    go_enter Tryd.func88, Tryd.ntmps88
    go_wp2
    go_ret
    exact ⟨Says.no rfl HNO.out, rfl⟩
end Go.Proofs.YtokmllopbfmadaaDoor.Ref
