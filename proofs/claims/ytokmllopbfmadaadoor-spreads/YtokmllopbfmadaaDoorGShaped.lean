import Derived.Deep.QuietTactic
import Derived.BigQuiet
import Derived.Test.YtokmllopbfmadaaDoorGConcat
import Derived.Test.YtokmllopbfmadaaDoorGPInv
import Derived.Test.YtokmllopbfmadaaDoorGMem
namespace Go.Proofs.YtokmllopbfmadaaDoor.Ref
open Go.RowKit Mem FieldWalks Tab ByTab Parts
open Gf (Bytes sumTo addTo)

def Drew (w w' : World) : Prop := ∃ m, w' = w.drewN m
theorem Drew.below {w w' : World} (h : Drew w w') : Below w.heap.size w w' := by
  obtain ⟨m, rfl⟩ := h
  exact below_drewN (Below.refl _ _) _
theorem Drew.cell {w w' : World} (h : Drew w w') (p : Addr) : w'.cell? p = w.cell? p := by
  obtain ⟨m, rfl⟩ := h; rfl
theorem Drew.more {w w' : World} (h : Drew w w') (n : Nat) : Drew w (w'.drewN n) := by
  obtain ⟨m, rfl⟩ := h; exact ⟨m + n, World.drewN_drewN _ _ _⟩
theorem Drew.isC {w w' : World} (h : Drew w w') {v : Value} {l : List Int} (k : IsC w v l) : IsC w' v l := k.to h.below
/-- The call says whether it is so. -/
def Says (P : Prop) (e : Ending) : Prop := ∃ b : Bool, e = .returned (.bool b) ∧ (b = true ↔ P)
theorem Says.yes {P : Prop} {e : Ending} (he : e = .returned (.bool true)) (h : P) : Says P e := ⟨true, he, fun _ => h, fun _ => rfl⟩
theorem Says.no {P : Prop} {e : Ending} (he : e = .returned (.bool false)) (h : ¬ P) : Says P e := ⟨false, he, fun h => (by cases h), fun k => absurd k h⟩
/-- The first k lost numbers are as they must be. -/
def NumsTo (d s : Nat) (lost : List Int) (k : Nat) : Prop := ∀ j, (h : j < lost.length) → j < k → 0 ≤ lost[j] ∧ lost[j] < (d + s : Nat) ∧ lost[j] ∉ lost.take j
def SizesTo (L : Nat) (pieces : List ByteArray) (lost : List Int) (k : Nat) : Prop := ∀ p, (h : p < pieces.length) → p < k → (p : Int) ∉ lost → pieces[p].size = L

set_option maxRecDepth 100000 in
set_option maxHeartbeats 4000000 in
theorem shaped_any (d s n L : Nat) (pieces : List ByteArray) (lost : List Int) (pv lv : Value) (w : World) (hp : StrsAt w pv pieces) (hl : IsC w lv lost) (hll : lost.length < 2 ^ 62) (hpl : pieces.length < 2 ^ 62)
    (hd : 1 ≤ d) (hd2 : d ≤ 10) (hs : s ≤ 6) (hn : n ≤ 400) (hL : L = (n + d - 1) / d) (hsz : ∀ p, (h : p < pieces.length) → pieces[p].size < 2 ^ 62) :
    Calls Tryd.prog 91 #[.int .i64 d, .int .i64 s, .int .i64 n, pv, lv] w fun e w' => Says (ShapeOk d s L pieces lost) e ∧ Drew w w' := by
  obtain ⟨pao, pcap, rfl, hpc⟩ := hp
  have HL : Hid (IsC w lv lost) := hl
  obtain ⟨lao, lex, rfl, hlc⟩ := hl
  have HPC : Hid (pieces = [] ∨ ∃ b off, pao = some ⟨b, off, none⟩ ∧ b < w.heap.size ∧ ∀ k, (h : k < pieces.length) → w.cell? ⟨b, off + k, none⟩ = some (.string pieces[k])) := hpc
  have HLC : Hid (lost = [] ∨ ∃ b off, lao = some ⟨b, off, none⟩ ∧ b < w.heap.size ∧ ∀ k, (h : k < lost.length) → w.cell? ⟨b, off + k, none⟩ = some (.int .i64 lost[k])) := hlc
  have HEL : Hid (L = (n + d - 1) / d) := hL
  have HSZ : Hid (∀ p, (h : p < pieces.length) → pieces[p].size < 2 ^ 62) := hsz
  clear hpc hlc hL hsz
  by_cases hcnt : pieces.length = d + s
  · have hne : ((pieces.length : Int) != (d : Int) + (s : Int)) = false := by simp; omega
    have HCN : Hid (pieces.length = d + s) := hcnt
    clear hcnt
    go_enter Tryd.func91, Tryd.ntmps91
    go_wp2
    go_loopw [11] (fun i wr => ∃ k : Nat, k ≤ lost.length ∧ i = .int .i64 k ∧ Drew w wr ∧ NumsTo d s lost k) (fun i _ => lost.length - (intOf i).toNat)
    case atStart => exact ⟨0, Nat.zero_le _, rfl, ⟨0, rfl⟩, fun j _ hj => by omega⟩
    case round =>
      obtain ⟨k, hk, rfl, ⟨m, rfl⟩, hdone⟩ := hrel
      by_cases hlt : k < lost.length
      · obtain ⟨b, off, rfl, hb, hc⟩ : ∃ b off, lao = some ⟨b, off, none⟩ ∧ b < w.heap.size ∧ ∀ k, (h : k < lost.length) → w.cell? ⟨b, off + k, none⟩ = some (.int .i64 lost[k]) := by
          rcases HLC.out with h | h
          · rw [h] at hlt; simp at hlt
          · exact h
        have c1 := hc k hlt
        have HD : Hid (NumsTo d s lost k) := hdone
        have HT : Hid (IsC w (.slice (some ⟨b, off, none⟩) k (lost.length + lex)) (lost.take k)) := HL.out.take (by omega)
        have HLK : Hid ((lost.take k).length < 2 ^ 62) := by show _ < _; rw [List.length_take]; omega
        obtain ⟨x, hx⟩ : ∃ x, x = lost[k] := ⟨_, rfl⟩
        rw [← hx] at c1
        have HX : Hid (x = lost[k]) := hx
        obtain ⟨tw, htw⟩ : ∃ tw : Bool, tw = decide (x ∈ lost.take k) := ⟨_, rfl⟩
        have HTW : Hid (tw = decide (x ∈ lost.take k)) := htw
        have z1 : (0 : Int) ≤ (k : Int) := by omega
        have z2 : (k : Int) ≤ ((lost.length + lex : Nat) : Int) := by omega
        have z2' : (k : Int) ≤ (lost.length : Int) + (lex : Int) := by omega
        have z3 : ¬ lost.length + lex = 0 := by omega
        have z4 : (0 : Int) ≤ max (k : Int) 0 := by omega
        clear hc hdone htw hx
        go_wp2_with fail
        go_region_with (go_at_call 113; refine (within_any (lost.take k) x _ _ (by exact HT.out) HLK.out).mono ?_; rintro e w2 ⟨rfl, rfl⟩; rw [← HTW.out])
        all_goals
          by_cases h1 : x < 0
          · have h1' : decide (x < 0) = true := by simp [h1]
            go_wp2
            go_ret
            refine ⟨Says.no rfl fun h => absurd (h.nums k hlt).1 ?_, _, rfl⟩
            rw [← HX.out]; omega
          · have h1' : decide (x < 0) = false := by simp [h1]
            by_cases h2 : x < (d : Int) + (s : Int)
            · have h2' : decide ((d : Int) + (s : Int) ≤ x) = false := by simp; omega
              cases tw
              · have HN : Hid (NumsTo d s lost (k + 1)) := by
                  intro j h hj
                  by_cases e : j = k
                  · subst e
                    rw [← HX.out]
                    refine ⟨by omega, by omega, ?_⟩
                    have := HTW.out
                    simpa using this
                  · exact HD.out j h (by omega)
                go_wp2
                go_roundw
                case rel => exact ⟨k + 1, by omega, by go_num, ⟨_, rfl⟩, HN.out⟩
                case measure => simp [intOf]; omega
              · go_wp2
                go_ret
                refine ⟨Says.no rfl fun h => absurd ?_ (h.nums k hlt).2.2, _, rfl⟩
                rw [← HX.out]
                have := HTW.out
                simpa using this.symm
            · have h2' : decide ((d : Int) + (s : Int) ≤ x) = true := by simp; omega
              go_wp2
              go_ret
              refine ⟨Says.no rfl fun h => absurd (h.nums k hlt).2.1 ?_, _, rfl⟩
              rw [← HX.out]; omega
      · obtain rfl : k = lost.length := by omega
        have HD : Hid (NumsTo d s lost lost.length) := hdone
        clear hdone
        go_wp2
        go_loopw [13] (fun i wr => ∃ k : Nat, k ≤ d + s ∧ i = .int .i64 k ∧ Drew w wr ∧ SizesTo L pieces lost k) (fun i _ => d + s - (intOf i).toNat)
        case atStart => exact ⟨0, Nat.zero_le _, rfl, ⟨m, rfl⟩, fun j _ hj => by omega⟩
        case round =>
          obtain ⟨k, hk, rfl, hdr, hdone⟩ := hrel
          by_cases hlt : k < d + s
          · obtain ⟨b, off, rfl, hb, hc⟩ : ∃ b off, pao = some ⟨b, off, none⟩ ∧ b < w.heap.size ∧ ∀ k, (h : k < pieces.length) → w.cell? ⟨b, off + k, none⟩ = some (.string pieces[k]) := by
              rcases HPC.out with h | h
              · have := HCN.out; rw [h] at this; simp at this; omega
              · exact h
            have hkp : k < pieces.length := by have := HCN.out; omega
            have c1 := hc k hkp
            rw [← hdr.cell] at c1
            have HDR : Hid (Drew w wr) := hdr
            have HLW : Hid (IsC wr (.slice lao lost.length (lost.length + lex)) lost) := hdr.isC HL.out
            have hzz := HSZ.out k hkp
            have HPS : Hid (SizesTo L pieces lost k) := hdone
            obtain ⟨x, hx⟩ : ∃ x, x = pieces[k]'hkp := ⟨_, rfl⟩
            rw [← hx] at c1 hzz
            have HX : Hid (x = pieces[k]'hkp) := hx
            obtain ⟨gn, hgn⟩ : ∃ gn : Bool, gn = decide ((k : Int) ∈ lost) := ⟨_, rfl⟩
            have HGN : Hid (gn = decide ((k : Int) ∈ lost)) := hgn
            clear hc hx hgn hdone hdr
            go_wp2_with fail
            refine (within_any lost k _ _ (by exact HLW.out) hll).mono ?_
            rintro e w2 ⟨rfl, rfl⟩
            rw [← HGN.out]
            cases gn
            · obtain ⟨nb, hnb⟩ : ∃ nb : Bool, ((x.size : Int) != ((L : Nat) : Int)) = nb := ⟨_, rfl⟩
              have HSI : Hid (∀ W : World, Calls Tryd.prog 84 #[.int .i64 d, .int .i64 n] W fun e w' => e = .returned (.int .i64 (L : Nat)) ∧ w' = W) := by
                intro W
                rw [HEL.out]
                exact size_any d n (by omega) (by omega) (by omega) W
              have hki : (k : Int) < (pieces.length : Int) := by omega
              go_wp2_with fail
              go_quiet ((go_at_call 84; exact Calls.quiet_of_same (HSI.out _)))
              all_goals
                have HNB : Hid (((x.size : Int) != ((L : Nat) : Int)) = nb) := hnb
                clear hnb
                cases nb
                · have HN : Hid (SizesTo L pieces lost (k + 1)) := by
                    intro p h hp hno
                    by_cases e : p = k
                    · subst e; rw [← HX.out]; have := HNB.out; simp at this; omega
                    · exact HPS.out p h (by omega) hno
                  go_wp2
                  go_roundw
                  case rel => exact ⟨k + 1, by omega, by go_num, HDR.out.more _, HN.out⟩
                  case measure => simp [intOf]; omega
                · go_wp2
                  go_ret
                  refine ⟨Says.no rfl fun h => absurd (h.sizes k hkp ?_) ?_, HDR.out.more _⟩
                  · have := HGN.out; simpa using this
                  · rw [← HX.out]; have := HNB.out; simp at this; omega
            · have HN : Hid (SizesTo L pieces lost (k + 1)) := by
                intro p h hp hno
                by_cases e : p = k
                · subst e
                  have := HGN.out
                  exact absurd (by simpa using this) hno
                · exact HPS.out p h (by omega) hno
              go_wp2_with fail
              go_quiet (fail)
              all_goals
                go_wp2
                go_roundw
                case rel => exact ⟨k + 1, by omega, by go_num, HDR.out.more _, HN.out⟩
                case measure => simp [intOf]; omega
          · obtain rfl : k = d + s := by omega
            go_wp2
            go_ret
            exact ⟨Says.yes rfl ⟨HCN.out, fun j h => HD.out j h h, fun p h hno => hdone p h (by have := HCN.out; omega) hno⟩, hdr⟩
  · have hne : ((pieces.length : Int) != (d : Int) + (s : Int)) = true := by simp; omega
    go_enter Tryd.func91, Tryd.ntmps91
    go_wp2
    go_ret
    exact ⟨Says.no rfl fun h => absurd h.count hcnt, 0, rfl⟩
end Go.Proofs.YtokmllopbfmadaaDoor.Ref

namespace Go.Proofs.YtokmllopbfmadaaDoor.Ref
open Go.RowKit Mem FieldWalks Tab ByTab Parts

set_option maxRecDepth 100000 in
theorem index_any (l : List Int) (n : Int) (v : Value) (w : World) (h : IsC w v l) (hl : l.length < 2 ^ 62) :
    Calls Tryd.prog 135 #[v, .int .i64 n] w fun e w' => ((∃ k : Nat, e = .returned (.int .i64 k) ∧ k < l.length ∧ n ∈ l) ∨ (e = .returned (.int .i64 (-1)) ∧ n ∉ l)) ∧ w' = w := by
  obtain ⟨ao, ex, rfl, hc⟩ := h
  have HC : Hid (l = [] ∨ ∃ b off, ao = some ⟨b, off, none⟩ ∧ b < w.heap.size ∧ ∀ k, (h : k < l.length) → w.cell? ⟨b, off + k, none⟩ = some (.int .i64 l[k])) := hc
  clear hc
  go_enter Tryd.func135, Tryd.ntmps135
  go_wp2
  go_loop [8] (fun i => ∃ k : Nat, k ≤ l.length ∧ i = .int .i64 k ∧ n ∉ l.take k) (fun i => l.length - (intOf i).toNat)
  case atStart => exact ⟨0, Nat.zero_le _, rfl, by simp⟩
  case round =>
    obtain ⟨k, hk, rfl, hn⟩ := hrel
    by_cases hlt : k < l.length
    · obtain ⟨b, off, rfl, hb, hc⟩ : ∃ b off, ao = some ⟨b, off, none⟩ ∧ b < w.heap.size ∧ ∀ k, (h : k < l.length) → w.cell? ⟨b, off + k, none⟩ = some (.int .i64 l[k]) := by
        rcases HC.out with h | h
        · rw [h] at hlt; simp at hlt
        · exact h
      have c1 := hc k hlt
      have HN : Hid (n ∉ l.take k) := hn
      clear hc hn
      by_cases e : l[k] = n
      · have HM : Hid (n ∈ l) := e ▸ List.getElem_mem hlt
        rw [e] at c1
        clear e
        go_wp2
        go_ret
        exact ⟨.inl ⟨k, rfl, hlt, HM.out⟩, rfl⟩
      · have HX : Hid (n ∉ l.take (k + 1)) := not_take_next HN.out hlt e
        have he : (n == l[k]) = false := by simp; exact fun h => e h.symm
        generalize l[k] = x at c1 he
        clear e
        go_wp2
        go_round
        case rel => exact ⟨k + 1, by omega, by go_num, HX.out⟩
        case measure => simp [intOf]; omega
    · obtain rfl : k = l.length := by omega
      rw [List.take_length] at hn
      have HN : Hid (n ∉ l) := hn
      clear hn
      go_wp2
      go_ret
      exact ⟨.inr ⟨rfl, HN.out⟩, rfl⟩

set_option maxRecDepth 100000 in
theorem contains_any (l : List Int) (n : Int) (v : Value) (w : World) (h : IsC w v l) (hl : l.length < 2 ^ 62) :
    Calls Tryd.prog 109 #[v, .int .i64 n] w fun e w' => e = .returned (.bool (decide (n ∈ l))) ∧ w' = w := by
  go_enter Tryd.func109, Tryd.ntmps109
  go_wp2_with fail
  refine (index_any l n v w h hl).mono ?_
  rintro e w' ⟨h1, rfl⟩
  rcases h1 with ⟨k, rfl, hk, hm⟩ | ⟨rfl, hm⟩
  · have hd : decide (n ∈ l) = true := by simp [hm]
    have HD : Hid (decide (n ∈ l) = true) := hd
    clear hd hm
    go_wp2
    go_ret
    exact ⟨by rw [HD.out]; rfl, rfl⟩
  · have hd : decide (n ∈ l) = false := by simp [hm]
    have HD : Hid (decide (n ∈ l) = false) := hd
    clear hd hm
    go_wp2
    go_ret
    exact ⟨by rw [HD.out]; rfl, rfl⟩

def okSize (n : Int) : Bool := decide (0 ≤ n ∧ n ≤ 400)
theorem okSize_yes (n : Int) (h : 0 ≤ n ∧ n ≤ 400) : okSize n = true := by simp [okSize]; omega
theorem okSize_no (n : Int) (h : ¬ (0 ≤ n ∧ n ≤ 400)) : okSize n = false := by simp [okSize]; omega
theorem isSize_any (n : Int) (w : World) : Calls Tryd.prog 86 #[.int .i64 n] w fun e w' => e = .returned (.bool (okSize n)) ∧ w' = w := by
  by_cases h1 : 0 ≤ n
  · by_cases h2 : n ≤ 400
    · rw [okSize_yes n ⟨h1, h2⟩]
      go_enter Tryd.func86, Tryd.ntmps86
      go_wp2
      go_ret
      exact ⟨rfl, rfl⟩
    · rw [okSize_no n (by omega)]
      go_enter Tryd.func86, Tryd.ntmps86
      go_wp2
      go_ret
      exact ⟨rfl, rfl⟩
  · rw [okSize_no n (by omega)]
    go_enter Tryd.func86, Tryd.ntmps86
    go_wp2
    go_ret
    exact ⟨rfl, rfl⟩

def okWithin (n at_ : Int) (m : Nat) : Bool := decide (0 ≤ at_ ∧ at_ + m ≤ n)
theorem isWithin_any (n : Nat) (hn : n ≤ 400) (at_ : Int) (h2 : at_ ≤ 9223372036854775807) (text : ByteArray) (hlen : text.size ≤ maxLen) (w : World) :
    Calls Tryd.prog 93 #[.int .i64 n, .int .i64 at_, .string text] w fun e w' => e = .returned (.bool (okWithin n at_ text.size)) ∧ w' = w := by
  unfold maxLen at hlen
  by_cases h1 : 0 ≤ at_
  · by_cases h3 : (text.size : Int) ≤ n - at_
    · have : okWithin n at_ text.size = true := by simp [okWithin]; omega
      rw [this]
      go_enter Tryd.func93, Tryd.ntmps93
      go_wp2
      go_ret
      exact ⟨rfl, rfl⟩
    · have : okWithin n at_ text.size = false := by simp [okWithin]; omega
      rw [this]
      go_enter Tryd.func93, Tryd.ntmps93
      go_wp2
      go_ret
      exact ⟨rfl, rfl⟩
  · have : okWithin n at_ text.size = false := by simp [okWithin]; omega
    rw [this]
    go_enter Tryd.func93, Tryd.ntmps93
    go_wp2
    go_ret
    exact ⟨rfl, rfl⟩

def NumsOk (N : Nat) (lost : List Int) : Prop := ∀ k, (h : k < lost.length) → 0 ≤ lost[k] ∧ lost[k] < (N : Int) ∧ lost[k] ∉ lost.take k
def NumsOkTo (N : Nat) (lost : List Int) (m : Nat) : Prop := ∀ k, (h : k < lost.length) → k < m → 0 ≤ lost[k] ∧ lost[k] < (N : Int) ∧ lost[k] ∉ lost.take k
set_option maxRecDepth 100000 in
set_option maxHeartbeats 4000000 in
theorem areNumbers_any (N : Nat) (_hN : N ≤ 100) (lost : List Int) (lv : Value) (w : World) (hl : IsC w lv lost) (hll : lost.length < 2 ^ 62) :
    Calls Tryd.prog 87 #[lv, .int .i64 N] w fun e w' => Says (NumsOk N lost) e ∧ w' = w := by
  have HL : Hid (IsC w lv lost) := hl
  obtain ⟨lao, lex, rfl, hlc⟩ := hl
  have HLC : Hid (lost = [] ∨ ∃ b off, lao = some ⟨b, off, none⟩ ∧ b < w.heap.size ∧ ∀ k, (h : k < lost.length) → w.cell? ⟨b, off + k, none⟩ = some (.int .i64 lost[k])) := hlc
  clear hlc
  go_enter Tryd.func87, Tryd.ntmps87
  go_wp2
  go_loop [9] (fun i => ∃ k : Nat, k ≤ lost.length ∧ i = .int .i64 k ∧ NumsOkTo N lost k) (fun i => lost.length - (intOf i).toNat)
  case atStart => exact ⟨0, Nat.zero_le _, rfl, fun j _ hj => by omega⟩
  case round =>
    obtain ⟨k, hk, rfl, hdone⟩ := hrel
    by_cases hlt : k < lost.length
    · obtain ⟨b, off, rfl, hb, hc⟩ : ∃ b off, lao = some ⟨b, off, none⟩ ∧ b < w.heap.size ∧ ∀ k, (h : k < lost.length) → w.cell? ⟨b, off + k, none⟩ = some (.int .i64 lost[k]) := by
        rcases HLC.out with h | h
        · rw [h] at hlt; simp at hlt
        · exact h
      have c1 := hc k hlt
      have HD : Hid (NumsOkTo N lost k) := hdone
      have HT : Hid (IsC w (.slice (some ⟨b, off, none⟩) k (lost.length + lex)) (lost.take k)) := HL.out.take (by omega)
      have HLK : Hid ((lost.take k).length < 2 ^ 62) := by show _ < _; rw [List.length_take]; omega
      obtain ⟨x, hx⟩ : ∃ x, x = lost[k] := ⟨_, rfl⟩
      rw [← hx] at c1
      have HX : Hid (x = lost[k]) := hx
      clear hx hc hdone
      by_cases h0 : 0 ≤ x
      · by_cases h1 : x < (N : Int)
        · by_cases h2 : x ∈ lost.take k
          · have hd2 : decide (x ∈ lost.take k) = true := by simp [h2]
            have HM : Hid (x ∈ lost.take k) := h2
            have HD2 : Hid (decide (x ∈ lost.take k) = true) := hd2
            clear h2 hd2
            go_wp2_with (go_at_call 109; refine (contains_any _ _ _ _ HT.out HLK.out).mono ?_; rintro e w' ⟨rfl, rfl⟩; rw [HD2.out])
            go_ret
            refine ⟨Says.no rfl fun h => ?_, rfl⟩
            have := (h k hlt).2.2
            rw [← HX.out] at this
            exact this HM.out
          · have hd2 : decide (x ∈ lost.take k) = false := by simp [h2]
            have HM : Hid (NumsOkTo N lost (k + 1)) := fun j hj hjk => by
              by_cases e : j = k
              · subst e; rw [← HX.out]; exact ⟨h0, h1, h2⟩
              · exact HD.out j hj (by omega)
            have HD2 : Hid (decide (x ∈ lost.take k) = false) := hd2
            clear h2 hd2
            go_wp2_with (go_at_call 109; refine (contains_any _ _ _ _ HT.out HLK.out).mono ?_; rintro e w' ⟨rfl, rfl⟩; rw [HD2.out])
            go_round
            case rel => exact ⟨k + 1, by omega, by go_num, HM.out⟩
            case measure => simp [intOf]; omega
        · have h1' : (N : Int) ≤ x := by omega
          go_wp2
          go_ret
          refine ⟨Says.no rfl fun h => ?_, rfl⟩
          have := (h k hlt).2.1
          rw [← HX.out] at this
          omega
      · have h0' : x < 0 := by omega
        go_wp2
        go_ret
        refine ⟨Says.no rfl fun h => ?_, rfl⟩
        have := (h k hlt).1
        rw [← HX.out] at this
        omega
    · obtain rfl : k = lost.length := by omega
      have HD : Hid (NumsOkTo N lost lost.length) := hdone
      clear hdone
      go_wp2
      go_ret
      exact ⟨Says.yes rfl fun j hj => HD.out j hj hj, rfl⟩

/-- The pieces that are not lost have L bytes. -/
def SizesOk (L : Nat) (pieces : List ByteArray) (lost : List Int) : Prop := ∀ p, (h : p < pieces.length) → (p : Int) ∉ lost → pieces[p].size = L
set_option maxRecDepth 100000 in
set_option maxHeartbeats 4000000 in
theorem goTogether_any (d s n L : Nat) (pieces : List ByteArray) (lost : List Int) (pv lv : Value) (w : World) (hp : StrsAt w pv pieces) (hl : IsC w lv lost) (hll : lost.length < 2 ^ 62) (hpl : pieces.length < 2 ^ 62)
    (hd : 1 ≤ d) (hd2 : d ≤ 10) (hs : s ≤ 6) (hn : n ≤ 400) (hL : L = (n + d - 1) / d) (hsz : ∀ p, (h : p < pieces.length) → pieces[p].size < 2 ^ 62) :
    Calls Tryd.prog 88 #[.int .i64 d, .int .i64 s, .int .i64 n, pv, lv] w fun e w' => Says (pieces.length = d + s ∧ SizesOk L pieces lost) e ∧ w' = w := by
  obtain ⟨pao, pcap, rfl, hpc⟩ := hp
  have HL : Hid (IsC w lv lost) := hl
  have HPC : Hid (pieces = [] ∨ ∃ b off, pao = some ⟨b, off, none⟩ ∧ b < w.heap.size ∧ ∀ k, (h : k < pieces.length) → w.cell? ⟨b, off + k, none⟩ = some (.string pieces[k])) := hpc
  have HSZ : Hid (∀ p, (h : p < pieces.length) → pieces[p].size < 2 ^ 62) := hsz
  have hLc : L ≤ 400 := by
    rw [hL]; exact Nat.le_trans (Nat.div_le_div_right (by omega : n + d - 1 ≤ n + d - 1)) (by
      have := ceil_le n d hd
      omega)
  clear hpc hsz hl
  by_cases hcnt : pieces.length = d + s
  · have hne : ((pieces.length : Int) != (d : Int) + (s : Int)) = false := by simp; omega
    have HCN : Hid (pieces.length = d + s) := hcnt
    clear hcnt
    go_enter Tryd.func88, Tryd.ntmps88
    go_wp2_with fail
    refine (length_any d n (by omega) (by omega) (by omega) w).mono ?_
    rintro e w' ⟨rfl, rfl⟩
    rw [← hL]
    clear hL
    go_wp2
    go_loop [25] (fun i => ∃ k : Nat, k ≤ pieces.length ∧ i = .int .i64 k ∧ SizesTo L pieces lost k) (fun i => pieces.length - (intOf i).toNat)
    case atStart => exact ⟨0, Nat.zero_le _, rfl, fun j _ hj => by omega⟩
    case round =>
      obtain ⟨k, hk, rfl, hdone⟩ := hrel
      by_cases hlt : k < pieces.length
      · obtain ⟨b, off, rfl, hb, hc⟩ : ∃ b off, pao = some ⟨b, off, none⟩ ∧ b < w'.heap.size ∧ ∀ k, (h : k < pieces.length) → w'.cell? ⟨b, off + k, none⟩ = some (.string pieces[k]) := by
          rcases HPC.out with h | h
          · rw [h] at hlt; simp at hlt
          · exact h
        have c1 := hc k hlt
        have HD : Hid (SizesTo L pieces lost k) := hdone
        have hz := HSZ.out k hlt
        clear hc hdone
        by_cases h0 : pieces[k].size = L
        · have HM : Hid (SizesTo L pieces lost (k + 1)) := fun j hj hjk hjl => by
            by_cases e : j = k
            · subst e; exact h0
            · exact HD.out j hj (by omega) hjl
          have h0' : ((pieces[k].size : Int) != (L : Int)) = false := by simp; omega
          clear h0
          generalize pieces[k] = pk at c1 h0' hz
          go_wp2
          go_round
          case rel => exact ⟨k + 1, by omega, by go_num, HM.out⟩
          case measure => simp [intOf]; omega
        · have h0' : ((pieces[k].size : Int) != (L : Int)) = true := by simp; omega
          by_cases h2 : ((k : Nat) : Int) ∈ lost
          · have HD2 : Hid (decide (((k : Nat) : Int) ∈ lost) = true) := decide_eq_true h2
            have HM : Hid (SizesTo L pieces lost (k + 1)) := fun j hj hjk hjl => by
              by_cases e : j = k
              · subst e; exact absurd h2 hjl
              · exact HD.out j hj (by omega) hjl
            clear h2 h0
            generalize pieces[k] = pk at c1 h0' hz
            go_wp2_with (go_at_call 109; refine (contains_any _ _ _ _ HL.out hll).mono ?_; rintro e w' ⟨rfl, rfl⟩; rw [HD2.out])
            go_round
            case rel => exact ⟨k + 1, by omega, by go_num, HM.out⟩
            case measure => simp [intOf]; omega
          · have HD2 : Hid (decide (((k : Nat) : Int) ∈ lost) = false) := decide_eq_false h2
            have HNO : Hid (¬ (pieces.length = d + s ∧ SizesOk L pieces lost)) := fun h => h0 (h.2 k hlt h2)
            clear h2 h0
            generalize pieces[k] = pk at c1 h0' hz
            go_wp2_with (go_at_call 109; refine (contains_any _ _ _ _ HL.out hll).mono ?_; rintro e w' ⟨rfl, rfl⟩; rw [HD2.out])
            go_ret
            exact ⟨Says.no rfl HNO.out, rfl⟩
      · obtain rfl : k = pieces.length := by omega
        have HD : Hid (SizesTo L pieces lost pieces.length) := hdone
        clear hdone
        go_wp2
        go_ret
        exact ⟨Says.yes rfl ⟨HCN.out, fun j hj hjl => HD.out j hj hj hjl⟩, rfl⟩
  · have hne : ((pieces.length : Int) != (d : Int) + (s : Int)) = true := by simp; omega
    have HNO : Hid (¬ (pieces.length = d + s ∧ SizesOk L pieces lost)) := fun h => hcnt h.1
    clear hcnt
    go_enter Tryd.func88, Tryd.ntmps88
    go_wp2
    go_ret
    exact ⟨Says.no rfl HNO.out, rfl⟩
end Go.Proofs.YtokmllopbfmadaaDoor.Ref

namespace Go.Proofs.YtokmllopbfmadaaDoor.Ref
open Go.RowKit Mem FieldWalks Tab ByTab Parts
open Gf (Bytes chosen left_ rowOf enough)
open Plans (But rowF intsV infoInt)

theorem filter_split (P : Nat → Bool) (j n : Nat) (h : j ≤ n) : (List.range n).filter P = (List.range j).filter P ++ (List.range' j (n - j)).filter P := by
  rw [← List.filter_append]
  congr 1
  have := List.range'_append_1 (s := 0) (m := j) (n := n - j)
  rw [Nat.zero_add] at this
  rw [List.range_eq_range', List.range_eq_range', this]
  congr 1; omega
theorem filter_at (P : Nat → Bool) (j n : Nat) (h : j < n) (hP : P j = true) : ((List.range n).filter P)[((List.range j).filter P).length]? = some j := by
  rw [filter_split P j n (by omega), List.getElem?_append_right (Nat.le_refl _), Nat.sub_self]
  rw [show n - j = (n - j - 1) + 1 by omega, List.range'_succ, List.filter_cons, if_pos hP]
  rfl
theorem filter_next (P : Nat → Bool) (j : Nat) : (List.range (j + 1)).filter P = (List.range j).filter P ++ (if P j = true then [j] else []) := by
  rw [List.range_succ, List.filter_append]
  congr 1
  simp [List.filter_cons]
theorem chosen_of_full (N : Nat → Bool) (d s p : Nat) (hp : p ≤ d + s) (h : ((List.range p).filter N).length = d) : chosen N d s = (List.range p).filter N := by
  unfold chosen
  rw [filter_split N p (d + s) hp]
  exact List.take_left' h
theorem chosen_at (N : Nat → Bool) (d s j : Nat) (hj : j < d) (hN : N j = true) : (chosen N d s)[((List.range j).filter N).length]? = some j := by
  have h1 : ((List.range j).filter N).length ≤ j := by have := List.length_filter_le N (List.range j); simpa using this
  unfold chosen
  rw [List.getElem?_take_of_lt (by omega)]
  exact filter_at N j (d + s) (by omega) hN

theorem make_none (d : Nat) (hd : d ≤ 1000) (w : World) :
    (Instr.makeSlice 45 (.int .i64 0) (.int .i64 (d : Int))).run Tryd.prog w = .ok (.slice (some ⟨w.heap.size, 0, none⟩) 0 d) (w.alloc (.cells (madeCells #[.int .i64 0] d) 3)) := by
  obtain ⟨i, hi, hz0, hz1, hz2⟩ := info_parts infoInt
  have := run_make (P := Tryd.prog) w 45 3 i (.int .i64 0) Tryd.underlying45 hi hz0 .i64 .i64 0 (d : Int) (by omega) (by omega) (by rw [hz2]; omega) (by omega)
  rw [hz1, show ((d : Int)).toNat = d by omega, Nat.mul_one] at this
  exact this
/-- The list, then noughts. -/
def pad (l : List Nat) (d : Nat) : List Nat := l ++ List.replicate (d - l.length) 0
theorem pad_set (l : List Nat) (d p : Nat) (h : l.length < d) : (intsV (pad l d)).set l.length (.int .i64 (p : Nat)) = intsV (pad (l ++ [p]) d) := by
  unfold pad
  obtain ⟨m, hm⟩ : ∃ m, d - l.length = m + 1 := ⟨d - l.length - 1, by omega⟩
  rw [hm, List.length_append, List.length_singleton, show d - (l.length + 1) = m by omega, List.replicate_succ]
  simp [intsV, List.set_append_right]
theorem pad_at (l : List Nat) (d : Nat) (h : l.length < d) : (intsV (pad l d))[l.length]? = some (.int .i64 0) := by
  unfold pad
  obtain ⟨m, hm⟩ : ∃ m, d - l.length = m + 1 := ⟨d - l.length - 1, by omega⟩
  rw [hm, List.replicate_succ]
  simp [intsV]

set_option maxRecDepth 100000 in
set_option maxHeartbeats 1000000 in
theorem firstLeft_any (d s : Nat) (lost : List Int) (lv : Value) (w : World) (hl : IsC w lv lost) (hd : 1 ≤ d) (hd2 : d ≤ 10) (hs : s ≤ 6) (hfew : lost.length ≤ s) :
    Calls Tryd.prog 110 #[.int .i64 d, lv] w fun e w' => ∃ b, w.heap.size ≤ b ∧ e = .returned (.slice (some ⟨b, 0, none⟩) d d) ∧ Blk w' b 3 (intsV (chosen (left_ lost) d s)) ∧ Below w.heap.size w w' := by
  have HL : Hid (IsC w lv lost) := hl
  have HEN : Hid (d ≤ ((List.range (d + s)).filter (left_ lost)).length) := enough d s lost hfew
  have hmk := fun w => make_none d (by omega) w
  clear hl
  go_enter Tryd.func110, Tryd.ntmps110
  go_wp2
  go_loopw [5, 6] (fun t i wr => ∃ p k : Nat, p ≤ d + s ∧ i = .int .i64 p ∧ t = .slice (some ⟨w.heap.size, 0, none⟩) k d ∧ k = ((List.range p).filter (left_ lost)).length ∧ k ≤ d ∧ Blk wr w.heap.size 3 (intsV (pad ((List.range p).filter (left_ lost)) d)) ∧ Below w.heap.size w wr) (fun _ i _ => d + s - (intOf i).toNat)
  case atStart =>
    refine ⟨0, 0, Nat.zero_le _, rfl, rfl, rfl, Nat.zero_le _, (Blk.new w _ _).eq ?_, (Below.refl _ _).alloc (Nat.le_refl _) _⟩
    rw [toList_madeCells_one]; simp [intsV, pad]
  case round =>
    obtain ⟨p, k, hp, rfl, rfl, hk, hkd, hblk, hbel⟩ := hrel
    by_cases hlt : k < d
    · have hps : p < d + s := by
        apply Classical.byContradiction
        intro hc
        have : p = d + s := by omega
        have := HEN.out
        subst p
        omega
      have HIC : Hid (IsC wr lv lost) := HL.out.to hbel
      have hlb : lost.length < 2 ^ 62 := by omega
      by_cases hm : (p : Int) ∈ lost
      · have HD : Hid (decide ((p : Int) ∈ lost) = true) := decide_eq_true hm
        have hle : left_ lost p = false := by simp [left_, hm]
        have HF : Hid ((List.range (p + 1)).filter (left_ lost) = (List.range p).filter (left_ lost)) := by
          show _ = _
          rw [filter_next, hle]; simp
        have HK : Hid (k = ((List.range p).filter (left_ lost)).length) := hk
        have HB : Hid (Blk wr w.heap.size 3 (intsV (pad ((List.range p).filter (left_ lost)) d))) := hblk
        clear hk hblk hm hle
        go_wp2_with (go_at_call 109; refine (contains_any lost p lv _ HIC.out hlb).mono ?_; rintro e w' ⟨rfl, rfl⟩; rw [HD.out])
        go_roundw
        case rel => exact ⟨p + 1, k, by omega, by go_num, rfl, by rw [HF.out]; exact HK.out, hkd, by rw [HF.out]; exact HB.out, hbel⟩
        case measure => simp [intOf]; omega
      · have HD : Hid (decide ((p : Int) ∈ lost) = false) := decide_eq_false hm
        have hle : left_ lost p = true := by simp [left_, hm]
        have HF : Hid ((List.range (p + 1)).filter (left_ lost) = (List.range p).filter (left_ lost) ++ [p]) := by
          show _ = _
          rw [filter_next, hle]; simp
        have hc1 := hblk.cell_some (k := k) (by rw [hk]; exact pad_at _ d (by omega))
        have hf1 := hblk.free k
        have HK : Hid (k = ((List.range p).filter (left_ lost)).length) := hk
        have HB : Hid (Blk wr w.heap.size 3 (intsV (pad ((List.range p).filter (left_ lost)) d))) := hblk
        have hBlt := hblk.lt
        have HP : Hid ((intsV (pad ((List.range p).filter (left_ lost)) d)).set k (.int .i64 (p : Nat)) = intsV (pad ((List.range p).filter (left_ lost) ++ [p]) d)) := by
          show _ = _
          rw [hk]; exact pad_set _ d p (by omega)
        clear hk hblk hm hle
        go_wp2_with (go_at_call 109; refine (contains_any lost p lv _ HIC.out hlb).mono ?_; rintro e w' ⟨rfl, rfl⟩; rw [HD.out])
        go_roundw
        case rel => exact ⟨p + 1, k + 1, by omega, by go_num, rfl, by rw [HF.out, List.length_append, ← HK.out]; rfl, by omega, by rw [HF.out, ← HP.out]; exact (HB.out.set k _).alloc _, (hbel.setCell (Nat.le_refl _) _).alloc (by rw [size_setCell]; exact hbel.size) _⟩
        case measure => simp [intOf]; omega
    · obtain rfl : d = k := by omega
      have HC : Hid (chosen (left_ lost) d s = (List.range p).filter (left_ lost)) := chosen_of_full _ d s p hp hk.symm
      have HB : Hid (Blk wr w.heap.size 3 (intsV (chosen (left_ lost) d s))) := by
        have := hblk
        rw [pad, ← hk, Nat.sub_self, List.replicate_zero, List.append_nil, ← HC.out] at this
        exact this
      clear hk hblk
      go_wp2
      go_ret
      exact ⟨w.heap.size, Nat.le_refl _, rfl, HB.out, hbel⟩
end Go.Proofs.YtokmllopbfmadaaDoor.Ref
