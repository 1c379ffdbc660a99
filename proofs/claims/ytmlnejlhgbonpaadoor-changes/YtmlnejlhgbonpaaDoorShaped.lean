import Derived.Test.YtmlnejlhgbonpaaDoorRefInts
import Derived.Deep.QuietTactic
import Derived.BigQuiet
namespace Go.Proofs.YtmlnejlhgbonpaaDoor.Ref
open Go.RowKit Mem FieldWalks Tab ByTab Parts
open Gf (Bytes sumTo addTo)

def Drew (w w' : World) : Prop := ∃ m, w' = w.drewN m
theorem Drew.below {w w' : World} (h : Drew w w') : Below w.heap.size w w' := by
  obtain ⟨m, rfl⟩ := h
  exact below_drewN (Below.refl _ _) _
theorem Drew.cell {w w' : World} (h : Drew w w') (p : Addr) : w'.cell? p = w.cell? p := by
  obtain ⟨m, rfl⟩ := h; rfl
theorem Drew.more {w w' : World} (h : Drew w w') (n : Nat) : Drew w (w'.drewN n) := by
  obtain ⟨m, rfl⟩ := h; exact ⟨m + n, World.drewN_drewN _ _ _⟩
theorem Drew.isC {w w' : World} (h : Drew w w') {v : Value} {l : List Int} (k : IsC w v l) : IsC w' v l := k.to h.below
/-- The call says whether it is so. -/
def Says (P : Prop) (e : Ending) : Prop := ∃ b : Bool, e = .returned (.bool b) ∧ (b = true ↔ P)
theorem Says.yes {P : Prop} {e : Ending} (he : e = .returned (.bool true)) (h : P) : Says P e := ⟨true, he, fun _ => h, fun _ => rfl⟩
theorem Says.no {P : Prop} {e : Ending} (he : e = .returned (.bool false)) (h : ¬ P) : Says P e := ⟨false, he, fun h => (by cases h), fun k => absurd k h⟩
/-- The first k lost numbers are as they must be. -/
def NumsTo (d s : Nat) (lost : List Int) (k : Nat) : Prop := ∀ j, (h : j < lost.length) → j < k → 0 ≤ lost[j] ∧ lost[j] < (d + s : Nat) ∧ lost[j] ∉ lost.take j
def SizesTo (L : Nat) (pieces : List ByteArray) (lost : List Int) (k : Nat) : Prop := ∀ p, (h : p < pieces.length) → p < k → (p : Int) ∉ lost → pieces[p].size = L

set_option maxRecDepth 100000 in
set_option maxHeartbeats 4000000 in
theorem shaped_any (d s n L : Nat) (pieces : List ByteArray) (lost : List Int) (pv lv : Value) (w : World) (hp : StrsAt w pv pieces) (hl : IsC w lv lost) (hll : lost.length < 2 ^ 62) (hpl : pieces.length < 2 ^ 62)
    (hd : 1 ≤ d) (hd2 : d ≤ 10) (hs : s ≤ 6) (hn : n ≤ 400) (hL : L = (n + d - 1) / d) (hsz : ∀ p, (h : p < pieces.length) → pieces[p].size < 2 ^ 62) :
    Calls Tryd.prog 80 #[.int .i64 d, .int .i64 s, .int .i64 n, pv, lv] w fun e w' => Says (ShapeOk d s L pieces lost) e ∧ Drew w w' := by
  obtain ⟨pao, pcap, rfl, hpc⟩ := hp
  have HL : Hid (IsC w lv lost) := hl
  obtain ⟨lao, lex, rfl, hlc⟩ := hl
  have HPC : Hid (pieces = [] ∨ ∃ b off, pao = some ⟨b, off, none⟩ ∧ b < w.heap.size ∧ ∀ k, (h : k < pieces.length) → w.cell? ⟨b, off + k, none⟩ = some (.string pieces[k])) := hpc
  have HLC : Hid (lost = [] ∨ ∃ b off, lao = some ⟨b, off, none⟩ ∧ b < w.heap.size ∧ ∀ k, (h : k < lost.length) → w.cell? ⟨b, off + k, none⟩ = some (.int .i64 lost[k])) := hlc
  have HEL : Hid (L = (n + d - 1) / d) := hL
  have HSZ : Hid (∀ p, (h : p < pieces.length) → pieces[p].size < 2 ^ 62) := hsz
  clear hpc hlc hL hsz
  by_cases hcnt : pieces.length = d + s
  · have hne : ((pieces.length : Int) != (d : Int) + (s : Int)) = false := by simp; omega
    have HCN : Hid (pieces.length = d + s) := hcnt
    clear hcnt
    go_enter Tryd.func80, Tryd.ntmps80
    go_wp2
    go_loopw [11] (fun i wr => ∃ k : Nat, k ≤ lost.length ∧ i = .int .i64 k ∧ Drew w wr ∧ NumsTo d s lost k) (fun i _ => lost.length - (intOf i).toNat)
    case atStart => exact ⟨0, Nat.zero_le _, rfl, ⟨0, rfl⟩, fun j _ hj => by omega⟩
    case round =>
      obtain ⟨k, hk, rfl, ⟨m, rfl⟩, hdone⟩ := hrel
      by_cases hlt : k < lost.length
      · obtain ⟨b, off, rfl, hb, hc⟩ : ∃ b off, lao = some ⟨b, off, none⟩ ∧ b < w.heap.size ∧ ∀ k, (h : k < lost.length) → w.cell? ⟨b, off + k, none⟩ = some (.int .i64 lost[k]) := by
          rcases HLC.out with h | h
          · rw [h] at hlt; simp at hlt
          · exact h
        have c1 := hc k hlt
        have HD : Hid (NumsTo d s lost k) := hdone
        have HT : Hid (IsC w (.slice (some ⟨b, off, none⟩) k (lost.length + lex)) (lost.take k)) := HL.out.take (by omega)
        have HLK : Hid ((lost.take k).length < 2 ^ 62) := by show _ < _; rw [List.length_take]; omega
        obtain ⟨x, hx⟩ : ∃ x, x = lost[k] := ⟨_, rfl⟩
        rw [← hx] at c1
        have HX : Hid (x = lost[k]) := hx
        obtain ⟨tw, htw⟩ : ∃ tw : Bool, tw = decide (x ∈ lost.take k) := ⟨_, rfl⟩
        have HTW : Hid (tw = decide (x ∈ lost.take k)) := htw
        have z1 : (0 : Int) ≤ (k : Int) := by omega
        have z2 : (k : Int) ≤ ((lost.length + lex : Nat) : Int) := by omega
        have z2' : (k : Int) ≤ (lost.length : Int) + (lex : Int) := by omega
        have z3 : ¬ lost.length + lex = 0 := by omega
        have z4 : (0 : Int) ≤ max (k : Int) 0 := by omega
        clear hc hdone htw hx
        go_wp2_with fail
        go_region_with (go_at_call 94; refine (within_any (lost.take k) x _ _ (by exact HT.out) HLK.out).mono ?_; rintro e w2 ⟨rfl, rfl⟩; rw [← HTW.out])
        all_goals
          by_cases h1 : x < 0
          · have h1' : decide (x < 0) = true := by simp [h1]
            go_wp2
            go_ret
            refine ⟨Says.no rfl fun h => absurd (h.nums k hlt).1 ?_, _, rfl⟩
            rw [← HX.out]; omega
          · have h1' : decide (x < 0) = false := by simp [h1]
            by_cases h2 : x < (d : Int) + (s : Int)
            · have h2' : decide ((d : Int) + (s : Int) ≤ x) = false := by simp; omega
              cases tw
              · have HN : Hid (NumsTo d s lost (k + 1)) := by
                  intro j h hj
                  by_cases e : j = k
                  · subst e
                    rw [← HX.out]
                    refine ⟨by omega, by omega, ?_⟩
                    have := HTW.out
                    simpa using this
                  · exact HD.out j h (by omega)
                go_wp2
                go_roundw
                case rel => exact ⟨k + 1, by omega, by go_num, ⟨_, rfl⟩, HN.out⟩
                case measure => simp [intOf]; omega
              · go_wp2
                go_ret
                refine ⟨Says.no rfl fun h => absurd ?_ (h.nums k hlt).2.2, _, rfl⟩
                rw [← HX.out]
                have := HTW.out
                simpa using this.symm
            · have h2' : decide ((d : Int) + (s : Int) ≤ x) = true := by simp; omega
              go_wp2
              go_ret
              refine ⟨Says.no rfl fun h => absurd (h.nums k hlt).2.1 ?_, _, rfl⟩
              rw [← HX.out]; omega
      · obtain rfl : k = lost.length := by omega
        have HD : Hid (NumsTo d s lost lost.length) := hdone
        clear hdone
        go_wp2
        go_loopw [13] (fun i wr => ∃ k : Nat, k ≤ d + s ∧ i = .int .i64 k ∧ Drew w wr ∧ SizesTo L pieces lost k) (fun i _ => d + s - (intOf i).toNat)
        case atStart => exact ⟨0, Nat.zero_le _, rfl, ⟨m, rfl⟩, fun j _ hj => by omega⟩
        case round =>
          obtain ⟨k, hk, rfl, hdr, hdone⟩ := hrel
          by_cases hlt : k < d + s
          · obtain ⟨b, off, rfl, hb, hc⟩ : ∃ b off, pao = some ⟨b, off, none⟩ ∧ b < w.heap.size ∧ ∀ k, (h : k < pieces.length) → w.cell? ⟨b, off + k, none⟩ = some (.string pieces[k]) := by
              rcases HPC.out with h | h
              · have := HCN.out; rw [h] at this; simp at this; omega
              · exact h
            have hkp : k < pieces.length := by have := HCN.out; omega
            have c1 := hc k hkp
            rw [← hdr.cell] at c1
            have HDR : Hid (Drew w wr) := hdr
            have HLW : Hid (IsC wr (.slice lao lost.length (lost.length + lex)) lost) := hdr.isC HL.out
            have hzz := HSZ.out k hkp
            have HPS : Hid (SizesTo L pieces lost k) := hdone
            obtain ⟨x, hx⟩ : ∃ x, x = pieces[k]'hkp := ⟨_, rfl⟩
            rw [← hx] at c1 hzz
            have HX : Hid (x = pieces[k]'hkp) := hx
            obtain ⟨gn, hgn⟩ : ∃ gn : Bool, gn = decide ((k : Int) ∈ lost) := ⟨_, rfl⟩
            have HGN : Hid (gn = decide ((k : Int) ∈ lost)) := hgn
            clear hc hx hgn hdone hdr
            go_wp2_with fail
            refine (within_any lost k _ _ (by exact HLW.out) hll).mono ?_
            rintro e w2 ⟨rfl, rfl⟩
            rw [← HGN.out]
            cases gn
            · obtain ⟨nb, hnb⟩ : ∃ nb : Bool, ((x.size : Int) != ((L : Nat) : Int)) = nb := ⟨_, rfl⟩
              have HSI : Hid (∀ W : World, Calls Tryd.prog 73 #[.int .i64 d, .int .i64 n] W fun e w' => e = .returned (.int .i64 (L : Nat)) ∧ w' = W) := by
                intro W
                rw [HEL.out]
                exact size_any d n (by omega) (by omega) (by omega) W
              have hki : (k : Int) < (pieces.length : Int) := by omega
              go_wp2_with fail
              go_quiet ((go_at_call 73; exact Calls.quiet_of_same (HSI.out _)))
              all_goals
                have HNB : Hid (((x.size : Int) != ((L : Nat) : Int)) = nb) := hnb
                clear hnb
                cases nb
                · have HN : Hid (SizesTo L pieces lost (k + 1)) := by
                    intro p h hp hno
                    by_cases e : p = k
                    · subst e; rw [← HX.out]; have := HNB.out; simp at this; omega
                    · exact HPS.out p h (by omega) hno
                  go_wp2
                  go_roundw
                  case rel => exact ⟨k + 1, by omega, by go_num, HDR.out.more _, HN.out⟩
                  case measure => simp [intOf]; omega
                · go_wp2
                  go_ret
                  refine ⟨Says.no rfl fun h => absurd (h.sizes k hkp ?_) ?_, HDR.out.more _⟩
                  · have := HGN.out; simpa using this
                  · rw [← HX.out]; have := HNB.out; simp at this; omega
            · have HN : Hid (SizesTo L pieces lost (k + 1)) := by
                intro p h hp hno
                by_cases e : p = k
                · subst e
                  have := HGN.out
                  exact absurd (by simpa using this) hno
                · exact HPS.out p h (by omega) hno
              go_wp2_with fail
              go_quiet (fail)
              all_goals
                go_wp2
                go_roundw
                case rel => exact ⟨k + 1, by omega, by go_num, HDR.out.more _, HN.out⟩
                case measure => simp [intOf]; omega
          · obtain rfl : k = d + s := by omega
            go_wp2
            go_ret
            exact ⟨Says.yes rfl ⟨HCN.out, fun j h => HD.out j h h, fun p h hno => hdone p h (by have := HCN.out; omega) hno⟩, hdr⟩
  · have hne : ((pieces.length : Int) != (d : Int) + (s : Int)) = true := by simp; omega
    go_enter Tryd.func80, Tryd.ntmps80
    go_wp2
    go_ret
    exact ⟨Says.no rfl fun h => absurd h.count hcnt, 0, rfl⟩
end Go.Proofs.YtmlnejlhgbonpaaDoor.Ref
