import Derived.Test.YtmlnejlhgbonpaaDoorShaped
namespace Go.Proofs.YtmlnejlhgbonpaaDoor.Ref
open Go.RowKit Mem FieldWalks Tab ByTab Parts

set_option maxRecDepth 100000 in
theorem index_any (l : List Int) (n : Int) (v : Value) (w : World) (h : IsC w v l) (hl : l.length < 2 ^ 62) :
    Calls Tryd.prog 108 #[v, .int .i64 n] w fun e w' => ((∃ k : Nat, e = .returned (.int .i64 k) ∧ k < l.length ∧ n ∈ l) ∨ (e = .returned (.int .i64 (-1)) ∧ n ∉ l)) ∧ w' = w := by
  obtain ⟨ao, ex, rfl, hc⟩ := h
  have HC : Hid (l = [] ∨ ∃ b off, ao = some ⟨b, off, none⟩ ∧ b < w.heap.size ∧ ∀ k, (h : k < l.length) → w.cell? ⟨b, off + k, none⟩ = some (.int .i64 l[k])) := hc
  clear hc
  go_enter Tryd.func108, Tryd.ntmps108
  go_wp2
  go_loop [8] (fun i => ∃ k : Nat, k ≤ l.length ∧ i = .int .i64 k ∧ n ∉ l.take k) (fun i => l.length - (intOf i).toNat)
  case atStart => exact ⟨0, Nat.zero_le _, rfl, by simp⟩
  case round =>
    obtain ⟨k, hk, rfl, hn⟩ := hrel
    by_cases hlt : k < l.length
    · obtain ⟨b, off, rfl, hb, hc⟩ : ∃ b off, ao = some ⟨b, off, none⟩ ∧ b < w.heap.size ∧ ∀ k, (h : k < l.length) → w.cell? ⟨b, off + k, none⟩ = some (.int .i64 l[k]) := by
        rcases HC.out with h | h
        · rw [h] at hlt; simp at hlt
        · exact h
      have c1 := hc k hlt
      have HN : Hid (n ∉ l.take k) := hn
      clear hc hn
      by_cases e : l[k] = n
      · have HM : Hid (n ∈ l) := e ▸ List.getElem_mem hlt
        rw [e] at c1
        clear e
        go_wp2
        go_ret
        exact ⟨.inl ⟨k, rfl, hlt, HM.out⟩, rfl⟩
      · have HX : Hid (n ∉ l.take (k + 1)) := not_take_next HN.out hlt e
        have he : (n == l[k]) = false := by simp; exact fun h => e h.symm
        generalize l[k] = x at c1 he
        clear e
        go_wp2
        go_round
        case rel => exact ⟨k + 1, by omega, by go_num, HX.out⟩
        case measure => simp [intOf]; omega
    · obtain rfl : k = l.length := by omega
      rw [List.take_length] at hn
      have HN : Hid (n ∉ l) := hn
      clear hn
      go_wp2
      go_ret
      exact ⟨.inr ⟨rfl, HN.out⟩, rfl⟩

set_option maxRecDepth 100000 in
theorem contains_any (l : List Int) (n : Int) (v : Value) (w : World) (h : IsC w v l) (hl : l.length < 2 ^ 62) :
    Calls Tryd.prog 90 #[v, .int .i64 n] w fun e w' => e = .returned (.bool (decide (n ∈ l))) ∧ w' = w := by
  go_enter Tryd.func90, Tryd.ntmps90
  go_wp2_with fail
  refine (index_any l n v w h hl).mono ?_
  rintro e w' ⟨h1, rfl⟩
  rcases h1 with ⟨k, rfl, hk, hm⟩ | ⟨rfl, hm⟩
  · have hd : decide (n ∈ l) = true := by simp [hm]
    have HD : Hid (decide (n ∈ l) = true) := hd
    clear hd hm
    go_wp2
    go_ret
    exact ⟨by rw [HD.out]; rfl, rfl⟩
  · have hd : decide (n ∈ l) = false := by simp [hm]
    have HD : Hid (decide (n ∈ l) = false) := hd
    clear hd hm
    go_wp2
    go_ret
    exact ⟨by rw [HD.out]; rfl, rfl⟩

def okSize (n : Int) : Bool := decide (0 ≤ n ∧ n ≤ 400)
theorem okSize_yes (n : Int) (h : 0 ≤ n ∧ n ≤ 400) : okSize n = true := by simp [okSize]; omega
theorem okSize_no (n : Int) (h : ¬ (0 ≤ n ∧ n ≤ 400)) : okSize n = false := by simp [okSize]; omega
theorem isSize_any (n : Int) (w : World) : Calls Tryd.prog 75 #[.int .i64 n] w fun e w' => e = .returned (.bool (okSize n)) ∧ w' = w := by
  by_cases h1 : 0 ≤ n
  · by_cases h2 : n ≤ 400
    · rw [okSize_yes n ⟨h1, h2⟩]
      go_enter Tryd.func75, Tryd.ntmps75
      go_wp2
      go_ret
      exact ⟨rfl, rfl⟩
    · rw [okSize_no n (by omega)]
      go_enter Tryd.func75, Tryd.ntmps75
      go_wp2
      go_ret
      exact ⟨rfl, rfl⟩
  · rw [okSize_no n (by omega)]
    go_enter Tryd.func75, Tryd.ntmps75
    go_wp2
    go_ret
    exact ⟨rfl, rfl⟩

def okWithin (n at_ : Int) (m : Nat) : Bool := decide (0 ≤ at_ ∧ at_ + m ≤ n)
theorem isWithin_any (n : Nat) (hn : n ≤ 400) (at_ : Int) (h2 : at_ ≤ 9223372036854775807) (text : ByteArray) (hlen : text.size ≤ maxLen) (w : World) :
    Calls Tryd.prog 82 #[.int .i64 n, .int .i64 at_, .string text] w fun e w' => e = .returned (.bool (okWithin n at_ text.size)) ∧ w' = w := by
  unfold maxLen at hlen
  by_cases h1 : 0 ≤ at_
  · by_cases h3 : (text.size : Int) ≤ n - at_
    · have : okWithin n at_ text.size = true := by simp [okWithin]; omega
      rw [this]
      go_enter Tryd.func82, Tryd.ntmps82
      go_wp2
      go_ret
      exact ⟨rfl, rfl⟩
    · have : okWithin n at_ text.size = false := by simp [okWithin]; omega
      rw [this]
      go_enter Tryd.func82, Tryd.ntmps82
      go_wp2
      go_ret
      exact ⟨rfl, rfl⟩
  · have : okWithin n at_ text.size = false := by simp [okWithin]; omega
    rw [this]
    go_enter Tryd.func82, Tryd.ntmps82
    go_wp2
    go_ret
    exact ⟨rfl, rfl⟩

def NumsOk (N : Nat) (lost : List Int) : Prop := ∀ k, (h : k < lost.length) → 0 ≤ lost[k] ∧ lost[k] < (N : Int) ∧ lost[k] ∉ lost.take k
def NumsOkTo (N : Nat) (lost : List Int) (m : Nat) : Prop := ∀ k, (h : k < lost.length) → k < m → 0 ≤ lost[k] ∧ lost[k] < (N : Int) ∧ lost[k] ∉ lost.take k
set_option maxRecDepth 100000 in
set_option maxHeartbeats 4000000 in
theorem areNumbers_any (N : Nat) (_hN : N ≤ 100) (lost : List Int) (lv : Value) (w : World) (hl : IsC w lv lost) (hll : lost.length < 2 ^ 62) :
    Calls Tryd.prog 76 #[lv, .int .i64 N] w fun e w' => Says (NumsOk N lost) e ∧ w' = w := by
  have HL : Hid (IsC w lv lost) := hl
  obtain ⟨lao, lex, rfl, hlc⟩ := hl
  have HLC : Hid (lost = [] ∨ ∃ b off, lao = some ⟨b, off, none⟩ ∧ b < w.heap.size ∧ ∀ k, (h : k < lost.length) → w.cell? ⟨b, off + k, none⟩ = some (.int .i64 lost[k])) := hlc
  clear hlc
  go_enter Tryd.func76, Tryd.ntmps76
  go_wp2
  go_loop [9] (fun i => ∃ k : Nat, k ≤ lost.length ∧ i = .int .i64 k ∧ NumsOkTo N lost k) (fun i => lost.length - (intOf i).toNat)
  case atStart => exact ⟨0, Nat.zero_le _, rfl, fun j _ hj => by omega⟩
  case round =>
    obtain ⟨k, hk, rfl, hdone⟩ := hrel
    by_cases hlt : k < lost.length
    · obtain ⟨b, off, rfl, hb, hc⟩ : ∃ b off, lao = some ⟨b, off, none⟩ ∧ b < w.heap.size ∧ ∀ k, (h : k < lost.length) → w.cell? ⟨b, off + k, none⟩ = some (.int .i64 lost[k]) := by
        rcases HLC.out with h | h
        · rw [h] at hlt; simp at hlt
        · exact h
      have c1 := hc k hlt
      have HD : Hid (NumsOkTo N lost k) := hdone
      have HT : Hid (IsC w (.slice (some ⟨b, off, none⟩) k (lost.length + lex)) (lost.take k)) := HL.out.take (by omega)
      have HLK : Hid ((lost.take k).length < 2 ^ 62) := by show _ < _; rw [List.length_take]; omega
      obtain ⟨x, hx⟩ : ∃ x, x = lost[k] := ⟨_, rfl⟩
      rw [← hx] at c1
      have HX : Hid (x = lost[k]) := hx
      clear hx hc hdone
      by_cases h0 : 0 ≤ x
      · by_cases h1 : x < (N : Int)
        · by_cases h2 : x ∈ lost.take k
          · have hd2 : decide (x ∈ lost.take k) = true := by simp [h2]
            have HM : Hid (x ∈ lost.take k) := h2
            have HD2 : Hid (decide (x ∈ lost.take k) = true) := hd2
            clear h2 hd2
            go_wp2_with (go_at_call 90; refine (contains_any _ _ _ _ HT.out HLK.out).mono ?_; rintro e w' ⟨rfl, rfl⟩; rw [HD2.out])
            go_ret
            refine ⟨Says.no rfl fun h => ?_, rfl⟩
            have := (h k hlt).2.2
            rw [← HX.out] at this
            exact this HM.out
          · have hd2 : decide (x ∈ lost.take k) = false := by simp [h2]
            have HM : Hid (NumsOkTo N lost (k + 1)) := fun j hj hjk => by
              by_cases e : j = k
              · subst e; rw [← HX.out]; exact ⟨h0, h1, h2⟩
              · exact HD.out j hj (by omega)
            have HD2 : Hid (decide (x ∈ lost.take k) = false) := hd2
            clear h2 hd2
            go_wp2_with (go_at_call 90; refine (contains_any _ _ _ _ HT.out HLK.out).mono ?_; rintro e w' ⟨rfl, rfl⟩; rw [HD2.out])
            go_round
            case rel => exact ⟨k + 1, by omega, by go_num, HM.out⟩
            case measure => simp [intOf]; omega
        · have h1' : (N : Int) ≤ x := by omega
          go_wp2
          go_ret
          refine ⟨Says.no rfl fun h => ?_, rfl⟩
          have := (h k hlt).2.1
          rw [← HX.out] at this
          omega
      · have h0' : x < 0 := by omega
        go_wp2
        go_ret
        refine ⟨Says.no rfl fun h => ?_, rfl⟩
        have := (h k hlt).1
        rw [← HX.out] at this
        omega
    · obtain rfl : k = lost.length := by omega
      have HD : Hid (NumsOkTo N lost lost.length) := hdone
      clear hdone
      go_wp2
      go_ret
      exact ⟨Says.yes rfl fun j hj => HD.out j hj hj, rfl⟩

/-- The pieces that are not lost have L bytes. -/
def SizesOk (L : Nat) (pieces : List ByteArray) (lost : List Int) : Prop := ∀ p, (h : p < pieces.length) → (p : Int) ∉ lost → pieces[p].size = L
set_option maxRecDepth 100000 in
set_option maxHeartbeats 4000000 in
theorem goTogether_any (d s n L : Nat) (pieces : List ByteArray) (lost : List Int) (pv lv : Value) (w : World) (hp : StrsAt w pv pieces) (hl : IsC w lv lost) (hll : lost.length < 2 ^ 62) (hpl : pieces.length < 2 ^ 62)
    (hd : 1 ≤ d) (hd2 : d ≤ 10) (hs : s ≤ 6) (hn : n ≤ 400) (hL : L = (n + d - 1) / d) (hsz : ∀ p, (h : p < pieces.length) → pieces[p].size < 2 ^ 62) :
    Calls Tryd.prog 77 #[.int .i64 d, .int .i64 s, .int .i64 n, pv, lv] w fun e w' => Says (pieces.length = d + s ∧ SizesOk L pieces lost) e ∧ w' = w := by
  obtain ⟨pao, pcap, rfl, hpc⟩ := hp
  have HL : Hid (IsC w lv lost) := hl
  have HPC : Hid (pieces = [] ∨ ∃ b off, pao = some ⟨b, off, none⟩ ∧ b < w.heap.size ∧ ∀ k, (h : k < pieces.length) → w.cell? ⟨b, off + k, none⟩ = some (.string pieces[k])) := hpc
  have HSZ : Hid (∀ p, (h : p < pieces.length) → pieces[p].size < 2 ^ 62) := hsz
  have hLc : L ≤ 400 := by
    rw [hL]; exact Nat.le_trans (Nat.div_le_div_right (by omega : n + d - 1 ≤ n + d - 1)) (by
      have := ceil_le n d hd
      omega)
  clear hpc hsz hl
  by_cases hcnt : pieces.length = d + s
  · have hne : ((pieces.length : Int) != (d : Int) + (s : Int)) = false := by simp; omega
    have HCN : Hid (pieces.length = d + s) := hcnt
    clear hcnt
    go_enter Tryd.func77, Tryd.ntmps77
    go_wp2_with fail
    refine (length_any d n (by omega) (by omega) (by omega) w).mono ?_
    rintro e w' ⟨rfl, rfl⟩
    rw [← hL]
    clear hL
    go_wp2
    go_loop [25] (fun i => ∃ k : Nat, k ≤ pieces.length ∧ i = .int .i64 k ∧ SizesTo L pieces lost k) (fun i => pieces.length - (intOf i).toNat)
    case atStart => exact ⟨0, Nat.zero_le _, rfl, fun j _ hj => by omega⟩
    case round =>
      obtain ⟨k, hk, rfl, hdone⟩ := hrel
      by_cases hlt : k < pieces.length
      · obtain ⟨b, off, rfl, hb, hc⟩ : ∃ b off, pao = some ⟨b, off, none⟩ ∧ b < w'.heap.size ∧ ∀ k, (h : k < pieces.length) → w'.cell? ⟨b, off + k, none⟩ = some (.string pieces[k]) := by
          rcases HPC.out with h | h
          · rw [h] at hlt; simp at hlt
          · exact h
        have c1 := hc k hlt
        have HD : Hid (SizesTo L pieces lost k) := hdone
        have hz := HSZ.out k hlt
        clear hc hdone
        by_cases h0 : pieces[k].size = L
        · have HM : Hid (SizesTo L pieces lost (k + 1)) := fun j hj hjk hjl => by
            by_cases e : j = k
            · subst e; exact h0
            · exact HD.out j hj (by omega) hjl
          have h0' : ((pieces[k].size : Int) != (L : Int)) = false := by simp; omega
          clear h0
          generalize pieces[k] = pk at c1 h0' hz
          go_wp2
          go_round
          case rel => exact ⟨k + 1, by omega, by go_num, HM.out⟩
          case measure => simp [intOf]; omega
        · have h0' : ((pieces[k].size : Int) != (L : Int)) = true := by simp; omega
          by_cases h2 : ((k : Nat) : Int) ∈ lost
          · have HD2 : Hid (decide (((k : Nat) : Int) ∈ lost) = true) := decide_eq_true h2
            have HM : Hid (SizesTo L pieces lost (k + 1)) := fun j hj hjk hjl => by
              by_cases e : j = k
              · subst e; exact absurd h2 hjl
              · exact HD.out j hj (by omega) hjl
            clear h2 h0
            generalize pieces[k] = pk at c1 h0' hz
            go_wp2_with (go_at_call 90; refine (contains_any _ _ _ _ HL.out hll).mono ?_; rintro e w' ⟨rfl, rfl⟩; rw [HD2.out])
            go_round
            case rel => exact ⟨k + 1, by omega, by go_num, HM.out⟩
            case measure => simp [intOf]; omega
          · have HD2 : Hid (decide (((k : Nat) : Int) ∈ lost) = false) := decide_eq_false h2
            have HNO : Hid (¬ (pieces.length = d + s ∧ SizesOk L pieces lost)) := fun h => h0 (h.2 k hlt h2)
            clear h2 h0
            generalize pieces[k] = pk at c1 h0' hz
            go_wp2_with (go_at_call 90; refine (contains_any _ _ _ _ HL.out hll).mono ?_; rintro e w' ⟨rfl, rfl⟩; rw [HD2.out])
            go_ret
            exact ⟨Says.no rfl HNO.out, rfl⟩
      · obtain rfl : k = pieces.length := by omega
        have HD : Hid (SizesTo L pieces lost pieces.length) := hdone
        clear hdone
        go_wp2
        go_ret
        exact ⟨Says.yes rfl ⟨HCN.out, fun j hj hjl => HD.out j hj hj hjl⟩, rfl⟩
  · have hne : ((pieces.length : Int) != (d : Int) + (s : Int)) = true := by simp; omega
    have HNO : Hid (¬ (pieces.length = d + s ∧ SizesOk L pieces lost)) := fun h => hcnt h.1
    clear hcnt
    go_enter Tryd.func77, Tryd.ntmps77
    go_wp2
    go_ret
    exact ⟨Says.no rfl HNO.out, rfl⟩
end Go.Proofs.YtmlnejlhgbonpaaDoor.Ref
