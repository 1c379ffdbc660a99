import Derived.Test.YtmlnejlhgbonpaaDoorRefSpread
namespace Go.Proofs.YtmlnejlhgbonpaaDoor.Book
open Go.RowKit Mem FieldWalks Tab ByTab Parts

set_option maxRecDepth 100000 in
set_option maxHeartbeats 400000 in
theorem sameT_yes (ss : List ByteArray) (a b : Value) (w : World) (ha : StrsAt w a ss) (hb : StrsAt w b ss) (hn : ss.length ≤ 1000) :
    Calls Tryd.prog 22 #[a, b] w fun e w' => e = .returned (.bool true) ∧ ∃ n, w' = w.drewN n := by
  obtain ⟨aao, acap, rfl, hac⟩ := ha
  obtain ⟨bao, bcap, rfl, hbc⟩ := hb
  have hne : ((ss.length : Int) != (ss.length : Int)) = false := by simp
  have HAC : Hid (ss = [] ∨ ∃ b off, aao = some ⟨b, off, none⟩ ∧ b < w.heap.size ∧ ∀ k, (h : k < ss.length) → w.cell? ⟨b, off + k, none⟩ = some (.string ss[k])) := hac
  have HBC : Hid (ss = [] ∨ ∃ b off, bao = some ⟨b, off, none⟩ ∧ b < w.heap.size ∧ ∀ k, (h : k < ss.length) → w.cell? ⟨b, off + k, none⟩ = some (.string ss[k])) := hbc
  clear hac hbc
  go_enter Tryd.func22, Tryd.ntmps22
  go_wp2
  go_loopw [5] (fun i wr => ∃ k n : Nat, k ≤ ss.length ∧ i = .int .i64 k ∧ wr = w.drewN n) (fun i _ => ss.length - (intOf i).toNat)
  case atStart => exact ⟨0, 0, Nat.zero_le _, rfl, rfl⟩
  case round =>
    obtain ⟨k, n, hk, rfl, rfl⟩ := hrel
    by_cases hlt : k < ss.length
    · obtain ⟨x, xo, rfl, hx, hxc⟩ : ∃ b off, aao = some ⟨b, off, none⟩ ∧ b < w.heap.size ∧ ∀ k, (h : k < ss.length) → w.cell? ⟨b, off + k, none⟩ = some (.string ss[k]) := by
        rcases HAC.out with h | h
        · rw [h] at hlt; simp at hlt
        · exact h
      obtain ⟨y, yo, rfl, hy, hyc⟩ : ∃ b off, bao = some ⟨b, off, none⟩ ∧ b < w.heap.size ∧ ∀ k, (h : k < ss.length) → w.cell? ⟨b, off + k, none⟩ = some (.string ss[k]) := by
        rcases HBC.out with h | h
        · rw [h] at hlt; simp at hlt
        · exact h
      have c1 := hxc k hlt
      have c2 := hyc k hlt
      clear hxc hyc
      have hki : (k : Int) < (ss.length : Int) := by omega
      go_wp2
      go_quiet (fail)
      go_wp2
      go_roundw
      case rel => exact ⟨k + 1, n + nq, by omega, by go_num, rfl⟩
      case measure => simp [intOf]; omega
    · obtain rfl : k = ss.length := by omega
      go_wp2
      go_ret
      exact ⟨rfl, n, rfl⟩

/-- The mark of a number below ten. -/
def markS (n : Nat) : ByteArray := ⟨#[109, 97, 114, 107, UInt8.ofNat (48 + n)]⟩
set_option maxRecDepth 100000 in
set_option maxHeartbeats 400000 in
theorem mark_any (n : Nat) (h1 : 1 ≤ n) (h2 : n ≤ 9) (w : World) :
    Calls Tryd.prog 51 #[.int .i64 n] w fun e w' => e = .returned (.string (markS n)) ∧ Below w.heap.size w w' := by
  go_enter Tryd.func51, Tryd.ntmps51
  go_wp2
  go_loopw [0, 3] (fun m s wr => ((m = .int .i64 n ∧ s = .string ⟨#[109, 97, 114, 107]⟩) ∨ (m = .int .i64 0 ∧ s = .string (markS n))) ∧ Below w.heap.size w wr) (fun m _ _ => (intOf m).toNat)
  case atStart => exact ⟨.inl ⟨rfl, rfl⟩, Below.refl _ _⟩
  case round =>
    obtain ⟨h | h, hbel⟩ := hrel
    · obtain ⟨rfl, rfl⟩ := h
      have hsz := hbel.size
      have e1 : (n : Int) % 10 = n := by omega
      have e2 : (n : Int) / 10 = 0 := by omega
      go_wp2_with (refine wpList_convert _ rfl 71 9 _ rfl (.slice (some ⟨wr.heap.size, 0, none⟩) 1 1) (.string (mkS [48 + n])) rfl (conv_str _ _ _ (BsAt.of_blk (t := 5) (by exact Blk.eq (Blk.new wr _ _) (by simp [bytesV])) _ _ rfl)) ?_)
      go_roundw
      case rel => exact ⟨.inr ⟨rfl, congrArg Value.string (ByteArray.ext (by simp [markS, mkS, ByteArray.data_append]))⟩, hbel.alloc hsz _⟩
      case measure => simp [intOf]; omega
    · obtain ⟨rfl, rfl⟩ := h
      go_wp2
      go_ret
      exact ⟨rfl, hbel⟩
end Go.Proofs.YtmlnejlhgbonpaaDoor.Book
