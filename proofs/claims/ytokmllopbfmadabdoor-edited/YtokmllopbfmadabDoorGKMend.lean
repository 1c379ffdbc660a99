import Derived.Test.YtokmllopbfmadabDoorGPkCalls
import Derived.Test.YtokmllopbfmadabDoorGKRest2
import Derived.Test.YtokmllopbfmadabDoorGSpoilMath
/- A spoilt pack of a text is mended to the text and its pieces. -/
namespace Go.Proofs.YtokmllopbfmadabDoor.KeepW
open Go.RowKit Mem FieldWalks Tab ByTab Parts Ref Top
open Gf (Bytes Fits chosen left_)
open Pk (MendOk newPieces)
open Plans (intsV)

theorem ceil_ge (n d : Nat) (h : 1 ≤ d) : n ≤ d * ((n + d - 1) / d) := by
  have h1 := Nat.div_add_mod (n + d - 1) d
  have h2 := Nat.mod_lt (n + d - 1) (show d > 0 by omega)
  omega
/-- A pack has no more bytes than this. -/
theorem spoilt_size {q : ByteArray} {d s n L : Nat} {ps : List ByteArray} {bad : List Nat} {fs : List (List Nat)} (h : Spoilt q d s n L ps bad fs) : q.size = 10 + (d + s) * (L + 5) ∧ L ≤ 400 ∧ q.size ≤ 7000 := by
  have h1 := h.is.eL
  have h2 := ceil_le n d h.is.d1
  have h3 := h.is.n2
  have h4 := h.is.d2
  have h5 := h.is.s2
  have hL : L ≤ 400 := by omega
  have h6 : (d + s) * (L + 5) ≤ 16 * 405 := Nat.mul_le_mul (by omega) (by omega)
  refine ⟨h.is.size, hL, ?_⟩
  rw [h.is.size]; omega
theorem spoilt_new (d s : Nat) (T : ByteArray) (d1 : 1 ≤ d) (d2 : d ≤ 10) (s2 : s ≤ 6) (n2 : T.size ≤ 400) : Spoilt (packS d s T.size (pieces d s T)) d s T.size ((T.size + d - 1) / d) (pieces d s T) [] (framesL (headL d s T.size) (pieces d s T)) :=
  spoilt_none d1 d2 s2 n2 rfl (pieces_length d s T) fun x hx => by
    obtain ⟨p, hp, rfl⟩ := List.mem_iff_getElem.1 hx
    exact pieces_sizes d s T p hp
theorem mend_spoilt (hS : SumsOk) {q T : ByteArray} {d s L x : Nat} {bad : List Nat} {fs : List (List Nat)} (h : Spoilt q d s T.size L (pieces d s T) bad fs) (hb : bad.length ≤ s) (hx : x ≤ 2) : MendOk q x d s T.size T (pieces d s T) (openBad q) := by
  intro W hW
  have hD := h.is.hD
  have hSS := h.is.hS
  have hN := h.is.hN
  have hL := h.is.hL
  have hLe := h.is.eL
  have hbl := h.bad_length
  have hd1 := h.is.d1
  have hd := h.is.d2
  have hs := h.is.s2
  have hsz : q.size < 4611686018427387904 := by have := (spoilt_size h).2.2; omega
  have hfit := pieces_fit d s T ((openBad q).map Int.ofNat) (openPieces q) (by omega) h.fit
  rw [← hLe] at hfit
  have hm := Pk.mend_ok hS q x h.is.ok h.is.cut hsz hx (by rw [hSS]; omega) (cuts (nums T) d L) (by rw [hD, hSS, hL]; exact hfit) W hW
  have hge : T.size ≤ d * L := by rw [hLe]; exact ceil_ge _ _ hd1
  have e : texts (cuts (nums T) d L) (sums (facs d s) (cuts (nums T) d L) L) = pieces d s T := by unfold pieces; rw [← hLe]
  rw [hD, hSS, hN, hL, flatten_take _ _ _ _ (nums_length T) hge, mkS_nums, e] at hm
  exact hm
/-- The rising list of those that were spoilt is what is told. -/
theorem range_filter (bad : List Nat) (m k : Nat) (hm : m ≤ k) (h : ∀ x ∈ bad, x < m) : (List.range k).filter (fun x => decide (x ∈ bad)) = (List.range m).filter (fun x => decide (x ∈ bad)) := by
  obtain ⟨j, rfl⟩ : ∃ j, k = m + j := ⟨k - m, by omega⟩
  rw [List.range_add, List.filter_append]
  have : ((List.range j).map (m + ·)).filter (fun x => decide (x ∈ bad)) = [] := by
    rw [List.filter_eq_nil_iff]
    intro x hx
    obtain ⟨y, _, rfl⟩ := List.mem_map.1 hx
    simp only [decide_eq_true_eq]
    intro hb
    have := h _ hb
    omega
  rw [this, List.append_nil]
theorem sorted_opened {q : ByteArray} {d s n L : Nat} {ps : List ByteArray} {bad : List Nat} {fs : List (List Nat)} (h : Spoilt q d s n L ps bad fs) (hnd : bad.Nodup) : sortTo (bad.map Int.ofNat) 16 = openBad q := by
  have := h.is.d2
  have := h.is.s2
  rw [sortTo_filter bad hnd, h.opened, range_filter bad (d + s) 16 (by omega) h.within]
/-- What Edit answers of a spoilt pack is the pack of the changed text. -/
theorem edit_spoilt (hS : SumsOk) {q T T2 f : ByteArray} {d s L x a : Nat} {bad : List Nat} {fs : List (List Nat)} (h : Spoilt q d s T.size L (pieces d s T) bad fs) (hb : bad.length ≤ s) (hx : x ≤ 2) (hat : a + f.size ≤ T.size) (h2 : nums T2 = overL (nums T) a (nums f)) (w : World) (ht : Table w) :
    Calls Tryd.prog 14 #[.string q, .int .i64 x, .int .i64 a, .string f] w fun e w' => e = .returned (.tuple #[.string (packS d s T2.size (pieces d s T2)), .int .i64 0]) ∧ Below w.heap.size w w' := by
  have hd := h.is.d2
  have hs := h.is.s2
  have hLe := h.is.eL
  have hsz : T2.size = T.size := by rw [← nums_length, h2, overL_length _ _ _ (by rw [nums_length, nums_length]; exact hat), nums_length]
  have := Pk.wEdit_ok q x a f d s T.size L T (pieces d s T) (openBad q) h.is.d1 hd hs h.is.n2 hLe (pieces_length d s T) (fun p hp => by rw [pieces_sizes, hLe]) hat (mend_spoilt hS h hb hx) w ht
  have e : newPieces d s L a f (pieces d s T) = pieces d s T2 := by
    unfold newPieces
    rw [hLe]
    exact change_pieces d s a T T2 f (by omega) hat h2
  rw [e] at this
  rw [hsz]
  exact this
theorem read_spoilt (hS : SumsOk) {q T : ByteArray} {d s L x : Nat} {bad : List Nat} {fs : List (List Nat)} (h : Spoilt q d s T.size L (pieces d s T) bad fs) (hb : bad.length ≤ s) (hx : x ≤ 2) (w : World) (ht : Table w) :
    Calls Tryd.prog 11 #[.string q, .int .i64 x] w fun e w' => e = .returned (.tuple #[.string T, .int .i64 0]) ∧ Below w.heap.size w w' :=
  Pk.wRead_ok q x d s T.size T (pieces d s T) (openBad q) (mend_spoilt hS h hb hx) w ht
theorem heal_spoilt (hS : SumsOk) {q T : ByteArray} {d s L x : Nat} {bad : List Nat} {fs : List (List Nat)} (h : Spoilt q d s T.size L (pieces d s T) bad fs) (hb : bad.length ≤ s) (hx : x ≤ 2) (w : World) (ht : Table w) :
    Calls Tryd.prog 12 #[.string q, .int .i64 x] w fun e w' => ∃ vb, e = .returned (.tuple #[.string (packS d s T.size (pieces d s T)), vb, .int .i64 0]) ∧ w'.ownsRow w.heap.size 3 1 vb (openBad q).length (intsV (openBad q)) ∧ Below w.heap.size w w' := by
  have h1 := spoilt_size h
  have h2 := h.is.eL
  exact Pk.wHeal_ok q x d s T.size T (pieces d s T) (openBad q) h.is.d2 h.is.s2 (pieces_length d s T) (fun p hp => by rw [pieces_sizes]; omega) (mend_spoilt hS h hb hx) w ht
theorem open_spoilt {q : ByteArray} {d s n L : Nat} {ps : List ByteArray} {bad : List Nat} {fs : List (List Nat)} (h : Spoilt q d s n L ps bad fs) (w : World) :
    Calls Tryd.prog 10 #[.string q] w fun e w' => ∃ b vb, w.heap.size ≤ b ∧ e = .returned (.tuple #[.agg #[.int .i64 d, .int .i64 s, .int .i64 n], .slice (some ⟨b, 0, none⟩) (d + s) (d + s), vb, .int .i64 0]) ∧ Blk w' b 9 (strV (openPieces q)) ∧ w'.ownsRow w.heap.size 3 1 vb (openBad q).length (intsV (openBad q)) ∧ Below w.heap.size w w' := by
  have h1 := spoilt_size h
  have := Pk.wOpen_ok q (by omega) h.is.ok h.is.cut w
  rw [h.is.hD, h.is.hS, h.is.hN, h.pieces_length] at this
  exact this
end Go.Proofs.YtokmllopbfmadabDoor.KeepW
