import Derived.Deep.QuietTactic
import Derived.BigQuiet
import Derived.Test.YtokmllopbfmadabDoorGShaped
import Derived.Test.YtokmllopbfmadabDoorGRefRestored
import Derived.Test.YtokmllopbfmadabDoorGSpoilMath
namespace Go.Proofs.YtokmllopbfmadabDoor.Ref
open Go.RowKit Mem FieldWalks Tab ByTab Parts
open Gf (Bytes newP)
open Plans (But rowF intsV infoInt wpList_append_row made_cells owns_form rowF_length)

theorem wpList_convert_w {P : Program} (w : World) {ops : Array Oper} {rest : List Oper} {o : Oper} {a : Act} {Q : Exit → Act → World → Prop}
    (hgd : o.guard = none) (src dst : TypeId) (x : Operand) (hop : o.op = Op.convert src dst x) (v r : Value) (w' : World) (hx : a.eval x = v) (hrun : (convert src dst v).run P w = .ok r w')
    (hK : wpList P ops Q rest (a.put o.dst r) w') : wpList P ops Q (o :: rest) a w := by
  refine wpList_plain hgd fun K hK' => ?_
  unfold Oper.wp
  simp [execOp, hop, hx, hrun, Result.andThen]
  exact hK' _ _ hK
theorem infoBs : (Tryd.prog.info? 56).map (fun i => (i.zero, i.size, i.bytes)) = some (some (.slice none 0 0), 1, 24) := by kernel_rfl
theorem Row8.grown {w w' : World} {base size n : Nat} {e : TypeId} {v : Value} {xs : List Value} {b : Nat} {l : List Nat} (h : w.ownsRow base e size v n xs) (hg : w.grownBy w' v.ownBlock) (hr : Row8 w b l) (ht : 5 ≠ e) : Row8 w' b l := by
  refine hr.of_block (hg.block b hr.lt fun e1 => ?_)
  obtain ⟨cs, fr, hb, _⟩ := hr
  rcases h.2 with ⟨rfl, _⟩ | ⟨g', cap, cur', rfl, _, hh, _⟩
  · simp [Value.ownBlock] at e1
  · simp [Value.ownBlock] at e1
    subst e1
    rw [hb] at hh
    simp at hh
    exact ht hh.2.1
/-- The rows that were made of strings so far. -/
structure Made (w wr : World) (L p : Nat) (pieces : List ByteArray) (bs : List Nat) (us : List Value) : Prop where
  len : bs.length = p
  ulen : us.length = p
  nodup : bs.Nodup
  at_ : ∀ q, (h : q < bs.length) → ∃ c, us[q]? = some (.slice (some ⟨bs[q], 0, none⟩) L c)
  row : ∀ q, (h : q < bs.length) → Row8 wr bs[q] (nums (pieces.getD q ByteArray.empty))
  low : ∀ b, b ∈ bs → w.heap.size ≤ b ∧ b < wr.heap.size
theorem Made.to {w wr wr' : World} {L p : Nat} {pieces : List ByteArray} {bs : List Nat} {us : List Value} (h : Made w wr L p pieces bs us) (hb : Below wr.heap.size wr wr') : Made w wr' L p pieces bs us :=
  ⟨h.len, h.ulen, h.nodup, h.at_, fun q hq => (h.row q hq).to hb, fun b hm => ⟨(h.low b hm).1, Nat.lt_of_lt_of_le (h.low b hm).2 hb.size⟩⟩
theorem Made.add {w wr : World} {L p b c : Nat} {pieces : List ByteArray} {bs : List Nat} {us : List Value} (h : Made w wr L p pieces bs us) (hb : Row8 wr b (nums (pieces.getD p ByteArray.empty))) (hn : b ∉ bs) (hlow : w.heap.size ≤ b) :
    Made w wr L (p + 1) pieces (bs ++ [b]) (us ++ [.slice (some ⟨b, 0, none⟩) L c]) := by
  have hl := h.len
  have hul := h.ulen
  refine ⟨by simp [hl], by simp [hul], ?_, fun q hq => ?_, fun q hq => ?_, fun x hx => ?_⟩
  · rw [List.nodup_append]
    refine ⟨h.nodup, by simp, fun a ha x hx => ?_⟩
    simp at hx; subst hx
    intro e; exact hn (e ▸ ha)
  · by_cases e : q < bs.length
    · obtain ⟨c', hc'⟩ := h.at_ q e
      exact ⟨c', by rw [List.getElem?_append_left (by omega), List.getElem_append_left e]; exact hc'⟩
    · have : q = bs.length := by simp at hq; omega
      subst this
      exact ⟨c, by rw [List.getElem?_append_right (by omega)]; simp [hl, hul]⟩
  · by_cases e : q < bs.length
    · rw [List.getElem_append_left e]; exact h.row q e
    · have : q = bs.length := by simp at hq; omega
      subst this
      have hb' := hb
      rw [← hl] at hb'
      simpa using hb'
  · rcases List.mem_append.1 hx with hx | hx
    · exact h.low x hx
    · simp at hx; subst hx; exact ⟨hlow, hb.lt⟩
theorem Made.grown {w wr wr' : World} {L p : Nat} {pieces : List ByteArray} {bs : List Nat} {us : List Value} {base size n : Nat} {e : TypeId} {v : Value} {xs : List Value} (h : Made w wr L p pieces bs us) (ho : wr.ownsRow base e size v n xs) (hg : wr.grownBy wr' v.ownBlock) (ht : 5 ≠ e) : Made w wr' L p pieces bs us :=
  ⟨h.len, h.ulen, h.nodup, h.at_, fun q hq => (h.row q hq).grown ho hg ht, fun b hm => ⟨(h.low b hm).1, Nat.lt_of_lt_of_le (h.low b hm).2 hg.size⟩⟩
theorem Made.out {w wr : World} {L n g cap : Nat} {pieces : List ByteArray} {bs : List Nat} {us : List Value} (h : Made w wr L n pieces bs us) (ho : wr.ownsRow w.heap.size 56 1 (.slice (some ⟨g, 0, none⟩) n cap) n us) (hpos : 0 < n) (hsz : ∀ p, p < n → (nums (pieces.getD p ByteArray.empty)).length = L) :
    ∃ us', OutAt wr g n L bs us' (fun p => rowF L (oldOf pieces p)) ∧ w.heap.size ≤ g := by
  obtain ⟨_, h2⟩ := ho
  rcases h2 with ⟨h0, h1⟩ | ⟨g', cap', cur, hv, hg, hh, _, _, _, ht⟩
  · omega
  · injection hv with hv _ _
    injection hv with hv
    injection hv with hv
    subst hv
    have hl := h.len
    have hul := h.ulen
    refine ⟨cur.toList, ⟨by unfold Blk; rw [hh], hl, h.nodup, fun p hp => by simp, fun p hp => ?_, fun p hp => ?_⟩, hg⟩
    · obtain ⟨c, hc⟩ := h.at_ p hp
      refine ⟨c, ?_⟩
      rw [Nat.mul_one] at ht
      rw [← ht, List.getElem?_take_of_lt (by omega)] at hc
      exact hc
    · have := h.row p hp
      have e : rowF L (oldOf pieces p) = nums (pieces.getD p ByteArray.empty) := by
        apply List.ext_getElem
        · rw [hsz p (by omega)]; simp
        · intro t h1 h2
          simp only [rowF, List.getElem_map, List.getElem_range, oldOf]
          rw [List.getD_eq_getElem?_getD, List.getElem?_eq_getElem h2, Option.getD_some]
      rw [e]; exact this

end Go.Proofs.YtokmllopbfmadabDoor.Ref
