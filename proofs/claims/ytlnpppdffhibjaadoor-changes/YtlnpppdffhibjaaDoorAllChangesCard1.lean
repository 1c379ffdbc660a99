import Derived.Test.YtlnpppdffhibjaaDoorRefGather
import Derived.Test.YtlnpppdffhibjaaDoorParts
import Derived.Test.YtlnpppdffhibjaaDoorChangeMem
import Derived.Deep.QuietTactic
import Derived.BigQuiet
import Derived.Test.YtlnpppdffhibjaaDoorShaped
import Derived.Test.YtlnpppdffhibjaaDoorFactors2
import Derived.Test.YtlnpppdffhibjaaDoorAsTexts
import Derived.Test.YtlnpppdffhibjaaDoorLendB
import Derived.Test.YtlnpppdffhibjaaDoorSpreads
import Derived.OpenShut
import Derived.Deep.Strs
import Derived.ChangeSlices
import Derived.SizedLaws
import Derived.Carry
import Derived.Test.YtlnpppdffhibjaaDoorCards
import Derived.Test.YtlnpppdffhibjaaDoorTie
import Derived.Deep.DeepHandedRow
import Derived.Lib.LaidTab
import Derived.LaidMore
import Derived.ChangeMaps5
namespace Go.Proofs.YtlnpppdffhibjaaDoor.Ref
open Go.RowKit Mem FieldWalks Tab ByTab Parts
open Gf (Bytes sumTo addTo chosen left_ Fits)

set_option maxRecDepth 100000 in
set_option maxHeartbeats 1000000 in
theorem rGather_ok (d s x n L : Nat) (pieces : List ByteArray) (lost : List Int) (pv lv : Value) (w : World) (hp : StrsAt w pv pieces) (hl : IsC w lv lost) (hd : 1 ≤ d) (hd2 : d ≤ 10) (hs : s ≤ 6) (hx : x ≤ 2) (hn : n ≤ 400) (hL : L = (n + d - 1) / d) (hsz : ∀ p, (h : p < pieces.length) → pieces[p].size < 2 ^ 62)
    (hyes : ShapeOk d s L pieces lost) (hfew : lost.length ≤ s) :
    Calls Tryd.prog 49 #[.int .i64 d, .int .i64 s, .int .i64 x, .int .i64 n, pv, lv] w fun e w' => ∃ v ps, e = .returned (.tuple #[.string (mkS (ps.flatten.take n)), v, .int .i64 0]) ∧
      Fits d L (chosen (left_ lost) d s) (fun p => nums (pieces.getD p ByteArray.empty)) ps ∧ StrsNew w' w.heap.size v (texts ps (sums (facs d s) ps L)) ∧ Below w.heap.size w w' := by
  have hok : okCounts d s = true := okCounts_yes _ _ (by omega)
  have how : okWay x = true := okWay_yes _ (by omega)
  have e1 : decide ((n : Int) < 0) = false := decide_eq_false (by omega)
  have e2 : decide ((400 : Int) < (n : Int)) = false := decide_eq_false (by omega)
  have e3 : decide ((s : Int) < (lost.length : Int)) = false := decide_eq_false (by omega)
  have hLs : L ≤ 400 := by have := ceil_le n d hd; omega
  have hnL : n ≤ d * L := by rw [hL]; exact ceil_mul n d (by omega)
  have HSH : Hid (∀ w', Drew w w' → Calls Tryd.prog 69 #[.int .i64 d, .int .i64 s, .int .i64 n, pv, lv] w' fun e w'' => e = .returned (.bool true) ∧ Drew w w'') := by
    intro w' hw
    refine (shaped_any d s n L pieces lost pv lv w' (hp.to hw.below) (hw.isC hl) (by omega) (by have := hyes.count; omega) hd hd2 hs hn hL hsz).mono ?_
    rintro e w'' ⟨⟨b, rfl, hb⟩, ⟨m, rfl⟩⟩
    rw [hb.2 hyes]
    exact ⟨rfl, hw.more m⟩
  have HRE : Hid (∀ w', Drew w w' → Calls Tryd.prog 70 #[.int .i64 d, pv, lv] w' fun e w'' =>
      ∃ v ps, e = .returned v ∧ RowsAt w'' v ps ∧ Fits d L (chosen (left_ lost) d s) (fun p => nums (pieces.getD p ByteArray.empty)) ps ∧ Below w.heap.size w w'') := by
    intro w' hw
    refine (restored_any d s L pieces lost pv lv w' (hp.to hw.below) (hw.isC hl) hfew hyes hd hd2 hs hLs).mono ?_
    rintro e w'' ⟨v, ps, he, h1, h2, h3⟩
    exact ⟨v, ps, he, h1, h2, hw.below.trans (h3.mono hw.below.size)⟩
  obtain ⟨lao, lex, rfl, _⟩ := hl
  clear hsz hyes hp hL
  go_enter Tryd.func49, Tryd.ntmps49
  go_wp2_with fail
  refine (rCounts_any _ _ _).mono ?_
  rintro e w' ⟨rfl, rfl⟩
  go_wp2_with fail
  refine (rWay_any _ _).mono ?_
  rintro e w' ⟨rfl, rfl⟩
  go_wp2_with fail
  refine (HSH.out _ ⟨0, rfl⟩).mono ?_
  rintro e w2 ⟨rfl, hw2⟩
  go_wp2_with fail
  refine (HRE.out _ hw2).mono ?_
  rintro e w3 ⟨v, ps, rfl, hrows, hfit, hb3⟩
  have hpl := hfit.len
  obtain ⟨b, off, cap, rfl, hblt, hc⟩ := hrows.pos (by omega)
  have HRO : Hid (RowsAt w3 (.slice (some ⟨b, off, none⟩) ps.length cap) ps) := hrows
  have HFI : Hid (Fits d L (chosen (left_ lost) d s) (fun p => nums (pieces.getD p ByteArray.empty)) ps) := hfit
  have HC : Hid (∀ k, (h : k < ps.length) → ∃ u, w3.cell? ⟨b, off + k, none⟩ = some u ∧ BsAt w3 u ps[k]) := hc
  rw [hpl]
  have HPL : Hid (ps.length = d) := hpl
  clear hrows hfit hc hpl HSH HRE
  go_wp2
  go_loop [17, 18] (fun t i => ∃ j : Nat, j ≤ d ∧ i = .int .i64 j ∧ t = .string (mkS (ps.take j).flatten)) (fun _ i => d - (intOf i).toNat)
  case atStart => exact ⟨0, Nat.zero_le _, rfl, rfl⟩
  case round =>
    obtain ⟨j, hj, rfl, rfl⟩ := hrel
    by_cases hjd : j < d
    · have hjl : j < ps.length := by rw [HPL.out]; exact hjd
      obtain ⟨u, hu, hbs⟩ := HC.out j hjl
      have HBS : Hid (BsAt w3 u ps[j]) := hbs
      have HNX : Hid (mkS (ps.take j).flatten ++ mkS ps[j] = mkS (ps.take (j + 1)).flatten) := by show _ = _; rw [mkS_append, ← flatten_next ps j hjl]
      have hA : (mkS (ps.take j).flatten).size ≤ 4000 := by
        rw [mkS_size, flatten_length (ps.take j) L (fun i hi => by rw [List.getElem_take]; exact HFI.out.size i (by simp at hi; omega))]
        have h1 : (ps.take j).length ≤ 10 := by rw [List.length_take]; omega
        exact Nat.le_trans (Nat.mul_le_mul h1 hLs) (by decide)
      have hB : (mkS ps[j]).size ≤ 400 := by rw [mkS_size, HFI.out.size j hjl]; exact hLs
      clear hbs
      go_wp2_with (refine wpList_convert _ rfl 93 9 _ rfl u (.string (mkS ps[j])) rfl (conv_str _ _ _ HBS.out) ?_)
      go_round
      case rel => exact ⟨j + 1, by omega, by go_num, by rw [← HNX.out]⟩
      case measure => simp [intOf]; omega
    · obtain rfl : j = d := by omega
      have hfl : (mkS (ps.take j).flatten).size = j * L := by
        rw [List.take_of_length_le (by have := HPL.out; omega), mkS_size, flatten_length ps L HFI.out.size, HPL.out]
      obtain ⟨T, hT⟩ : ∃ T, T = mkS (ps.take j).flatten := ⟨_, rfl⟩
      rw [← hT] at hfl ⊢
      have HT : Hid (T.extract 0 n = mkS (ps.flatten.take n)) := by
        show _ = _
        rw [hT, mkS_take, show ps.take j = ps from List.take_of_length_le (by have := HPL.out; omega)]
      have hal := all_any ps L s _ w3.drew (HRO.out.to (Below.refl _ _).drew) (by have := HPL.out; omega) (by have := HPL.out; omega) (by omega) HFI.out.size HFI.out.byte (by omega)
      rw [HPL.out] at hal
      have HAL : Hid (Calls Tryd.prog 63 #[.slice (some ⟨b, off, none⟩) j cap, .int .i64 s] w3.drew fun e w' => ∃ v, e = .returned v ∧ StrsNew w' w3.heap.size v (texts ps (sums (facs j s) ps L)) ∧ Below w3.heap.size w3.drew w') := hal
      clear hal hT
      have hnT : n ≤ T.size := by omega
      have hnT2 : (n : Int) ≤ (T.size : Int) := by omega
      have hT4 : T.size ≤ 4000 := by
        rw [hfl]; exact Nat.le_trans (Nat.mul_le_mul hd2 hLs) (by decide)
      clear hfl
      go_wp2_with fail
      go_region_with (go_at_call 63; refine Calls.mono HAL.out ?_; rintro e w4 ⟨v, rfl, hst, hb4⟩)
      all_goals
        go_wp2
        go_ret3
        exact ⟨v, ps, by rw [← HT.out]; rfl, HFI.out, hst.low hb3.size, hb3.drew.trans (hb4.mono hb3.size)⟩
end Go.Proofs.YtlnpppdffhibjaaDoor.Ref

namespace Go.Proofs.YtlnpppdffhibjaaDoor.Ref
open Go.RowKit Parts
/-- The old byte. -/
def oldOf (pieces : List ByteArray) (p t : Nat) : Nat := (nums (pieces.getD p ByteArray.empty)).getD t 0
end Go.Proofs.YtlnpppdffhibjaaDoor.Ref

namespace Go.Proofs.YtlnpppdffhibjaaDoor.Ref
open Go.RowKit Mem FieldWalks Tab ByTab Parts
open Gf (Bytes newP)
open Plans (But rowF intsV infoInt wpList_append_row made_cells owns_form rowF_length)

theorem wpList_convert_w {P : Program} (w : World) {ops : Array Oper} {rest : List Oper} {o : Oper} {a : Act} {Q : Exit → Act → World → Prop}
    (hgd : o.guard = none) (src dst : TypeId) (x : Operand) (hop : o.op = Op.convert src dst x) (v r : Value) (w' : World) (hx : a.eval x = v) (hrun : (convert src dst v).run P w = .ok r w')
    (hK : wpList P ops Q rest (a.put o.dst r) w') : wpList P ops Q (o :: rest) a w := by
  refine wpList_plain hgd fun K hK' => ?_
  unfold Oper.wp
  simp [execOp, hop, hx, hrun, Result.andThen]
  exact hK' _ _ hK
theorem infoBs : (Tryd.prog.info? 93).map (fun i => (i.zero, i.size, i.bytes)) = some (some (.slice none 0 0), 1, 24) := by kernel_rfl
theorem Row8.grown {w w' : World} {base size n : Nat} {e : TypeId} {v : Value} {xs : List Value} {b : Nat} {l : List Nat} (h : w.ownsRow base e size v n xs) (hg : w.grownBy w' v.ownBlock) (hr : Row8 w b l) (ht : 5 ≠ e) : Row8 w' b l := by
  refine hr.of_block (hg.block b hr.lt fun e1 => ?_)
  obtain ⟨cs, fr, hb, _⟩ := hr
  rcases h.2 with ⟨rfl, _⟩ | ⟨g', cap, cur', rfl, _, hh, _⟩
  · simp [Value.ownBlock] at e1
  · simp [Value.ownBlock] at e1
    subst e1
    rw [hb] at hh
    simp at hh
    exact ht hh.2.1
/-- The rows that were made of strings so far. -/
structure Made (w wr : World) (L p : Nat) (pieces : List ByteArray) (bs : List Nat) (us : List Value) : Prop where
  len : bs.length = p
  ulen : us.length = p
  nodup : bs.Nodup
  at_ : ∀ q, (h : q < bs.length) → ∃ c, us[q]? = some (.slice (some ⟨bs[q], 0, none⟩) L c)
  row : ∀ q, (h : q < bs.length) → Row8 wr bs[q] (nums (pieces.getD q ByteArray.empty))
  low : ∀ b, b ∈ bs → w.heap.size ≤ b ∧ b < wr.heap.size
theorem Made.to {w wr wr' : World} {L p : Nat} {pieces : List ByteArray} {bs : List Nat} {us : List Value} (h : Made w wr L p pieces bs us) (hb : Below wr.heap.size wr wr') : Made w wr' L p pieces bs us :=
  ⟨h.len, h.ulen, h.nodup, h.at_, fun q hq => (h.row q hq).to hb, fun b hm => ⟨(h.low b hm).1, Nat.lt_of_lt_of_le (h.low b hm).2 hb.size⟩⟩
theorem Made.add {w wr : World} {L p b c : Nat} {pieces : List ByteArray} {bs : List Nat} {us : List Value} (h : Made w wr L p pieces bs us) (hb : Row8 wr b (nums (pieces.getD p ByteArray.empty))) (hn : b ∉ bs) (hlow : w.heap.size ≤ b) :
    Made w wr L (p + 1) pieces (bs ++ [b]) (us ++ [.slice (some ⟨b, 0, none⟩) L c]) := by
  have hl := h.len
  have hul := h.ulen
  refine ⟨by simp [hl], by simp [hul], ?_, fun q hq => ?_, fun q hq => ?_, fun x hx => ?_⟩
  · rw [List.nodup_append]
    refine ⟨h.nodup, by simp, fun a ha x hx => ?_⟩
    simp at hx; subst hx
    intro e; exact hn (e ▸ ha)
  · by_cases e : q < bs.length
    · obtain ⟨c', hc'⟩ := h.at_ q e
      exact ⟨c', by rw [List.getElem?_append_left (by omega), List.getElem_append_left e]; exact hc'⟩
    · have : q = bs.length := by simp at hq; omega
      subst this
      exact ⟨c, by rw [List.getElem?_append_right (by omega)]; simp [hl, hul]⟩
  · by_cases e : q < bs.length
    · rw [List.getElem_append_left e]; exact h.row q e
    · have : q = bs.length := by simp at hq; omega
      subst this
      have hb' := hb
      rw [← hl] at hb'
      simpa using hb'
  · rcases List.mem_append.1 hx with hx | hx
    · exact h.low x hx
    · simp at hx; subst hx; exact ⟨hlow, hb.lt⟩
theorem Made.grown {w wr wr' : World} {L p : Nat} {pieces : List ByteArray} {bs : List Nat} {us : List Value} {base size n : Nat} {e : TypeId} {v : Value} {xs : List Value} (h : Made w wr L p pieces bs us) (ho : wr.ownsRow base e size v n xs) (hg : wr.grownBy wr' v.ownBlock) (ht : 5 ≠ e) : Made w wr' L p pieces bs us :=
  ⟨h.len, h.ulen, h.nodup, h.at_, fun q hq => (h.row q hq).grown ho hg ht, fun b hm => ⟨(h.low b hm).1, Nat.lt_of_lt_of_le (h.low b hm).2 hg.size⟩⟩
theorem Made.out {w wr : World} {L n g cap : Nat} {pieces : List ByteArray} {bs : List Nat} {us : List Value} (h : Made w wr L n pieces bs us) (ho : wr.ownsRow w.heap.size 93 1 (.slice (some ⟨g, 0, none⟩) n cap) n us) (hpos : 0 < n) (hsz : ∀ p, p < n → (nums (pieces.getD p ByteArray.empty)).length = L) :
    ∃ us', OutAt wr g n L bs us' (fun p => rowF L (oldOf pieces p)) ∧ w.heap.size ≤ g := by
  obtain ⟨_, h2⟩ := ho
  rcases h2 with ⟨h0, h1⟩ | ⟨g', cap', cur, hv, hg, hh, _, _, _, ht⟩
  · omega
  · injection hv with hv _ _
    injection hv with hv
    injection hv with hv
    subst hv
    have hl := h.len
    have hul := h.ulen
    refine ⟨cur.toList, ⟨by unfold Blk; rw [hh], hl, h.nodup, fun p hp => by simp, fun p hp => ?_, fun p hp => ?_⟩, hg⟩
    · obtain ⟨c, hc⟩ := h.at_ p hp
      refine ⟨c, ?_⟩
      rw [Nat.mul_one] at ht
      rw [← ht, List.getElem?_take_of_lt (by omega)] at hc
      exact hc
    · have := h.row p hp
      have e : rowF L (oldOf pieces p) = nums (pieces.getD p ByteArray.empty) := by
        apply List.ext_getElem
        · rw [hsz p (by omega)]; simp
        · intro t h1 h2
          simp only [rowF, List.getElem_map, List.getElem_range, oldOf]
          rw [List.getD_eq_getElem?_getD, List.getElem?_eq_getElem h2, Option.getD_some]
      rw [e]; exact this

set_option maxRecDepth 100000 in
set_option maxHeartbeats 2000000 in
theorem rChange_ok (d s n at_ L : Nat) (pieces : List ByteArray) (text : ByteArray) (pv : Value) (w : World) (hp : StrsAt w pv pieces) (hd : 1 ≤ d) (hd2 : d ≤ 10) (hs : s ≤ 6) (hn : n ≤ 400) (hL : L = (n + d - 1) / d) (hsz : ∀ p, (h : p < pieces.length) → pieces[p].size < 2 ^ 62)
    (hyes : ShapeOk d s L pieces []) (hat : at_ + text.size ≤ n) :
    Calls Tryd.prog 54 #[.int .i64 d, .int .i64 s, .int .i64 n, pv, .int .i64 at_, .string text] w fun e w' => ∃ v, e = .returned (.tuple #[v, .int .i64 0]) ∧
      StrsNew w' w.heap.size v ((List.range (d + s)).map fun p => mkS (rowF L (newP d L at_ (nums text) text.size (oldOf pieces) p))) ∧ Below w.heap.size w w' := by
  have hok : okCounts d s = true := okCounts_yes _ _ (by omega)
  have e1 : decide ((n : Int) < 0) = false := decide_eq_false (by omega)
  have e2 : decide ((400 : Int) < (n : Int)) = false := decide_eq_false (by omega)
  have e4 : decide ((at_ : Int) < 0) = false := decide_eq_false (by omega)
  have e5 : decide ((n : Int) < (at_ : Int)) = false := decide_eq_false (by omega)
  have e5n : decide (n < at_) = false := decide_eq_false (by omega)
  have e6 : decide ((n : Int) - (at_ : Int) < (text.size : Int)) = false := decide_eq_false (by omega)
  have hLs : L ≤ 400 := by have := ceil_le n d hd; omega
  have hnL : n ≤ d * L := by rw [hL]; exact ceil_mul n d (by omega)
  have hcn := hyes.count
  have hnil : IsC w (.slice none 0 0) [] := ⟨none, 0, rfl, .inl rfl⟩
  have HSH : Hid (Calls Tryd.prog 69 #[.int .i64 d, .int .i64 s, .int .i64 n, pv, .slice none 0 0] w fun e w'' => e = .returned (.bool true) ∧ Drew w w'') := by
    refine (shaped_any d s n L pieces [] pv _ w hp hnil (by simp) (by omega) hd hd2 hs hn hL hsz).mono ?_
    rintro e w'' ⟨⟨b, rfl, hb⟩, hw⟩
    rw [hb.2 hyes]
    exact ⟨rfl, hw⟩
  obtain ⟨pb, poff, pcap, rfl, hplt, hpc⟩ : ∃ b off cap, pv = .slice (some ⟨b, off, none⟩) pieces.length cap ∧ b < w.heap.size ∧ ∀ k, (h : k < pieces.length) → w.cell? ⟨b, off + k, none⟩ = some (.string pieces[k]) := by
    obtain ⟨ao, cap, rfl, h⟩ := hp
    rcases h with h | ⟨b, off, rfl, h1, h2⟩
    · rw [h] at hcn; simp at hcn; omega
    · exact ⟨b, off, cap, rfl, h1, h2⟩
  have HPC : Hid (∀ k, (h : k < pieces.length) → w.cell? ⟨pb, poff + k, none⟩ = some (.string pieces[k])) := hpc
  have HPS : Hid (∀ k, (h : k < pieces.length) → pieces[k].size = L) := fun k h => hyes.sizes k h (by simp)
  rw [hcn] at HSH ⊢
  have HCN : Hid (pieces.length = d + s) := hcn
  have HEL : Hid (L = (n + d - 1) / d) := hL
  clear hpc hp hyes hcn hsz hnil hL
  go_enter Tryd.func54, Tryd.ntmps54
  go_wp2_with fail
  refine (rCounts_any _ _ _).mono ?_
  rintro e w' ⟨rfl, rfl⟩
  go_wp2_with fail
  refine Calls.mono HSH.out ?_
  rintro e w2 ⟨rfl, hw2⟩
  have hb2 := hw2.below
  clear hw2 HSH
  go_wp2
  go_loopw [15, 16] (fun t i wr => ∃ (p : Nat) (bs : List Nat) (us : List Value), p ≤ d + s ∧ i = .int .i64 p ∧ wr.ownsRow w'.heap.size 93 1 t p us ∧ Made w' wr L p pieces bs us ∧ Below w'.heap.size w' wr) (fun _ i _ => d + s - (intOf i).toNat)
  case atStart => exact ⟨0, [], [], Nat.zero_le _, rfl, World.ownsRow_nil _ _ _ _, ⟨rfl, rfl, by simp, fun q hq => by simp at hq, fun q hq => by simp at hq, fun b hb => by simp at hb⟩, hb2⟩
  case round =>
    obtain ⟨p, bs, us, hp, rfl, hown, hmade, hbel⟩ := hrel
    obtain ⟨ta, tc, rfl⟩ := owns_form hown
    by_cases hpd : p < d + s
    · have hpl : p < pieces.length := by rw [HCN.out]; exact hpd
      have c1 := HPC.out p hpl
      rw [← hbel.cell (p := ⟨pb, poff + p, none⟩) hplt] at c1
      obtain ⟨x, hx⟩ : ∃ x, x = pieces[p] := ⟨_, rfl⟩
      rw [← hx] at c1
      have hxs : x.size = L := by rw [hx]; exact HPS.out p hpl
      have HX : Hid (pieces.getD p ByteArray.empty = x) := by show _ = _; rw [hx]; simp [hpl]
      have hsz := hbel.size
      have HB : Hid (Below w'.heap.size w' (Lib.bytesWorld wr 5 x)) := hbel.trans ((below_bytes wr x).mono hsz)
      have HO : Hid ((Lib.bytesWorld wr 5 x).ownsRow w'.heap.size 93 1 (.slice ta p tc) p us) := ownsRow_to hown (below_bytes wr x)
      have HM : Hid (Made w' (Lib.bytesWorld wr 5 x) L p pieces bs us) := hmade.to (below_bytes wr x)
      have HR : Hid (Row8 (Lib.bytesWorld wr 5 x) wr.heap.size (nums x)) := Row8.new wr x
      have hbn : wr.heap.size ∉ bs := fun hm => by have := (hmade.low _ hm).2; omega
      have HBN : Hid (wr.heap.size ∉ bs) := hbn
      have hconv := Lib.run_convert_string_bytes (P := Tryd.prog) wr 9 93 5 x Tryd.underlying9 Tryd.underlying93 Tryd.underlying5
      rw [hxs] at hconv
      have hws : (Lib.bytesWorld wr 5 x).heap.size = wr.heap.size + 1 := Lib.bytesWorld_size _ _ _
      have HWS : Hid ((Lib.bytesWorld wr 5 x).heap.size = wr.heap.size + 1) := hws
      generalize grownCap wr L 0 5 = gc at hconv
      generalize Lib.bytesWorld wr 5 x = wb at HB HO HM HR hconv HWS
      have HCV : Hid ((convert 9 93 (.string x)).run Tryd.prog wr = .ok (.slice (some ⟨wr.heap.size, 0, none⟩) L gc) wb) := hconv
      have hszb := HB.out.size
      have HMA : Hid (Made w' wb L (p + 1) pieces (bs ++ [wr.heap.size]) (us ++ [.slice (some ⟨wr.heap.size, 0, none⟩) L gc])) := HM.out.add (by rw [HX.out]; exact HR.out) HBN.out hsz
      clear hconv hws hown hmade hbn hx hxs
      go_wp2_with (first | (refine wpList_convert_w _ rfl 9 93 _ rfl (.string x) _ wb rfl HCV.out ?_) | (at_builtin; refine wpList_append_row _ rfl _ _ 91 rfl w'.heap.size 93 (.slice none 0 0) 1 24 Tryd.underlying91 infoBs rfl (by decide) (by decide) _ _ _ rfl (by exact HO.out.alloc _) ⟨wb.heap.size, 0, none⟩ 1 [.slice (some ⟨wr.heap.size, 0, none⟩) L gc] rfl rfl (made_cells wb 93 _) (by simp [Value.oneCell']) (by omega) (by simp; omega) ?_; intro v' w3 hown' hg hbel'))
      have HM3 : Hid (Made w' w3 L (p + 1) pieces (bs ++ [wr.heap.size]) (us ++ [.slice (some ⟨wr.heap.size, 0, none⟩) L gc])) := (HMA.out.to ((Below.refl _ _).alloc (Nat.le_refl _) _)).grown (by exact HO.out.alloc _) hg (by decide)
      have HB3 : Hid (Below w'.heap.size w' w3) := hbel' _ _ (HB.out.alloc hszb _) (Nat.le_refl _)
      clear hg hbel'
      go_roundw
      case rel => exact ⟨p + 1, _, _, by omega, by go_num, hown', HM3.out, HB3.out⟩
      case measure => simp [intOf]; omega
    · obtain rfl : p = d + s := by omega
      obtain ⟨g, cap, hta⟩ : ∃ g c, Value.slice ta (d + s) tc = .slice (some ⟨g, 0, none⟩) (d + s) c := by
        rcases hown.2 with ⟨h0, h1⟩ | ⟨g, cap, cur, h0, _⟩
        · omega
        · exact ⟨_, _, h0⟩
      injection hta with t1 t2 t3
      subst t1 t3
      obtain ⟨us', hout, hgb⟩ := hmade.out hown (by omega) (fun q hq => by
        have hql : q < pieces.length := by rw [HCN.out]; exact hq
        rw [nums_length, show pieces.getD q ByteArray.empty = pieces[q] by simp [hql]]; exact HPS.out q hql)
      have HOUT : Hid (OutAt wr g (d + s) L bs us' (fun p => rowF L (oldOf pieces p))) := hout
      obtain ⟨w4, rfl⟩ : ∃ w4, w4 = wr := ⟨_, rfl⟩
      have hmk := fun w => make_ints (d * s) (by have := Nat.mul_le_mul hd2 hs; omega) w
      have hds : (d : Int) * (s : Int) = ((d * s : Nat) : Int) := by simp
      have hds2 : d * s ≤ 60 := Nat.mul_le_mul hd2 hs
      have HDS : Hid (d * s = d * s) := rfl
      have HLOW : Hid (∀ b, b ∈ bs → w'.heap.size ≤ b) := fun b hb => (hmade.low b hb).1
      clear t2 hout hown hmade
      go_wp2_with fail
      refine (size_any d n (by omega) (by omega) (by omega) _).mono ?_
      rintro e w5 ⟨rfl, rfl⟩
      rw [← HEL.out]
      obtain ⟨N, hN⟩ : ∃ N, N = d * s := ⟨_, rfl⟩
      rw [← hN] at hds hds2 hmk
      have HN : Hid (N = d * s) := hN
      clear hN HDS
      go_wp2
      go_loopw [19] (fun iv wq => ∃ i : Nat, i ≤ N ∧ iv = .int .i64 i ∧ Blk wq w5.heap.size 3 (intsV (mix (rowF N fun i => Gf.inv ((d + i / d) ^^^ (i % d))) (List.replicate N 0) i)) ∧ Below w5.heap.size w5 wq) (fun iv _ => N - (intOf iv).toNat)
      case atStart => exact ⟨0, Nat.zero_le _, rfl, by rw [mix_zero]; exact made_ints w5 N, (Below.refl _ _).alloc (Nat.le_refl _) _⟩
      case round =>
        obtain ⟨i, hi, rfl, hblk, hbq⟩ := hrel
        by_cases hiN : i < N
        · have hlf : (rowF N fun i => Gf.inv ((d + i / d) ^^^ (i % d))).length = (List.replicate N 0).length := by simp
          have r3 := hblk.cell_some (k := i) (v := .int .i64 0) (by
            have := mix_at (new := rowF N fun i => Gf.inv ((d + i / d) ^^^ (i % d))) (old := List.replicate N 0) (k := i) hlf (by simpa using hiN)
            simp [intsV, this])
          have r4 := hblk.free i
          have HNW : Hid (Blk (wr.setCell ⟨w5.heap.size, i, none⟩ (.int .i64 (Gf.inv ((d + i / d) ^^^ (i % d)) : Nat))) w5.heap.size 3 (intsV (mix (rowF N fun i => Gf.inv ((d + i / d) ^^^ (i % d))) (List.replicate N 0) (i + 1)))) := by
            refine (hblk.set i _).eq ?_
            have := mix_set (new := rowF N fun i => Gf.inv ((d + i / d) ^^^ (i % d))) (old := List.replicate N 0) (k := i) hlf (by simpa using hiN)
            rw [← this]
            simp [intsV, List.map_set, rowF]
          obtain ⟨a, ha⟩ : ∃ a, a = i / d := ⟨_, rfl⟩
          obtain ⟨b, hb⟩ : ∃ b, b = i % d := ⟨_, rfl⟩
          have q1 : (i : Int) / (d : Int) = (a : Int) := by rw [ha]; simp
          have q2 : (i : Int) % (d : Int) = (b : Int) := by rw [hb]; simp
          have q3 : Int.tdiv (i : Int) (d : Int) = (a : Int) := by rw [Int.tdiv_eq_ediv_of_nonneg (by omega)]; exact q1
          have q4 : Int.tmod (i : Int) (d : Int) = (b : Int) := by rw [Int.tmod_eq_emod_of_nonneg (by omega)]; exact q2
          have hbd : b < d := by rw [hb]; exact Nat.mod_lt _ (by omega)
          have had : a ≤ 60 := by rw [ha]; exact Nat.le_trans (Nat.div_le_self _ _) (by omega)
          rw [← ha, ← hb] at HNW
          have HBQ : Hid (Below w5.heap.size w5 wr) := hbq
          have q5 : IntKind.i64.wrap (a : Int) = a := by rw [IntKind.wrap_i64]; omega
          have q6 : IntKind.i64.wrap (b : Int) = b := by rw [IntKind.wrap_i64]; omega
          have q7 : ¬ (d : Int) = 0 := by omega
          have q8 : ¬ d = 0 := by omega
          have q9 : ((d : Int) == 0) = false := by simp; omega
          clear ha hb hblk hbq hlf
          go_wp2_with fail
          go_region_with (go_at_call 74; refine (factor_any d a b (by omega) (by omega) hbd _).mono ?_; rintro e w2 ⟨rfl, rfl⟩)
          all_goals
            go_wp2
            go_roundw
            case rel => exact ⟨i + 1, by omega, by go_num, HNW.out.drew, (HBQ.out.setCell (Nat.le_refl _) _).drew⟩
            case measure => simp [intOf]; omega
        · obtain rfl : i = N := by omega
          have hfac : Blk wr w5.heap.size 3 (intsV (rowF i fun i => Gf.inv ((d + i / d) ^^^ (i % d)))) := by
            have e := mix_all (new := rowF i fun i => Gf.inv ((d + i / d) ^^^ (i % d))) (old := List.replicate i 0) (by simp)
            rw [List.length_replicate] at e
            rw [e] at hblk
            exact hblk
          have HO6 : Hid (OutAt wr g (d + s) L bs us' (fun p => rowF L (newP d L at_ (nums text) 0 (oldOf pieces) p))) := by
            refine (HOUT.out.to hbq).congr fun p _ => ?_
            exact Plans.rowF_congr fun t _ => Gf.newP_zero _ _ _ _ _ _ _
          have HF6 : Hid (Blk wr w5.heap.size 3 (intsV (rowF i fun i => Gf.inv ((d + i / d) ^^^ (i % d))))) := hfac
          have HB6 : Hid (Below w'.heap.size w' wr) := hbel.trans (hbq.mono hbel.size)
          have hsz5 := hbel.size
          obtain ⟨w6, rfl⟩ : ∃ w6, w6 = wr := ⟨_, rfl⟩
          have HTB : Hid (Bytes (nums text)) := nums_bytes text
          have HOB : Hid (∀ p t, oldOf pieces p t < 256) := fun p t => (nums_bytes _).getD t
          clear hblk hbq hfac HOUT hmk hbel hb2
          obtain ⟨FB, hFB⟩ : ∃ FB, FB = w5.heap.size := ⟨_, rfl⟩
          rw [← hFB] at HF6
          have hFB5 : w'.heap.size ≤ FB := by omega
          have HFB : Hid (FB = w5.heap.size) := hFB
          go_wp2
          go_loopw [20] (fun kv wq => ∃ k : Nat, k ≤ text.size ∧ kv = .int .i64 k ∧ OutAt wq g (d + s) L bs us' (fun p => rowF L (newP d L at_ (nums text) k (oldOf pieces) p)) ∧ Blk wq w5.heap.size 3 (intsV (rowF i fun i => Gf.inv ((d + i / d) ^^^ (i % d)))) ∧ Below w'.heap.size w' wq) (fun kv _ => text.size - (intOf kv).toNat)
          case atStart => exact ⟨0, Nat.zero_le _, rfl, HO6.out, by rw [← HFB.out]; exact HF6.out, HB6.out⟩
          case round =>
            clear HO6 HF6 HB6
            obtain ⟨k, hk, rfl, hout, hfac, hbq⟩ := hrel
            by_cases hkt : k < text.size
            · have hpos : at_ + k < d * L := by omega
              have hL0 : 0 < L := by
                rcases Nat.eq_zero_or_pos L with h | h
                · rw [h, Nat.mul_zero] at hpos; omega
                · exact h
              obtain ⟨j0, hj0⟩ : ∃ j0, j0 = (at_ + k) / L := ⟨_, rfl⟩
              obtain ⟨t0, ht0⟩ : ∃ t0, t0 = (at_ + k) % L := ⟨_, rfl⟩
              have hj0d : j0 < d := by rw [hj0]; exact Nat.div_lt_of_lt_mul (by rw [Nat.mul_comm]; exact hpos)
              have ht0L : t0 < L := by rw [ht0]; exact Nat.mod_lt _ hL0
              have q1 : ((at_ : Int) + (k : Int)) / (L : Int) = (j0 : Int) := by rw [hj0]; simp
              have q2 : ((at_ : Int) + (k : Int)) % (L : Int) = (t0 : Int) := by rw [ht0]; simp
              have q9 : ((L : Int) == 0) = false := by simp; omega
              have q7 : ¬ (L : Int) = 0 := by omega
              have q8 : ¬ L = 0 := by omega
              obtain ⟨b0, c0, hb0, g1, hbg, hb0l, hcell⟩ := hout.read j0 (by omega)
              obtain ⟨g2, g3⟩ := hcell t0 ht0L
              rw [show (rowF L (newP d L at_ (nums text) k (oldOf pieces) j0)).getD t0 0 = newP d L at_ (nums text) k (oldOf pieces) j0 t0 by simp [rowF, ht0L]] at g2
              have hob := Gf.newP_lt (d := d) (L := L) (at_ := at_) (k := k) (p := j0) (t := t0) HTB.out HOB.out (by omega) (by omega)
              obtain ⟨o, ho⟩ : ∃ o, o = newP d L at_ (nums text) k (oldOf pieces) j0 t0 := ⟨_, rfl⟩
              rw [← ho] at g2 hob
              have HO : Hid (o = newP d L at_ (nums text) k (oldOf pieces) j0 t0) := ho
              have HJT : Hid (j0 = (at_ + k) / L ∧ t0 = (at_ + k) % L) := ⟨hj0, ht0⟩
              obtain ⟨ch, hch⟩ : ∃ ch, ch = (text[k]'hkt).toNat := ⟨_, rfl⟩
              have hchb : ch < 256 := by rw [hch]; exact (text[k]'hkt).toNat_lt
              have HCH : Hid ((nums text).getD k 0 = ch) := by show _ = _; rw [hch]; exact nums_get text k hkt
              have hci : ((text[k]'hkt).toNat : Int) = (ch : Int) := by rw [hch]
              obtain ⟨by_, hby⟩ : ∃ by_, by_ = o ^^^ ch := ⟨_, rfl⟩
              have hbyb : by_ < 256 := by rw [hby]; exact Gf.xor_lt hob hchb
              have hxor : bits .xor .i64 (o : Int) (ch : Int) = (by_ : Int) := by rw [hby]; exact Gf.i64_xor _ _ (by omega) (by omega)
              have HBY : Hid (by_ = o ^^^ ch) := hby
              have HOUT : Hid (OutAt wr g (d + s) L bs us' (fun p => rowF L (newP d L at_ (nums text) k (oldOf pieces) p))) := hout
              have HFAC : Hid (Blk wr w5.heap.size 3 (intsV (rowF i fun i => Gf.inv ((d + i / d) ^^^ (i % d))))) := hfac
              have HBQ : Hid (Below w'.heap.size w' wr) := hbq
              have i1 : (j0 : Int) < ((d + s : Nat) : Int) := by omega
              have i1' : (j0 : Int) < (d : Int) + (s : Int) := by omega
              have i2 : (t0 : Int) < (L : Int) := by omega
              have i3 : (k : Int) < (text.size : Int) := by omega
              have w1 : IntKind.i64.wrap (o : Int) = o := by rw [IntKind.wrap_i64]; omega
              have w2_ : IntKind.i64.wrap (ch : Int) = ch := by rw [IntKind.wrap_i64]; omega
              clear hj0 ht0 ho hch hby hout hfac hbq hcell hpos
              go_wp2
              go_quiet (fail)
              obtain ⟨w7, hw7⟩ : ∃ w7, w7 = wr.drewN nq := ⟨_, rfl⟩
              have hb7 : Below wr.heap.size wr w7 := by rw [hw7]; exact below_drewN (Below.refl _ _) _
              rw [← hw7]
              have g1' : w7.cell? ⟨g, j0, none⟩ = some (.slice (some ⟨b0, 0, none⟩) L c0) := by rw [hw7]; exact g1
              have g2' : w7.cell? ⟨b0, t0, none⟩ = some (.int .u8 (o : Int)) := by rw [hw7]; exact g2
              have g3' : w7.frozen? ⟨b0, t0, none⟩ = false := by rw [hw7]; exact g3
              have HO7 : Hid (OutAt w7 g (d + s) L bs us' (fun p => rowF L (newP d L at_ (nums text) k (oldOf pieces) p))) := HOUT.out.to hb7
              have HF7 : Hid (Blk w7 w5.heap.size 3 (intsV (rowF i fun i => Gf.inv ((d + i / d) ^^^ (i % d))))) := HFAC.out.to hb7
              have HB7 : Hid (Below w'.heap.size w' w7) := HBQ.out.trans (hb7.mono HBQ.out.size)
              have hbg' := Ne.symm hbg
              clear hw7 g1 g2 g3 HOUT HFAC HBQ hb7
              go_wp2_with fail
              go_region_held3 (fun w' => w'.cell? ⟨g, j0, none⟩ = some (.slice (some ⟨b0, 0, none⟩) L c0)) (go_keep) (fail)
              all_goals
                have HO8 : Hid (OutAt (w7.setCell ⟨b0, t0, none⟩ (.int .u8 (ch : Int))).drew g (d + s) L bs us' (fun p => if p < d + 0 then rowF L (newP d L at_ (nums text) (k + 1) (oldOf pieces) p) else rowF L (newP d L at_ (nums text) k (oldOf pieces) p))) := by
                  have hjl : j0 < bs.length := (List.getElem?_eq_some_iff.1 hb0).1
                  have hbe : bs[j0] = b0 := (List.getElem?_eq_some_iff.1 hb0).2
                  have h1 := HO7.out.set j0 hjl t0 ch
                  rw [hbe] at h1
                  refine (h1.congr fun p hp => ?_).to (Below.refl _ _).drew
                  by_cases hpd : p < d
                  · rw [if_pos (by omega)]
                    by_cases e : p = j0
                    · subst e
                      rw [if_pos rfl, Plans.rowF_set]
                      refine Plans.rowF_congr fun t ht => ?_
                      rw [Gf.newP_data ht hpd, HCH.out]
                      unfold Plans.upd
                      by_cases e2 : t = t0
                      · rw [if_pos ⟨HJT.out.1, e2.trans HJT.out.2⟩, if_pos e2]
                      · rw [if_neg (fun h => e2 (h.2.trans HJT.out.2.symm)), if_neg e2]
                    · rw [if_neg e]
                      refine Plans.rowF_congr fun t ht => ?_
                      rw [Gf.newP_data ht hpd, if_neg (fun h => e (h.1.trans HJT.out.1.symm))]
                  · rw [if_neg (by omega), if_neg (by omega)]
                have hb0F : b0 ≠ w5.heap.size := by
                  have hjl : j0 < bs.length := (List.getElem?_eq_some_iff.1 hb0).1
                  have hbe : bs[j0] = b0 := (List.getElem?_eq_some_iff.1 hb0).2
                  rw [← hbe]; exact (HO7.out.row j0 hjl).type_ne HF7.out (by decide)
                have hb0w : w'.heap.size ≤ b0 := HLOW.out b0 (List.mem_of_getElem? hb0)
                have HF8 : Hid (Blk (w7.setCell ⟨b0, t0, none⟩ (.int .u8 (ch : Int))).drew w5.heap.size 3 (intsV (rowF i fun i => Gf.inv ((d + i / d) ^^^ (i % d))))) := (HF7.out.other (Ne.symm hb0F) _).drew
                have HB8 : Hid (Below w'.heap.size w' (w7.setCell ⟨b0, t0, none⟩ (.int .u8 (ch : Int))).drew) := (HB7.out.setCell hb0w _).drew
                obtain ⟨w8, hw8⟩ : ∃ w8, w8 = (w7.setCell ⟨b0, t0, none⟩ (.int .u8 (ch : Int))).drew := ⟨_, rfl⟩
                rw [← hw8] at HO8 HF8 HB8 ⊢
                clear hw8 g1' g2' g3' HO7 HF7 HB7
                go_wp2
                go_loopw [24] (fun rv wq => ∃ r : Nat, r ≤ s ∧ rv = .int .i64 r ∧ OutAt wq g (d + s) L bs us' (fun p => if p < d + r then rowF L (newP d L at_ (nums text) (k + 1) (oldOf pieces) p) else rowF L (newP d L at_ (nums text) k (oldOf pieces) p)) ∧ Blk wq w5.heap.size 3 (intsV (rowF i fun i => Gf.inv ((d + i / d) ^^^ (i % d)))) ∧ Below w'.heap.size w' wq) (fun rv _ => s - (intOf rv).toNat)
                case atStart => exact ⟨0, Nat.zero_le _, rfl, HO8.out, HF8.out, HB8.out⟩
                case round =>
                  clear HO8 HF8 HB8
                  obtain ⟨r, hr, rfl, hout, hfac, hbq⟩ := hrel
                  by_cases hrs : r < s
                  · obtain ⟨b1, c1, hb1, g1, hbg1, hb1l, hcell⟩ := hout.read (d + r) (by omega)
                    obtain ⟨g2, g3⟩ := hcell t0 ht0L
                    rw [if_neg (by omega), show (rowF L (newP d L at_ (nums text) k (oldOf pieces) (d + r))).getD t0 0 = newP d L at_ (nums text) k (oldOf pieces) (d + r) t0 by simp [rowF, ht0L]] at g2
                    have hvb := Gf.newP_lt (d := d) (L := L) (at_ := at_) (k := k) (p := d + r) (t := t0) HTB.out HOB.out (by omega) (by omega)
                    obtain ⟨v, hv⟩ : ∃ v, v = newP d L at_ (nums text) k (oldOf pieces) (d + r) t0 := ⟨_, rfl⟩
                    rw [← hv] at g2 hvb
                    obtain ⟨m0, hm0⟩ : ∃ m0, m0 = r * d := ⟨_, rfl⟩
                    have hmb : m0 + j0 < i := by
                      have h1 : (r + 1) * d ≤ s * d := Nat.mul_le_mul_right d (by omega)
                      rw [Nat.add_mul, Nat.one_mul] at h1
                      rw [HN.out, Nat.mul_comm d s, hm0]; omega
                    have hmi : m0 ≤ 60 := by omega
                    obtain ⟨x, hx⟩ : ∃ x, x = Gf.inv ((d + r) ^^^ j0) := ⟨_, rfl⟩
                    have hxb : x < 256 := by rw [hx]; exact Gf.inv_lt _ (Gf.xor_lt (by omega) (by omega))
                    have gf : wr.cell? ⟨w5.heap.size, m0 + j0, none⟩ = some (.int .i64 (x : Int)) := by
                      refine hfac.cell_some ?_
                      have e1 : (m0 + j0) / d = r := by rw [hm0, Nat.add_comm, Nat.add_mul_div_right _ _ (by omega), Nat.div_eq_of_lt hj0d]; omega
                      have e2 : (m0 + j0) % d = j0 := by rw [hm0, Nat.add_comm, Nat.add_mul_mod_self_right, Nat.mod_eq_of_lt hj0d]
                      simp [intsV, rowF, hmb, e1, e2, hx]
                    obtain ⟨nv, hnv⟩ : ∃ nv, nv = v ^^^ Gf.times x by_ := ⟨_, rfl⟩
                    have htb : Gf.times x by_ < 256 := Gf.times_lt _ _ hxb
                    have hnvb : nv < 256 := by rw [hnv]; exact Gf.xor_lt hvb htb
                    have hxor2 : bits .xor .i64 (v : Int) ((Gf.times x by_ : Nat) : Int) = (nv : Int) := by rw [hnv]; exact Gf.i64_xor _ _ (by omega) (by omega)
                    have HNEW : Hid (OutAt (wr.setCell ⟨b1, t0, none⟩ (.int .u8 (nv : Int))) g (d + s) L bs us' (fun p => if p < d + (r + 1) then rowF L (newP d L at_ (nums text) (k + 1) (oldOf pieces) p) else rowF L (newP d L at_ (nums text) k (oldOf pieces) p))) := by
                      have hjl : d + r < bs.length := (List.getElem?_eq_some_iff.1 hb1).1
                      have hbe : bs[d + r] = b1 := (List.getElem?_eq_some_iff.1 hb1).2
                      have h1 := hout.set (d + r) hjl t0 nv
                      rw [hbe] at h1
                      refine h1.congr fun p hp => ?_
                      by_cases e : p = d + r
                      · subst e
                        rw [if_pos (by omega), if_pos rfl, if_neg (by omega), Plans.rowF_set]
                        refine Plans.rowF_congr fun t ht => ?_
                        rw [Gf.newP_spare ht (by omega) (by omega) (by omega) (by rw [← HJT.out.1]; exact hj0d), HCH.out, ← HJT.out.1, ← HJT.out.2]
                        unfold Plans.upd
                        by_cases e2 : t = t0
                        · subst e2
                          rw [if_pos rfl, if_pos rfl, hnv, HBY.out, HO.out, hv, hx]
                        · rw [if_neg e2, if_neg e2]
                      · rw [if_neg e]
                        by_cases e3 : p < d + r
                        · rw [if_pos (by omega), if_pos e3]
                        · rw [if_neg (by omega), if_neg e3]
                    have em : (r : Int) * (d : Int) = (m0 : Int) := by rw [hm0]; simp
                    have hb1F : b1 ≠ w5.heap.size := by
                      have hjl : d + r < bs.length := (List.getElem?_eq_some_iff.1 hb1).1
                      have hbe : bs[d + r] = b1 := (List.getElem?_eq_some_iff.1 hb1).2
                      rw [← hbe]; exact (hout.row (d + r) hjl).type_ne hfac (by decide)
                    have HBF : Hid (w5.heap.size ≠ b1) := Ne.symm hb1F
                    have HB1 : Hid (w'.heap.size ≤ b1) := HLOW.out b1 (List.mem_of_getElem? hb1)
                    have HF8 : Hid (Blk wr w5.heap.size 3 (intsV (rowF i fun i => Gf.inv ((d + i / d) ^^^ (i % d))))) := hfac
                    have HB8 : Hid (Below w'.heap.size w' wr) := hbq
                    have HS : Hid (wr.drew.cell? ⟨g, d + r, none⟩ = some (.slice (some ⟨b1, 0, none⟩) L c1) ∧ wr.drew.cell? ⟨w5.heap.size, m0 + j0, none⟩ = some (.int .i64 (x : Int))) := ⟨g1, gf⟩
                    have HA : Hid ((⟨b1, t0, none⟩ : Addr) ≠ ⟨g, d + r, none⟩ ∧ (⟨b1, t0, none⟩ : Addr) ≠ ⟨w5.heap.size, m0 + j0, none⟩) := by
                      refine ⟨?_, ?_⟩ <;> intro h <;> injection h <;> omega
                    have z1 : ((d : Int) + (r : Int)).toNat = d + r := by omega
                    have z2 : ((m0 : Int) + (j0 : Int)).toNat = m0 + j0 := by omega
                    have z3 : (d : Int) + (r : Int) < (d : Int) + (s : Int) := by omega
                    have z4 : (m0 : Int) + (j0 : Int) < (i : Int) := by omega
                    have z5 : (0 : Int) ≤ (d : Int) + (r : Int) := by omega
                    have z6 : (0 : Int) ≤ (m0 : Int) + (j0 : Int) := by omega
                    have y1 : IntKind.i64.wrap (v : Int) = v := by rw [IntKind.wrap_i64]; omega
                    have y2 : IntKind.u8.wrap (nv : Int) = (nv : Int) := byte_conv _ hnvb
                    have y3 : (nv : Int) % 256 = (nv : Int) := by omega
                    have y4 : IntKind.i64.wrap (m0 : Int) = m0 := by rw [IntKind.wrap_i64]; omega
                    have y5 : IntKind.i64.wrap ((d : Int) + (r : Int)) = (d : Int) + (r : Int) := by rw [IntKind.wrap_i64]; omega
                    have y6 : IntKind.i64.wrap ((m0 : Int) + (j0 : Int)) = (m0 : Int) + (j0 : Int) := by rw [IntKind.wrap_i64]; omega
                    clear hcell hout hfac hbq hv hm0 hx hnv hb1F gf
                    go_wp2_with fail
                    refine wp_region_held (S := fun wx => wx.cell? ⟨g, d + r, none⟩ = some (.slice (some ⟨b1, 0, none⟩) L c1) ∧ wx.cell? ⟨w5.heap.size, m0 + j0, none⟩ = some (.int .i64 (x : Int))) rfl ?_
                    refine wpAnyH_take (i := 0) (v := (.slice (some ⟨g, 0, none⟩) (d + s) tc)) rfl (by kernel_rfl) (by kernel_rfl) (by kernel_rfl) (fun _ _ _ h => h) (Or.inl ⟨by rfl, fun w hw => by go_simp⟩) HS.out ?_
                    refine wpAnyH_take (i := 1) (v := (.int .i64 (d : Int))) rfl (by kernel_rfl) (by kernel_rfl) (by kernel_rfl) (fun _ _ _ h => h) (Or.inl ⟨by rfl, fun w hw => by go_simp⟩) HS.out ?_
                    refine wpAnyH_take (i := 2) (v := (.int .i64 (r : Int))) rfl (by kernel_rfl) (by kernel_rfl) (by kernel_rfl) (fun _ _ _ h => h) (Or.inl ⟨by rfl, fun w hw => by go_simp⟩) HS.out ?_
                    refine wpAnyH_take (i := 3) (v := (.int .i64 ((d : Int) + (r : Int)))) rfl (by kernel_rfl) (by kernel_rfl) (by kernel_rfl) (fun _ _ _ h => h) (Or.inl ⟨by rfl, fun w hw => by go_simp⟩) HS.out ?_
                    refine wpAnyH_take (i := 4) (v := (.pointer (some ⟨g, d + r, none⟩))) rfl (by kernel_rfl) (by kernel_rfl) (by kernel_rfl) (fun _ _ _ h => h) (Or.inl ⟨by rfl, fun w hw => by go_simp⟩) HS.out ?_
                    simp only [Act.put]
                    refine wpAnyH_take (i := 5) (v := (.slice (some ⟨b1, 0, none⟩) L c1)) rfl (by kernel_rfl) (by kernel_rfl) (by kernel_rfl) (fun _ _ _ h => h) (Or.inl ⟨by rfl, fun w hw => by obtain ⟨t1, t2⟩ := hw; go_simp⟩) HS.out ?_
                    refine wpAnyH_take (i := 6) (v := (.int .i64 (t0 : Int))) rfl (by kernel_rfl) (by kernel_rfl) (by kernel_rfl) (fun _ _ _ h => h) (Or.inl ⟨by rfl, fun w hw => by go_simp⟩) HS.out ?_
                    refine wpAnyH_take (i := 7) (v := (.slice (some ⟨g, 0, none⟩) (d + s) tc)) rfl (by kernel_rfl) (by kernel_rfl) (by kernel_rfl) (fun _ _ _ h => h) (Or.inl ⟨by rfl, fun w hw => by go_simp⟩) HS.out ?_
                    refine wpAnyH_take (i := 8) (v := (.int .i64 (d : Int))) rfl (by kernel_rfl) (by kernel_rfl) (by kernel_rfl) (fun _ _ _ h => h) (Or.inl ⟨by rfl, fun w hw => by go_simp⟩) HS.out ?_
                    refine wpAnyH_take (i := 9) (v := (.int .i64 (r : Int))) rfl (by kernel_rfl) (by kernel_rfl) (by kernel_rfl) (fun _ _ _ h => h) (Or.inl ⟨by rfl, fun w hw => by go_simp⟩) HS.out ?_
                    simp only [Act.put]
                    refine wpAnyH_take (i := 10) (v := (.int .i64 ((d : Int) + (r : Int)))) rfl (by kernel_rfl) (by kernel_rfl) (by kernel_rfl) (fun _ _ _ h => h) (Or.inl ⟨by rfl, fun w hw => by go_simp⟩) HS.out ?_
                    refine wpAnyH_take (i := 11) (v := (.pointer (some ⟨g, d + r, none⟩))) rfl (by kernel_rfl) (by kernel_rfl) (by kernel_rfl) (fun _ _ _ h => h) (Or.inl ⟨by rfl, fun w hw => by go_simp⟩) HS.out ?_
                    refine wpAnyH_take (i := 12) (v := (.slice (some ⟨b1, 0, none⟩) L c1)) rfl (by kernel_rfl) (by kernel_rfl) (by kernel_rfl) (fun _ _ _ h => h) (Or.inl ⟨by rfl, fun w hw => by obtain ⟨t1, t2⟩ := hw; go_simp⟩) HS.out ?_
                    refine wpAnyH_take (i := 13) (v := (.int .i64 (t0 : Int))) rfl (by kernel_rfl) (by kernel_rfl) (by kernel_rfl) (fun _ _ _ h => h) (Or.inl ⟨by rfl, fun w hw => by go_simp⟩) HS.out ?_
                    refine wpAnyH_take (i := 14) (v := (.pointer (some ⟨b1, t0, none⟩))) rfl (by kernel_rfl) (by kernel_rfl) (by kernel_rfl) (fun _ _ _ h => h) (Or.inl ⟨by rfl, fun w hw => by go_simp⟩) HS.out ?_
                    simp only [Act.put]
                    refine wpAnyH_take (i := 17) (v := (.slice (some ⟨w5.heap.size, 0, none⟩) i i)) rfl (by kernel_rfl) (by kernel_rfl) (by kernel_rfl) (fun _ _ _ h => h) (Or.inl ⟨by rfl, fun w hw => by go_simp⟩) HS.out ?_
                    refine wpAnyH_take (i := 18) (v := (.int .i64 (r : Int))) rfl (by kernel_rfl) (by kernel_rfl) (by kernel_rfl) (fun _ _ _ h => h) (Or.inl ⟨by rfl, fun w hw => by go_simp⟩) HS.out ?_
                    refine wpAnyH_take (i := 19) (v := (.int .i64 (d : Int))) rfl (by kernel_rfl) (by kernel_rfl) (by kernel_rfl) (fun _ _ _ h => h) (Or.inl ⟨by rfl, fun w hw => by go_simp⟩) HS.out ?_
                    refine wpAnyH_take (i := 20) (v := (.int .i64 (m0 : Int))) rfl (by kernel_rfl) (by kernel_rfl) (by kernel_rfl) (fun _ _ _ h => h) (Or.inl ⟨by rfl, fun w hw => by go_simp⟩) HS.out ?_
                    refine wpAnyH_take (i := 21) (v := (.int .i64 (j0 : Int))) rfl (by kernel_rfl) (by kernel_rfl) (by kernel_rfl) (fun _ _ _ h => h) (Or.inl ⟨by rfl, fun w hw => by go_simp⟩) HS.out ?_
                    simp only [Act.put]
                    refine wpAnyH_take (i := 22) (v := (.int .i64 ((m0 : Int) + (j0 : Int)))) rfl (by kernel_rfl) (by kernel_rfl) (by kernel_rfl) (fun _ _ _ h => h) (Or.inl ⟨by rfl, fun w hw => by go_simp⟩) HS.out ?_
                    refine wpAnyH_take (i := 23) (v := (.pointer (some ⟨w5.heap.size, m0 + j0, none⟩))) rfl (by kernel_rfl) (by kernel_rfl) (by kernel_rfl) (fun _ _ _ h => h) (Or.inl ⟨by rfl, fun w hw => by go_simp⟩) HS.out ?_
                    refine wpAnyH_take (i := 24) (v := (.int .i64 (x : Int))) rfl (by kernel_rfl) (by kernel_rfl) (by kernel_rfl) (fun _ _ _ h => h) (Or.inl ⟨by rfl, fun w hw => by obtain ⟨t1, t2⟩ := hw; go_simp⟩) HS.out ?_
                    refine wpAnyH_take (i := 25) (v := (.int .i64 (by_ : Int))) rfl (by kernel_rfl) (by kernel_rfl) (by kernel_rfl) (fun _ _ _ h => h) (Or.inl ⟨by rfl, fun w hw => by go_simp⟩) HS.out ?_
                    simp only [Act.put, List.setIfInBounds_toArray]
                    refine wpAnyH_ready (rs := [15, 26]) (by kernel_rfl) (by simp) ?_
                    refine AllReadyH.cons rfl (fun K hK => ?_) (AllReadyH.cons rfl (fun K hK => ?_) AllReadyH.nil)
                    · go_simp
                      refine hK.out _ _ HS.out (fun _ => ?_)
                      clear hK K
                      refine wpAnyH_take (i := 16) (v := (.int .i64 (v : Int))) rfl (by kernel_rfl) (by kernel_rfl) (by kernel_rfl) (fun _ _ _ h => h) (Or.inl ⟨by rfl, fun w hw => by go_simp⟩) HS.out ?_
                      simp only [Act.put, List.setIfInBounds_toArray]
                      refine wpAnyH_ready (rs := [26]) (by kernel_rfl) (by simp) ?_
                      refine AllReadyH.cons rfl (fun K hK => ?_) AllReadyH.nil
                      go_simp
                      refine (times_any x by_ hxb hbyb _).mono ?_
                      rintro e w2 ⟨rfl, rfl⟩
                      dsimp only
                      refine hK.out _ _ HS.out (fun _ => ?_)
                      clear hK K
                      refine wpAnyH_take (i := 27) (v := (.int .i64 (nv : Int))) rfl (by kernel_rfl) (by kernel_rfl) (by kernel_rfl) (fun _ _ _ h => h) (Or.inl ⟨by rfl, fun w hw => by go_simp⟩) HS.out ?_
                      refine wpAnyH_take (i := 28) (v := (.int .u8 (nv : Int))) rfl (by kernel_rfl) (by kernel_rfl) (by kernel_rfl) (fun _ _ _ h => h) (Or.inl ⟨by rfl, fun w hw => by go_simp⟩) HS.out ?_
                      refine wpAnyH_take (i := 29) (v := (.pointer (some ⟨b1, t0, none⟩))) rfl (by kernel_rfl) (by kernel_rfl) (by kernel_rfl) (fun _ _ _ h => h) (Or.inl ⟨by rfl, fun w hw => by go_simp⟩) HS.out ?_
                      simp only [Act.put, List.setIfInBounds_toArray]
                      refine wpAnyH_ready (rs := [30]) (by kernel_rfl) (by simp) ?_
                      refine AllReadyH.cons rfl (fun K hK => ?_) AllReadyH.nil
                      go_simp
                      refine hK.out _ _ ⟨(World.cell?_setCell_other _ _ _ _ HA.out.1).trans HS.out.1, (World.cell?_setCell_other _ _ _ _ HA.out.2).trans HS.out.2⟩ (fun _ => ?_)
                      clear hK K
                      refine wpAnyH_done (by kernel_rfl) ?_ _
                      go_wp2
                      go_roundw
                      case rel => exact ⟨r + 1, by omega, by go_num, HNEW.out.to (Below.refl _ _).drew, (HF8.out.other HBF.out _).drew, (HB8.out.setCell HB1.out _).drew⟩
                      case measure => simp [intOf]; omega
                    · go_simp
                      refine (times_any x by_ hxb hbyb _).mono ?_
                      rintro e w2 ⟨rfl, rfl⟩
                      dsimp only
                      refine hK.out _ _ HS.out (fun _ => ?_)
                      clear hK K
                      refine wpAnyH_ready (rs := [15]) (by kernel_rfl) (by simp) ?_
                      refine AllReadyH.cons rfl (fun K hK => ?_) AllReadyH.nil
                      go_simp
                      refine hK.out _ _ HS.out (fun _ => ?_)
                      clear hK K
                      refine wpAnyH_take (i := 16) (v := (.int .i64 (v : Int))) rfl (by kernel_rfl) (by kernel_rfl) (by kernel_rfl) (fun _ _ _ h => h) (Or.inl ⟨by rfl, fun w hw => by go_simp⟩) HS.out ?_
                      refine wpAnyH_take (i := 27) (v := (.int .i64 (nv : Int))) rfl (by kernel_rfl) (by kernel_rfl) (by kernel_rfl) (fun _ _ _ h => h) (Or.inl ⟨by rfl, fun w hw => by go_simp⟩) HS.out ?_
                      refine wpAnyH_take (i := 28) (v := (.int .u8 (nv : Int))) rfl (by kernel_rfl) (by kernel_rfl) (by kernel_rfl) (fun _ _ _ h => h) (Or.inl ⟨by rfl, fun w hw => by go_simp⟩) HS.out ?_
                      refine wpAnyH_take (i := 29) (v := (.pointer (some ⟨b1, t0, none⟩))) rfl (by kernel_rfl) (by kernel_rfl) (by kernel_rfl) (fun _ _ _ h => h) (Or.inl ⟨by rfl, fun w hw => by go_simp⟩) HS.out ?_
                      simp only [Act.put, List.setIfInBounds_toArray]
                      refine wpAnyH_ready (rs := [30]) (by kernel_rfl) (by simp) ?_
                      refine AllReadyH.cons rfl (fun K hK => ?_) AllReadyH.nil
                      go_simp
                      refine hK.out _ _ ⟨(World.cell?_setCell_other _ _ _ _ HA.out.1).trans HS.out.1, (World.cell?_setCell_other _ _ _ _ HA.out.2).trans HS.out.2⟩ (fun _ => ?_)
                      clear hK K
                      refine wpAnyH_done (by kernel_rfl) ?_ _
                      go_wp2
                      go_roundw
                      case rel => exact ⟨r + 1, by omega, by go_num, HNEW.out.to (Below.refl _ _).drew, (HF8.out.other HBF.out _).drew, (HB8.out.setCell HB1.out _).drew⟩
                      case measure => simp [intOf]; omega
                  · obtain rfl : r = s := by omega
                    have HO9 : Hid (OutAt wr g (d + r) L bs us' (fun p => rowF L (newP d L at_ (nums text) (k + 1) (oldOf pieces) p))) := hout.congr fun p hp => by rw [if_pos hp]
                    have HF9 : Hid (Blk wr w5.heap.size 3 (intsV (rowF i fun i => Gf.inv ((d + i / d) ^^^ (i % d))))) := hfac
                    have HB9 : Hid (Below w'.heap.size w' wr) := hbq
                    clear hout hfac hbq
                    go_wp2
                    go_roundw
                    case rel => exact ⟨k + 1, by omega, by go_num, HO9.out, HF9.out, HB9.out⟩
                    case measure => simp [intOf]; omega
            · obtain rfl : k = text.size := by omega
              obtain ⟨w9, rfl⟩ : ∃ w9, w9 = wr := ⟨_, rfl⟩
              obtain ⟨ls, hls⟩ : ∃ ls, ls = (List.range (d + s)).map fun p => rowF L (newP d L at_ (nums text) text.size (oldOf pieces) p) := ⟨_, rfl⟩
              have hlsl : ls.length = d + s := by rw [hls]; simp
              have HLS : Hid (ls.length = d + s) := hlsl
              have HLA : Hid (∀ p, (h : p < ls.length) → ls[p] = rowF L (newP d L at_ (nums text) text.size (oldOf pieces) p)) := fun p h => by simp [hls]
              have HOUT : Hid (OutAt w9 g (d + s) L bs us' (fun p => rowF L (newP d L at_ (nums text) text.size (oldOf pieces) p))) := hout
              have HBQ : Hid (Below w'.heap.size w' w9) := hbq
              have HLD : Hid (((List.range (d + s)).map fun p => mkS (rowF L (newP d L at_ (nums text) text.size (oldOf pieces) p))) = ls.map mkS) := by show _ = _; rw [hls, List.map_map]; rfl
              clear hls hlsl hout hbq hfac
              go_wp2
              go_loopw [25, 26] (fun t qv wq => ∃ q : Nat, q ≤ d + s ∧ qv = .int .i64 q ∧ wq.ownsRow w9.heap.size 9 1 t q (strsTo ls q) ∧ Below w9.heap.size w9 wq) (fun _ qv _ => d + s - (intOf qv).toNat)
              case atStart => exact ⟨0, Nat.zero_le _, rfl, World.ownsRow_nil _ _ _ _, Below.refl _ _⟩
              case round =>
                obtain ⟨q, hq, rfl, hown, hbel9⟩ := hrel
                by_cases hqd : q < d + s
                · obtain ⟨b1, c1, hb1, g1, hbg1, hb1l, hcell⟩ := (HOUT.out.to hbel9).read q hqd
                  have hql : q < ls.length := by rw [HLS.out]; exact hqd
                  have HBS : Hid (BsAt wr (.slice (some ⟨b1, 0, none⟩) L c1) ls[q]) := by
                    have hll : ls[q].length = L := by rw [HLA.out q hql]; simp
                    refine ⟨_, c1, by rw [hll], .inr ⟨b1, 0, rfl, hb1l, fun t ht => ?_⟩⟩
                    rw [Nat.zero_add, (hcell t (by omega)).1]
                    simp only [HLA.out q hql]
                    simp [rowF, show t < L by omega]
                  have HNX : Hid (strsTo ls q ++ [.string (mkS ls[q])] = strsTo ls (q + 1)) := strsTo_next ls q hql
                  have hsz9 := hbel9.size
                  obtain ⟨ta, tc2, rfl⟩ := owns_slice hown
                  clear hcell
                  go_wp2_with (first | (at_builtin; refine wpList_append_one _ rfl _ _ 38 rfl w9.heap.size 9 (.string ByteArray.empty) 16 Tryd.underlying38 infoStr rfl (by decide) _ q _ rfl (hown.alloc _) ⟨wr.heap.size, 0, none⟩ 1 (.string (mkS ls[q])) rfl ((Blk.new wr _ _).cell_some rfl) rfl (by omega) (by simp; omega) ?_; rw [HNX.out]; intro v' w2 hown' hbel') | refine wpList_convert _ rfl 93 9 _ rfl (.slice (some ⟨b1, 0, none⟩) L c1) (.string (mkS ls[q])) rfl (conv_str _ _ _ HBS.out) ?_)
                  go_roundw
                  case rel => exact ⟨q + 1, by omega, by go_num, hown', hbel' _ _ (hbel9.alloc hsz9 _) (Nat.le_refl _)⟩
                  case measure => simp [intOf]; omega
                · obtain rfl : q = d + s := by omega
                  have HST : Hid (StrsNew wr w9.heap.size _ (ls.map mkS)) := StrsNew.of_owns (base := w9.heap.size) (t := 9) (n := d + s) (by
                    have e : strsTo ls (d + s) = (ls.map mkS).map Value.string := by
                      unfold strsTo
                      rw [List.take_of_length_le (by have := HLS.out; omega)]
                    rw [← e]; exact hown)
                  go_wp2
                  go_ret2
                  exact ⟨_, rfl, by rw [HLD.out]; exact HST.out.low HBQ.out.size, HBQ.out.trans (hbel9.mono HBQ.out.size)⟩
end Go.Proofs.YtlnpppdffhibjaaDoor.Ref

namespace Go.Proofs.YtlnpppdffhibjaaDoor.Ref
open Go.RowKit Mem FieldWalks Tab ByTab Parts

set_option maxRecDepth 100000 in
theorem index_any (l : List Int) (n : Int) (v : Value) (w : World) (h : IsC w v l) (hl : l.length < 2 ^ 62) :
    Calls Tryd.prog 89 #[v, .int .i64 n] w fun e w' => ((∃ k : Nat, e = .returned (.int .i64 k) ∧ k < l.length ∧ n ∈ l) ∨ (e = .returned (.int .i64 (-1)) ∧ n ∉ l)) ∧ w' = w := by
  obtain ⟨ao, ex, rfl, hc⟩ := h
  have HC : Hid (l = [] ∨ ∃ b off, ao = some ⟨b, off, none⟩ ∧ b < w.heap.size ∧ ∀ k, (h : k < l.length) → w.cell? ⟨b, off + k, none⟩ = some (.int .i64 l[k])) := hc
  clear hc
  go_enter Tryd.func89, Tryd.ntmps89
  go_wp2
  go_loop [8] (fun i => ∃ k : Nat, k ≤ l.length ∧ i = .int .i64 k ∧ n ∉ l.take k) (fun i => l.length - (intOf i).toNat)
  case atStart => exact ⟨0, Nat.zero_le _, rfl, by simp⟩
  case round =>
    obtain ⟨k, hk, rfl, hn⟩ := hrel
    by_cases hlt : k < l.length
    · obtain ⟨b, off, rfl, hb, hc⟩ : ∃ b off, ao = some ⟨b, off, none⟩ ∧ b < w.heap.size ∧ ∀ k, (h : k < l.length) → w.cell? ⟨b, off + k, none⟩ = some (.int .i64 l[k]) := by
        rcases HC.out with h | h
        · rw [h] at hlt; simp at hlt
        · exact h
      have c1 := hc k hlt
      have HN : Hid (n ∉ l.take k) := hn
      clear hc hn
      by_cases e : l[k] = n
      · have HM : Hid (n ∈ l) := e ▸ List.getElem_mem hlt
        rw [e] at c1
        clear e
        go_wp2
        go_ret
        exact ⟨.inl ⟨k, rfl, hlt, HM.out⟩, rfl⟩
      · have HX : Hid (n ∉ l.take (k + 1)) := not_take_next HN.out hlt e
        have he : (n == l[k]) = false := by simp; exact fun h => e h.symm
        generalize l[k] = x at c1 he
        clear e
        go_wp2
        go_round
        case rel => exact ⟨k + 1, by omega, by go_num, HX.out⟩
        case measure => simp [intOf]; omega
    · obtain rfl : k = l.length := by omega
      rw [List.take_length] at hn
      have HN : Hid (n ∉ l) := hn
      clear hn
      go_wp2
      go_ret
      exact ⟨.inr ⟨rfl, HN.out⟩, rfl⟩

set_option maxRecDepth 100000 in
theorem contains_any (l : List Int) (n : Int) (v : Value) (w : World) (h : IsC w v l) (hl : l.length < 2 ^ 62) :
    Calls Tryd.prog 78 #[v, .int .i64 n] w fun e w' => e = .returned (.bool (decide (n ∈ l))) ∧ w' = w := by
  go_enter Tryd.func78, Tryd.ntmps78
  go_wp2_with fail
  refine (index_any l n v w h hl).mono ?_
  rintro e w' ⟨h1, rfl⟩
  rcases h1 with ⟨k, rfl, hk, hm⟩ | ⟨rfl, hm⟩
  · have hd : decide (n ∈ l) = true := by simp [hm]
    have HD : Hid (decide (n ∈ l) = true) := hd
    clear hd hm
    go_wp2
    go_ret
    exact ⟨by rw [HD.out]; rfl, rfl⟩
  · have hd : decide (n ∈ l) = false := by simp [hm]
    have HD : Hid (decide (n ∈ l) = false) := hd
    clear hd hm
    go_wp2
    go_ret
    exact ⟨by rw [HD.out]; rfl, rfl⟩

def okSize (n : Int) : Bool := decide (0 ≤ n ∧ n ≤ 400)
theorem okSize_yes (n : Int) (h : 0 ≤ n ∧ n ≤ 400) : okSize n = true := by simp [okSize]; omega
theorem okSize_no (n : Int) (h : ¬ (0 ≤ n ∧ n ≤ 400)) : okSize n = false := by simp [okSize]; omega
theorem isSize_any (n : Int) (w : World) : Calls Tryd.prog 64 #[.int .i64 n] w fun e w' => e = .returned (.bool (okSize n)) ∧ w' = w := by
  by_cases h1 : 0 ≤ n
  · by_cases h2 : n ≤ 400
    · rw [okSize_yes n ⟨h1, h2⟩]
      go_enter Tryd.func64, Tryd.ntmps64
      go_wp2
      go_ret
      exact ⟨rfl, rfl⟩
    · rw [okSize_no n (by omega)]
      go_enter Tryd.func64, Tryd.ntmps64
      go_wp2
      go_ret
      exact ⟨rfl, rfl⟩
  · rw [okSize_no n (by omega)]
    go_enter Tryd.func64, Tryd.ntmps64
    go_wp2
    go_ret
    exact ⟨rfl, rfl⟩

def okWithin (n at_ : Int) (m : Nat) : Bool := decide (0 ≤ at_ ∧ at_ + m ≤ n)
theorem isWithin_any (n : Nat) (hn : n ≤ 400) (at_ : Int) (h2 : at_ ≤ 9223372036854775807) (text : ByteArray) (hlen : text.size ≤ maxLen) (w : World) :
    Calls Tryd.prog 71 #[.int .i64 n, .int .i64 at_, .string text] w fun e w' => e = .returned (.bool (okWithin n at_ text.size)) ∧ w' = w := by
  unfold maxLen at hlen
  by_cases h1 : 0 ≤ at_
  · by_cases h3 : (text.size : Int) ≤ n - at_
    · have : okWithin n at_ text.size = true := by simp [okWithin]; omega
      rw [this]
      go_enter Tryd.func71, Tryd.ntmps71
      go_wp2
      go_ret
      exact ⟨rfl, rfl⟩
    · have : okWithin n at_ text.size = false := by simp [okWithin]; omega
      rw [this]
      go_enter Tryd.func71, Tryd.ntmps71
      go_wp2
      go_ret
      exact ⟨rfl, rfl⟩
  · have : okWithin n at_ text.size = false := by simp [okWithin]; omega
    rw [this]
    go_enter Tryd.func71, Tryd.ntmps71
    go_wp2
    go_ret
    exact ⟨rfl, rfl⟩

def NumsOk (N : Nat) (lost : List Int) : Prop := ∀ k, (h : k < lost.length) → 0 ≤ lost[k] ∧ lost[k] < (N : Int) ∧ lost[k] ∉ lost.take k
def NumsOkTo (N : Nat) (lost : List Int) (m : Nat) : Prop := ∀ k, (h : k < lost.length) → k < m → 0 ≤ lost[k] ∧ lost[k] < (N : Int) ∧ lost[k] ∉ lost.take k
set_option maxRecDepth 100000 in
set_option maxHeartbeats 4000000 in
theorem areNumbers_any (N : Nat) (_hN : N ≤ 100) (lost : List Int) (lv : Value) (w : World) (hl : IsC w lv lost) (hll : lost.length < 2 ^ 62) :
    Calls Tryd.prog 65 #[lv, .int .i64 N] w fun e w' => Says (NumsOk N lost) e ∧ w' = w := by
  have HL : Hid (IsC w lv lost) := hl
  obtain ⟨lao, lex, rfl, hlc⟩ := hl
  have HLC : Hid (lost = [] ∨ ∃ b off, lao = some ⟨b, off, none⟩ ∧ b < w.heap.size ∧ ∀ k, (h : k < lost.length) → w.cell? ⟨b, off + k, none⟩ = some (.int .i64 lost[k])) := hlc
  clear hlc
  go_enter Tryd.func65, Tryd.ntmps65
  go_wp2
  go_loop [9] (fun i => ∃ k : Nat, k ≤ lost.length ∧ i = .int .i64 k ∧ NumsOkTo N lost k) (fun i => lost.length - (intOf i).toNat)
  case atStart => exact ⟨0, Nat.zero_le _, rfl, fun j _ hj => by omega⟩
  case round =>
    obtain ⟨k, hk, rfl, hdone⟩ := hrel
    by_cases hlt : k < lost.length
    · obtain ⟨b, off, rfl, hb, hc⟩ : ∃ b off, lao = some ⟨b, off, none⟩ ∧ b < w.heap.size ∧ ∀ k, (h : k < lost.length) → w.cell? ⟨b, off + k, none⟩ = some (.int .i64 lost[k]) := by
        rcases HLC.out with h | h
        · rw [h] at hlt; simp at hlt
        · exact h
      have c1 := hc k hlt
      have HD : Hid (NumsOkTo N lost k) := hdone
      have HT : Hid (IsC w (.slice (some ⟨b, off, none⟩) k (lost.length + lex)) (lost.take k)) := HL.out.take (by omega)
      have HLK : Hid ((lost.take k).length < 2 ^ 62) := by show _ < _; rw [List.length_take]; omega
      obtain ⟨x, hx⟩ : ∃ x, x = lost[k] := ⟨_, rfl⟩
      rw [← hx] at c1
      have HX : Hid (x = lost[k]) := hx
      clear hx hc hdone
      by_cases h0 : 0 ≤ x
      · by_cases h1 : x < (N : Int)
        · by_cases h2 : x ∈ lost.take k
          · have hd2 : decide (x ∈ lost.take k) = true := by simp [h2]
            have HM : Hid (x ∈ lost.take k) := h2
            have HD2 : Hid (decide (x ∈ lost.take k) = true) := hd2
            clear h2 hd2
            go_wp2_with (go_at_call 78; refine (contains_any _ _ _ _ HT.out HLK.out).mono ?_; rintro e w' ⟨rfl, rfl⟩; rw [HD2.out])
            go_ret
            refine ⟨Says.no rfl fun h => ?_, rfl⟩
            have := (h k hlt).2.2
            rw [← HX.out] at this
            exact this HM.out
          · have hd2 : decide (x ∈ lost.take k) = false := by simp [h2]
            have HM : Hid (NumsOkTo N lost (k + 1)) := fun j hj hjk => by
              by_cases e : j = k
              · subst e; rw [← HX.out]; exact ⟨h0, h1, h2⟩
              · exact HD.out j hj (by omega)
            have HD2 : Hid (decide (x ∈ lost.take k) = false) := hd2
            clear h2 hd2
            go_wp2_with (go_at_call 78; refine (contains_any _ _ _ _ HT.out HLK.out).mono ?_; rintro e w' ⟨rfl, rfl⟩; rw [HD2.out])
            go_round
            case rel => exact ⟨k + 1, by omega, by go_num, HM.out⟩
            case measure => simp [intOf]; omega
        · have h1' : (N : Int) ≤ x := by omega
          go_wp2
          go_ret
          refine ⟨Says.no rfl fun h => ?_, rfl⟩
          have := (h k hlt).2.1
          rw [← HX.out] at this
          omega
      · have h0' : x < 0 := by omega
        go_wp2
        go_ret
        refine ⟨Says.no rfl fun h => ?_, rfl⟩
        have := (h k hlt).1
        rw [← HX.out] at this
        omega
    · obtain rfl : k = lost.length := by omega
      have HD : Hid (NumsOkTo N lost lost.length) := hdone
      clear hdone
      go_wp2
      go_ret
      exact ⟨Says.yes rfl fun j hj => HD.out j hj hj, rfl⟩

/-- The pieces that are not lost have L bytes. -/
def SizesOk (L : Nat) (pieces : List ByteArray) (lost : List Int) : Prop := ∀ p, (h : p < pieces.length) → (p : Int) ∉ lost → pieces[p].size = L
set_option maxRecDepth 100000 in
set_option maxHeartbeats 4000000 in
theorem goTogether_any (d s n L : Nat) (pieces : List ByteArray) (lost : List Int) (pv lv : Value) (w : World) (hp : StrsAt w pv pieces) (hl : IsC w lv lost) (hll : lost.length < 2 ^ 62) (hpl : pieces.length < 2 ^ 62)
    (hd : 1 ≤ d) (hd2 : d ≤ 10) (hs : s ≤ 6) (hn : n ≤ 400) (hL : L = (n + d - 1) / d) (hsz : ∀ p, (h : p < pieces.length) → pieces[p].size < 2 ^ 62) :
    Calls Tryd.prog 66 #[.int .i64 d, .int .i64 s, .int .i64 n, pv, lv] w fun e w' => Says (pieces.length = d + s ∧ SizesOk L pieces lost) e ∧ w' = w := by
  obtain ⟨pao, pcap, rfl, hpc⟩ := hp
  have HL : Hid (IsC w lv lost) := hl
  have HPC : Hid (pieces = [] ∨ ∃ b off, pao = some ⟨b, off, none⟩ ∧ b < w.heap.size ∧ ∀ k, (h : k < pieces.length) → w.cell? ⟨b, off + k, none⟩ = some (.string pieces[k])) := hpc
  have HSZ : Hid (∀ p, (h : p < pieces.length) → pieces[p].size < 2 ^ 62) := hsz
  have hLc : L ≤ 400 := by
    rw [hL]; exact Nat.le_trans (Nat.div_le_div_right (by omega : n + d - 1 ≤ n + d - 1)) (by
      have := ceil_le n d hd
      omega)
  clear hpc hsz hl
  by_cases hcnt : pieces.length = d + s
  · have hne : ((pieces.length : Int) != (d : Int) + (s : Int)) = false := by simp; omega
    have HCN : Hid (pieces.length = d + s) := hcnt
    clear hcnt
    go_enter Tryd.func66, Tryd.ntmps66
    go_wp2_with fail
    refine (length_any d n (by omega) (by omega) (by omega) w).mono ?_
    rintro e w' ⟨rfl, rfl⟩
    rw [← hL]
    clear hL
    go_wp2
    go_loop [25] (fun i => ∃ k : Nat, k ≤ pieces.length ∧ i = .int .i64 k ∧ SizesTo L pieces lost k) (fun i => pieces.length - (intOf i).toNat)
    case atStart => exact ⟨0, Nat.zero_le _, rfl, fun j _ hj => by omega⟩
    case round =>
      obtain ⟨k, hk, rfl, hdone⟩ := hrel
      by_cases hlt : k < pieces.length
      · obtain ⟨b, off, rfl, hb, hc⟩ : ∃ b off, pao = some ⟨b, off, none⟩ ∧ b < w'.heap.size ∧ ∀ k, (h : k < pieces.length) → w'.cell? ⟨b, off + k, none⟩ = some (.string pieces[k]) := by
          rcases HPC.out with h | h
          · rw [h] at hlt; simp at hlt
          · exact h
        have c1 := hc k hlt
        have HD : Hid (SizesTo L pieces lost k) := hdone
        have hz := HSZ.out k hlt
        clear hc hdone
        by_cases h0 : pieces[k].size = L
        · have HM : Hid (SizesTo L pieces lost (k + 1)) := fun j hj hjk hjl => by
            by_cases e : j = k
            · subst e; exact h0
            · exact HD.out j hj (by omega) hjl
          have h0' : ((pieces[k].size : Int) != (L : Int)) = false := by simp; omega
          clear h0
          generalize pieces[k] = pk at c1 h0' hz
          go_wp2
          go_round
          case rel => exact ⟨k + 1, by omega, by go_num, HM.out⟩
          case measure => simp [intOf]; omega
        · have h0' : ((pieces[k].size : Int) != (L : Int)) = true := by simp; omega
          by_cases h2 : ((k : Nat) : Int) ∈ lost
          · have HD2 : Hid (decide (((k : Nat) : Int) ∈ lost) = true) := decide_eq_true h2
            have HM : Hid (SizesTo L pieces lost (k + 1)) := fun j hj hjk hjl => by
              by_cases e : j = k
              · subst e; exact absurd h2 hjl
              · exact HD.out j hj (by omega) hjl
            clear h2 h0
            generalize pieces[k] = pk at c1 h0' hz
            go_wp2_with (go_at_call 78; refine (contains_any _ _ _ _ HL.out hll).mono ?_; rintro e w' ⟨rfl, rfl⟩; rw [HD2.out])
            go_round
            case rel => exact ⟨k + 1, by omega, by go_num, HM.out⟩
            case measure => simp [intOf]; omega
          · have HD2 : Hid (decide (((k : Nat) : Int) ∈ lost) = false) := decide_eq_false h2
            have HNO : Hid (¬ (pieces.length = d + s ∧ SizesOk L pieces lost)) := fun h => h0 (h.2 k hlt h2)
            clear h2 h0
            generalize pieces[k] = pk at c1 h0' hz
            go_wp2_with (go_at_call 78; refine (contains_any _ _ _ _ HL.out hll).mono ?_; rintro e w' ⟨rfl, rfl⟩; rw [HD2.out])
            go_ret
            exact ⟨Says.no rfl HNO.out, rfl⟩
      · obtain rfl : k = pieces.length := by omega
        have HD : Hid (SizesTo L pieces lost pieces.length) := hdone
        clear hdone
        go_wp2
        go_ret
        exact ⟨Says.yes rfl ⟨HCN.out, fun j hj hjl => HD.out j hj hj hjl⟩, rfl⟩
  · have hne : ((pieces.length : Int) != (d : Int) + (s : Int)) = true := by simp; omega
    have HNO : Hid (¬ (pieces.length = d + s ∧ SizesOk L pieces lost)) := fun h => hcnt h.1
    clear hcnt
    go_enter Tryd.func66, Tryd.ntmps66
    go_wp2
    go_ret
    exact ⟨Says.no rfl HNO.out, rfl⟩
end Go.Proofs.YtlnpppdffhibjaaDoor.Ref

namespace Go.Proofs.YtlnpppdffhibjaaDoor.Ref
open Go.RowKit Mem FieldWalks Tab ByTab Parts
open Gf (Bytes newP)
open Plans (rowF)

/-- The rows that were made of strings so far, in a list that was made ahead. -/
structure Put (w wr : World) (g n L p : Nat) (pieces : List ByteArray) (bs : List Nat) (us : List Value) : Prop where
  list : Blk wr g 93 us
  ulen : us.length = n
  len : bs.length = p
  nodup : bs.Nodup
  at_ : ∀ q, (h : q < bs.length) → ∃ c, us[q]? = some (.slice (some ⟨bs[q], 0, none⟩) L c)
  row : ∀ q, (h : q < bs.length) → Row8 wr bs[q] (nums (pieces.getD q ByteArray.empty))
  low : ∀ b, b ∈ bs → w.heap.size ≤ b ∧ b < wr.heap.size
theorem Put.to {w wr wr' : World} {g n L p : Nat} {pieces : List ByteArray} {bs : List Nat} {us : List Value} (h : Put w wr g n L p pieces bs us) (hb : Below wr.heap.size wr wr') : Put w wr' g n L p pieces bs us :=
  ⟨h.list.to hb, h.ulen, h.len, h.nodup, h.at_, fun q hq => (h.row q hq).to hb, fun b hm => ⟨(h.low b hm).1, Nat.lt_of_lt_of_le (h.low b hm).2 hb.size⟩⟩
theorem Put.add {w wr : World} {g n L p b c : Nat} {pieces : List ByteArray} {bs : List Nat} {us : List Value} (h : Put w wr g n L p pieces bs us) (hb : Row8 wr b (nums (pieces.getD p ByteArray.empty))) (hn : b ∉ bs) (hlow : w.heap.size ≤ b) (hp : p < n) :
    Put w (wr.setCell ⟨g, p, none⟩ (.slice (some ⟨b, 0, none⟩) L c)) g n L (p + 1) pieces (bs ++ [b]) (us.set p (.slice (some ⟨b, 0, none⟩) L c)) := by
  have hl := h.len
  have hul := h.ulen
  have hne : ∀ q, (hq : q < bs.length) → bs[q] ≠ g := fun q hq => (h.row q hq).type_ne h.list (by decide)
  have hbg : b ≠ g := hb.type_ne h.list (by decide)
  refine ⟨h.list.set p _, by simp [hul], by simp [hl], ?_, fun q hq => ?_, fun q hq => ?_, fun x hx => ?_⟩
  · rw [List.nodup_append]
    refine ⟨h.nodup, by simp, fun a ha x hx => ?_⟩
    simp at hx; subst hx
    intro e; exact hn (e ▸ ha)
  · by_cases e : q < bs.length
    · obtain ⟨c', hc'⟩ := h.at_ q e
      exact ⟨c', by rw [List.getElem?_set_ne (by omega), List.getElem_append_left e]; exact hc'⟩
    · have : q = bs.length := by simp at hq; omega
      subst this
      exact ⟨c, by simp [hl, hul, hp]⟩
  · by_cases e : q < bs.length
    · rw [List.getElem_append_left e]; exact (h.row q e).other (hne q e) _
    · have : q = bs.length := by simp at hq; omega
      subst this
      have hb' := hb
      rw [← hl] at hb'
      simpa using hb'.other (a := ⟨g, p, none⟩) hbg _
  · rw [size_setCell]
    rcases List.mem_append.1 hx with hx | hx
    · exact h.low x hx
    · simp at hx; subst hx; exact ⟨hlow, hb.lt⟩
theorem Put.out {w wr : World} {g n L : Nat} {pieces : List ByteArray} {bs : List Nat} {us : List Value} (h : Put w wr g n L n pieces bs us) (hsz : ∀ p, p < n → (nums (pieces.getD p ByteArray.empty)).length = L) :
    OutAt wr g n L bs us (fun p => rowF L (oldOf pieces p)) := by
  have hl := h.len
  refine ⟨h.list, hl, h.nodup, fun p hp => by simp, h.at_, fun p hp => ?_⟩
  have := h.row p hp
  have e : rowF L (oldOf pieces p) = nums (pieces.getD p ByteArray.empty) := by
    apply List.ext_getElem
    · rw [hsz p (by omega)]; simp
    · intro t h1 h2
      simp only [rowF, List.getElem_map, List.getElem_range, oldOf]
      rw [List.getD_eq_getElem?_getD, List.getElem?_eq_getElem h2, Option.getD_some]
  rw [e]; exact this

set_option maxRecDepth 100000 in
set_option maxHeartbeats 4000000 in
theorem pChange_any (d s n at_ L : Nat) (pieces : List ByteArray) (text : ByteArray) (pv : Value) (w : World) (ht : Table w) (hp : StrsAt w pv pieces) (hd : 1 ≤ d) (hd2 : d ≤ 10) (hs : s ≤ 6) (hn : n ≤ 400) (hL : L = (n + d - 1) / d)
    (hyes : ShapeOk d s L pieces []) (hat : at_ + text.size ≤ n) :
    Calls Tryd.prog 53 #[.int .i64 d, .int .i64 s, pv, .int .i64 at_, .string text] w fun e w' => ∃ b, w.heap.size ≤ b ∧ e = .returned (.slice (some ⟨b, 0, none⟩) (d + s) (d + s)) ∧
      Blk w' b 9 (strV ((List.range (d + s)).map fun p => mkS (rowF L (newP d L at_ (nums text) text.size (oldOf pieces) p)))) ∧ Below w.heap.size w w' := by
  have hLs : L ≤ 400 := by have := ceil_le n d hd; omega
  have hnL : n ≤ d * L := by rw [hL]; exact ceil_mul n d (by omega)
  have hcn := hyes.count
  obtain ⟨pb, poff, pcap, rfl, hplt, hpc⟩ : ∃ b off cap, pv = .slice (some ⟨b, off, none⟩) pieces.length cap ∧ b < w.heap.size ∧ ∀ k, (h : k < pieces.length) → w.cell? ⟨b, off + k, none⟩ = some (.string pieces[k]) := by
    obtain ⟨ao, cap, rfl, h⟩ := hp
    rcases h with h | ⟨b, off, rfl, h1, h2⟩
    · rw [h] at hcn; simp at hcn; omega
    · exact ⟨b, off, cap, rfl, h1, h2⟩
  have HPC : Hid (∀ k, (h : k < pieces.length) → w.cell? ⟨pb, poff + k, none⟩ = some (.string pieces[k])) := hpc
  have HPS : Hid (∀ k, (h : k < pieces.length) → pieces[k].size = L) := fun k h => hyes.sizes k h (by simp)
  obtain ⟨M, hM⟩ : ∃ M, M = d + s := ⟨_, rfl⟩
  rw [← hM] at hcn ⊢
  rw [hcn]
  have HCN : Hid (pieces.length = M) := hcn
  have HTB : Hid (Bytes (nums text)) := nums_bytes text
  have HOB : Hid (∀ p t, oldOf pieces p t < 256) := fun p t => (nums_bytes _).getD _
  have HT0 : Hid (Table w) := ht
  have hmk := fun w => make_rows M (by omega) w
  have HM : Hid (M = d + s) := hM
  have hM1 : M ≤ d + s := by omega
  have hM2 : d + s ≤ M := by omega
  clear hpc hp hyes hcn hL ht hM
  go_enter Tryd.func53, Tryd.ntmps53
  go_wp2
  go_loopw [27] (fun i wr => ∃ (p : Nat) (bs : List Nat) (us : List Value), p ≤ M ∧ i = .int .i64 p ∧ Put w wr w.heap.size (M) L p pieces bs us ∧ Below w.heap.size w wr) (fun i _ => M - (intOf i).toNat)
  case atStart =>
    refine ⟨0, [], _, Nat.zero_le _, rfl, ⟨(Blk.new w _ _).eq (toList_madeCells_one _ (M)), by simp, rfl, by simp, fun q hq => by simp at hq, fun q hq => by simp at hq, fun b hb => by simp at hb⟩, (Below.refl _ _).alloc (Nat.le_refl _) _⟩
  case round =>
    obtain ⟨p, bs, us, hp, rfl, hput, hbel⟩ := hrel
    by_cases hpd : p < M
    · have hpl : p < pieces.length := by rw [HCN.out]; exact hpd
      have c1 := HPC.out p hpl
      rw [← hbel.cell (p := ⟨pb, poff + p, none⟩) hplt] at c1
      obtain ⟨x, hx⟩ : ∃ x, x = pieces[p] := ⟨_, rfl⟩
      rw [← hx] at c1
      have hxs : x.size = L := by rw [hx]; exact HPS.out p hpl
      have HX : Hid (pieces.getD p ByteArray.empty = x) := by show _ = _; rw [hx]; simp [hpl]
      have hsz := hbel.size
      have HB : Hid (Below w.heap.size w (Lib.bytesWorld wr 5 x)) := hbel.trans ((below_bytes wr x).mono hsz)
      have HPU : Hid (Put w (Lib.bytesWorld wr 5 x) w.heap.size (M) L p pieces bs us) := hput.to (below_bytes wr x)
      have HR : Hid (Row8 (Lib.bytesWorld wr 5 x) wr.heap.size (nums x)) := Row8.new wr x
      have hbn : wr.heap.size ∉ bs := fun hm => by have := (hput.low _ hm).2; omega
      have HBN : Hid (wr.heap.size ∉ bs) := hbn
      have hconv := Lib.run_convert_string_bytes (P := Tryd.prog) wr 9 93 5 x Tryd.underlying9 Tryd.underlying93 Tryd.underlying5
      rw [hxs] at hconv
      generalize grownCap wr L 0 5 = gc at hconv
      generalize Lib.bytesWorld wr 5 x = wb at HB HPU HR hconv
      have HCV : Hid ((convert 9 93 (.string x)).run Tryd.prog wr = .ok (.slice (some ⟨wr.heap.size, 0, none⟩) L gc) wb) := hconv
      have hul := HPU.out.ulen
      have r3 := HPU.out.list.cell_some (k := p) (v := us[p]'(by omega)) (by simp [show p < us.length by omega])
      have r4 := HPU.out.list.free p
      generalize us[p]'(by omega) = old at r3
      have HPA : Hid (Put w (wb.setCell ⟨w.heap.size, p, none⟩ (.slice (some ⟨wr.heap.size, 0, none⟩) L gc)) w.heap.size (M) L (p + 1) pieces (bs ++ [wr.heap.size]) (us.set p (.slice (some ⟨wr.heap.size, 0, none⟩) L gc))) := HPU.out.add (by rw [HX.out]; exact HR.out) HBN.out hsz hpd
      clear hconv hput hbn hx hxs hul
      go_wp2_with (refine wpList_convert_w _ rfl 9 93 _ rfl (.string x) _ wb rfl HCV.out ?_)
      go_roundw
      case rel => exact ⟨p + 1, _, _, by omega, by go_num, HPA.out, HB.out.setCell (Nat.le_refl _) _⟩
      case measure => simp [intOf]; omega
    · obtain rfl : M = p := by omega
      have hout := hput.out (fun q hq => by
        have hql : q < pieces.length := by rw [HCN.out]; exact hq
        rw [nums_length, show pieces.getD q ByteArray.empty = pieces[q] by simp [hql]]; exact HPS.out q hql)
      obtain ⟨F0, hF0⟩ : ∃ F0, F0 = wr.heap.size := ⟨_, rfl⟩
      have HLOW : Hid (∀ b, b ∈ bs → w.heap.size ≤ b ∧ b < F0) := fun b hb => by rw [hF0]; exact hput.low b hb
      have HOUT0 : Hid (OutAt wr w.heap.size M L bs us (fun p => rowF L (oldOf pieces p))) := hout
      have HF0 : Hid (F0 = wr.heap.size) := hF0
      clear hput hout hF0
      go_wp2_with fail
      refine (factors_new d s (by omega) (by omega) _ (table_to HT0.out hbel)).mono ?_
      rintro e w5 ⟨fv, rfl, hfac, hb5⟩
      rw [← HF0.out] at hfac
      have HFN : Hid (RowsNew w5 F0 fv (facs d s)) := hfac
      obtain ⟨fg, fc, rfl, _⟩ := hfac
      rw [show (facs d s).length = s by simp [facs]] at HFN ⊢
      have HO5 : Hid (OutAt w5 w.heap.size M L bs us (fun p => rowF L (newP d L at_ (nums text) 0 (oldOf pieces) p))) := (HOUT0.out.to hb5).congr fun p hp => Plans.rowF_congr fun t ht => Gf.newP_zero _ _ _ _ _ _ _
      have HB5 : Hid (Below w.heap.size w w5) := hbel.trans (hb5.mono hbel.size)
      obtain ⟨x0, hx0⟩ : ∃ x0, x0 = pieces[0]'(by rw [HCN.out]; omega) := ⟨_, rfl⟩
      have hx0s : x0.size = L := by rw [hx0]; exact HPS.out 0 _
      have c0 : w5.cell? ⟨pb, poff, none⟩ = some (.string x0) := by
        rw [HB5.out.cell (p := ⟨pb, poff, none⟩) hplt, hx0]; exact HPC.out 0 _
      have hM0 : 0 < M := by omega
      obtain ⟨g, hg⟩ : ∃ g, g = w.heap.size := ⟨_, rfl⟩
      rw [← hg] at HO5 ⊢
      have HG : Hid (g = w.heap.size) := hg
      clear hg hx0 HOUT0 hb5 hbel
      go_wp2
      go_loopw [47] (fun kv wq => ∃ k : Nat, k ≤ text.size ∧ kv = .int .i64 k ∧ OutAt wq g M L bs us (fun p => rowF L (newP d L at_ (nums text) k (oldOf pieces) p)) ∧ Over F0 w5 wq ∧ Below w.heap.size w wq) (fun kv _ => text.size - (intOf kv).toNat)
      case atStart => exact ⟨0, Nat.zero_le _, rfl, HO5.out, Over.refl _ _, HB5.out⟩
      case round =>
        clear HO5 c0
        obtain ⟨k, hk, rfl, hout, hov, hbq⟩ := hrel
        by_cases hkt : k < text.size
        · have hpos : at_ + k < d * L := by omega
          have hL0 : 0 < L := by
            rcases Nat.eq_zero_or_pos L with h | h
            · rw [h, Nat.mul_zero] at hpos; omega
            · exact h
          obtain ⟨j0, hj0⟩ : ∃ j0, j0 = (at_ + k) / L := ⟨_, rfl⟩
          obtain ⟨t0, ht0⟩ : ∃ t0, t0 = (at_ + k) % L := ⟨_, rfl⟩
          have hj0d : j0 < d := by rw [hj0]; exact Nat.div_lt_of_lt_mul (by rw [Nat.mul_comm]; exact hpos)
          have ht0L : t0 < L := by rw [ht0]; exact Nat.mod_lt _ hL0
          have q1 : ((at_ : Int) + (k : Int)) / (L : Int) = (j0 : Int) := by rw [hj0]; simp
          have q2 : ((at_ : Int) + (k : Int)) % (L : Int) = (t0 : Int) := by rw [ht0]; simp
          have q3 : Int.tdiv ((at_ : Int) + (k : Int)) (L : Int) = (j0 : Int) := by rw [Int.tdiv_eq_ediv_of_nonneg (by omega)]; exact q1
          have q4 : Int.tmod ((at_ : Int) + (k : Int)) (L : Int) = (t0 : Int) := by rw [Int.tmod_eq_emod_of_nonneg (by omega)]; exact q2
          have q9 : ((L : Int) == 0) = false := by simp; omega
          have q7 : ¬ (L : Int) = 0 := by omega
          have q8 : ¬ L = 0 := by omega
          obtain ⟨b0, c0, hb0, g1, hbg, hb0l, hcell⟩ := hout.read j0 (by omega)
          obtain ⟨g2, g3⟩ := hcell t0 ht0L
          rw [show (rowF L (newP d L at_ (nums text) k (oldOf pieces) j0)).getD t0 0 = newP d L at_ (nums text) k (oldOf pieces) j0 t0 by simp [rowF, ht0L]] at g2
          have hob := Gf.newP_lt (d := d) (L := L) (at_ := at_) (k := k) (p := j0) (t := t0) HTB.out HOB.out (by omega) (by omega)
          obtain ⟨o, ho⟩ : ∃ o, o = newP d L at_ (nums text) k (oldOf pieces) j0 t0 := ⟨_, rfl⟩
          rw [← ho] at g2 hob
          have HO : Hid (o = newP d L at_ (nums text) k (oldOf pieces) j0 t0) := ho
          have HJT : Hid (j0 = (at_ + k) / L ∧ t0 = (at_ + k) % L) := ⟨hj0, ht0⟩
          obtain ⟨ch, hch⟩ : ∃ ch, ch = (text[k]'hkt).toNat := ⟨_, rfl⟩
          have hchb : ch < 256 := by rw [hch]; exact (text[k]'hkt).toNat_lt
          have HCH : Hid ((nums text).getD k 0 = ch) := by show _ = _; rw [hch]; exact nums_get text k hkt
          have hci : ((text[k]'hkt).toNat : Int) = (ch : Int) := by rw [hch]
          obtain ⟨by_, hby⟩ : ∃ by_, by_ = o ^^^ ch := ⟨_, rfl⟩
          have hbyb : by_ < 256 := by rw [hby]; exact Gf.xor_lt hob hchb
          have hxor : bits .xor .u8 (o : Int) (ch : Int) = (by_ : Int) := by rw [hby]; exact u8_xor_nat _ _ hob hchb
          have hxor2 : bits .xor .u8 (o : Int) (by_ : Int) = (ch : Int) := by rw [u8_xor_nat _ _ hob hbyb, hby, ← Nat.xor_assoc, Nat.xor_self, Nat.zero_xor]
          have HBY : Hid (by_ = o ^^^ ch) := hby
          have HOUT : Hid (OutAt wr g M L bs us (fun p => rowF L (newP d L at_ (nums text) k (oldOf pieces) p))) := hout
          have HOV : Hid (Over F0 w5 wr) := hov
          have HBQ : Hid (Below w.heap.size w wr) := hbq
          have i1 : (j0 : Int) < (M : Int) := by omega
          have i2 : (t0 : Int) < (L : Int) := by omega
          have i3 : (k : Int) < (text.size : Int) := by omega
          clear hj0 ht0 ho hch hby hout hov hbq hcell hpos
          go_wp2
          go_quiet (fail)
          obtain ⟨w6, hw6⟩ : ∃ w6, w6 = wr.drewN nq := ⟨_, rfl⟩
          have hb6 : Below wr.heap.size wr w6 := by rw [hw6]; exact below_drewN (Below.refl _ _) _
          rw [← hw6]
          have g1' : w6.cell? ⟨g, j0, none⟩ = some (.slice (some ⟨b0, 0, none⟩) L c0) := by rw [hw6]; exact g1
          have g2' : w6.cell? ⟨b0, t0, none⟩ = some (.int .u8 (o : Int)) := by rw [hw6]; exact g2
          have g3' : w6.frozen? ⟨b0, t0, none⟩ = false := by rw [hw6]; exact g3
          have HO6 : Hid (OutAt w6 g M L bs us (fun p => rowF L (newP d L at_ (nums text) k (oldOf pieces) p))) := HOUT.out.to hb6
          have HV6 : Hid (Over F0 w5 w6) := HOV.out.to hb6
          have HB6 : Hid (Below w.heap.size w w6) := HBQ.out.trans (hb6.mono HBQ.out.size)
          clear hw6 g1 g2 g3 HOUT HOV HBQ hb6 q1 q2 q3 q4
          go_wp2
          go_quiet (fail)
          obtain ⟨w7, hw7⟩ : ∃ w7, w7 = w6.drewN nq := ⟨_, rfl⟩
          have hb7 : Below w6.heap.size w6 w7 := by rw [hw7]; exact below_drewN (Below.refl _ _) _
          rw [← hw7]
          have g1 : w7.cell? ⟨g, j0, none⟩ = some (.slice (some ⟨b0, 0, none⟩) L c0) := by rw [hw7]; exact g1'
          have g2 : w7.cell? ⟨b0, t0, none⟩ = some (.int .u8 (o : Int)) := by rw [hw7]; exact g2'
          have g3 : w7.frozen? ⟨b0, t0, none⟩ = false := by rw [hw7]; exact g3'
          have HO7 : Hid (OutAt w7 g M L bs us (fun p => rowF L (newP d L at_ (nums text) k (oldOf pieces) p))) := HO6.out.to hb7
          have HV7 : Hid (Over F0 w5 w7) := HV6.out.to hb7
          have HB7 : Hid (Below w.heap.size w w7) := HB6.out.trans (hb7.mono HB6.out.size)
          clear hw7 g1' g2' g3' HO6 HV6 HB6 hb7
          go_wp2
          have HO8 : Hid (OutAt (w7.setCell ⟨b0, t0, none⟩ (.int .u8 (ch : Int))) g M L bs us (fun p => if p < d + 0 then rowF L (newP d L at_ (nums text) (k + 1) (oldOf pieces) p) else rowF L (newP d L at_ (nums text) k (oldOf pieces) p))) := by
            have hjl : j0 < bs.length := (List.getElem?_eq_some_iff.1 hb0).1
            have hbe : bs[j0] = b0 := (List.getElem?_eq_some_iff.1 hb0).2
            have h1 := HO7.out.set j0 hjl t0 ch
            rw [hbe] at h1
            refine h1.congr fun p hp => ?_
            by_cases hpd : p < d
            · rw [if_pos (by omega)]
              by_cases e : p = j0
              · subst e
                rw [if_pos rfl, Plans.rowF_set]
                refine Plans.rowF_congr fun t ht => ?_
                rw [Gf.newP_data ht hpd, HCH.out]
                unfold Plans.upd
                by_cases e2 : t = t0
                · rw [if_pos ⟨HJT.out.1, e2.trans HJT.out.2⟩, if_pos e2]
                · rw [if_neg (fun h => e2 (h.2.trans HJT.out.2.symm)), if_neg e2]
              · rw [if_neg e]
                refine Plans.rowF_congr fun t ht => ?_
                rw [Gf.newP_data ht hpd, if_neg (fun h => e (h.1.trans HJT.out.1.symm))]
            · rw [if_neg (by omega), if_neg (by omega)]
          have hb0w := HLOW.out b0 (List.mem_of_getElem? hb0)
          have HV8 : Hid (Over F0 w5 (w7.setCell ⟨b0, t0, none⟩ (.int .u8 (ch : Int)))) := HV7.out.setCell hb0w.2 _
          have HB8 : Hid (Below w.heap.size w (w7.setCell ⟨b0, t0, none⟩ (.int .u8 (ch : Int)))) := HB7.out.setCell hb0w.1 _
          obtain ⟨w8, hw8⟩ : ∃ w8, w8 = w7.setCell ⟨b0, t0, none⟩ (.int .u8 (ch : Int)) := ⟨_, rfl⟩
          rw [← hw8] at HO8 HV8 HB8 ⊢
          clear hw8 g1 g2 g3 HO7 HV7 HB7 hb0w hbg hb0l hb0 hxor hxor2 hci i3
          go_loopw [83] (fun rv wq => ∃ r : Nat, r ≤ s ∧ rv = .int .i64 r ∧ OutAt wq g M L bs us (fun p => if p < d + r then rowF L (newP d L at_ (nums text) (k + 1) (oldOf pieces) p) else rowF L (newP d L at_ (nums text) k (oldOf pieces) p)) ∧ Over F0 w5 wq ∧ Below w.heap.size w wq) (fun rv _ => s - (intOf rv).toNat)
          case atStart => exact ⟨0, Nat.zero_le _, rfl, HO8.out, HV8.out, HB8.out⟩
          case round =>
            clear HO8 HV8 HB8
            obtain ⟨r, hr, rfl, hout, hov, hbq⟩ := hrel
            by_cases hrs : r < s
            · obtain ⟨b1, c1, hb1, g1, hbg1, hb1l, hcell⟩ := hout.read (d + r) (by omega)
              obtain ⟨g2, g3⟩ := hcell t0 ht0L
              rw [if_neg (by omega), show (rowF L (newP d L at_ (nums text) k (oldOf pieces) (d + r))).getD t0 0 = newP d L at_ (nums text) k (oldOf pieces) (d + r) t0 by simp [rowF, ht0L]] at g2
              have hvb := Gf.newP_lt (d := d) (L := L) (at_ := at_) (k := k) (p := d + r) (t := t0) HTB.out HOB.out (by omega) (by omega)
              obtain ⟨v, hv⟩ : ∃ v, v = newP d L at_ (nums text) k (oldOf pieces) (d + r) t0 := ⟨_, rfl⟩
              rw [← hv] at g2 hvb
              obtain ⟨x, hx⟩ : ∃ x, x = Gf.inv ((d + r) ^^^ j0) := ⟨_, rfl⟩
              have hxb : x < 256 := by rw [hx]; exact Gf.inv_lt _ (Gf.xor_lt (by omega) (by omega))
              obtain ⟨fb, fc', hfb, hfl, gf, ge⟩ : ∃ fb fc', F0 ≤ fb ∧ fb < wr.heap.size ∧ wr.cell? ⟨fg, r, none⟩ = some (.slice (some ⟨fb, 0, none⟩) d fc') ∧ wr.cell? ⟨fb, j0, none⟩ = some (.int .u8 (x : Int)) := by
                obtain ⟨g', c', he, _, _, h3⟩ := HFN.out.over hov
                injection he with he _ _
                injection he with he
                injection he with he
                subst he
                obtain ⟨b, c'', h4, h5, h6, h7⟩ := h3 r (by simp [facs]; exact hrs)
                have hlr : ((facs d s)[r]'(by simp [facs]; exact hrs)).length = d := by simp [facs, facRow]
                refine ⟨b, c'', h4, h5, by rw [← hlr]; exact h6, ?_⟩
                rw [h7 j0 (by rw [hlr]; exact hj0d), hx]
                simp [facs, facRow]
              obtain ⟨nv, hnv⟩ : ∃ nv, nv = v ^^^ Gf.times x by_ := ⟨_, rfl⟩
              have htb : Gf.times x by_ < 256 := Gf.times_lt _ _ hxb
              have hxor2 : bits .xor .u8 (v : Int) ((Gf.times x by_ : Nat) : Int) = (nv : Int) := by rw [hnv]; exact u8_xor_nat _ _ hvb htb
              have HNEW : Hid (OutAt (wr.setCell ⟨b1, t0, none⟩ (.int .u8 (nv : Int))) g M L bs us (fun p => if p < d + (r + 1) then rowF L (newP d L at_ (nums text) (k + 1) (oldOf pieces) p) else rowF L (newP d L at_ (nums text) k (oldOf pieces) p))) := by
                have hjl : d + r < bs.length := (List.getElem?_eq_some_iff.1 hb1).1
                have hbe : bs[d + r] = b1 := (List.getElem?_eq_some_iff.1 hb1).2
                have h1 := hout.set (d + r) hjl t0 nv
                rw [hbe] at h1
                refine h1.congr fun p hp => ?_
                by_cases e : p = d + r
                · subst e
                  rw [if_pos (by omega), if_pos rfl, if_neg (by omega), Plans.rowF_set]
                  refine Plans.rowF_congr fun t ht => ?_
                  rw [Gf.newP_spare ht (by omega) (by omega) (by omega) (by rw [← HJT.out.1]; exact hj0d), HCH.out, ← HJT.out.1, ← HJT.out.2]
                  unfold Plans.upd
                  by_cases e2 : t = t0
                  · subst e2
                    rw [if_pos rfl, if_pos rfl, hnv, HBY.out, HO.out, hv, hx]
                  · rw [if_neg e2, if_neg e2]
                · rw [if_neg e]
                  by_cases e3 : p < d + r
                  · rw [if_pos (by omega), if_pos e3]
                  · rw [if_neg (by omega), if_neg e3]
              have HB1 : Hid (w.heap.size ≤ b1 ∧ b1 < F0) := HLOW.out b1 (List.mem_of_getElem? hb1)
              have hb1f := HB1.out.2
              have HV8 : Hid (Over F0 w5 wr) := hov
              have HB8 : Hid (Below w.heap.size w wr) := hbq
              have HT8 : Hid (Table wr) := table_to HT0.out hbq
              have HS : Hid (wr.drew.cell? ⟨g, d + r, none⟩ = some (.slice (some ⟨b1, 0, none⟩) L c1) ∧ wr.drew.cell? ⟨fb, j0, none⟩ = some (.int .u8 (x : Int))) := ⟨g1, ge⟩
              have HA : Hid ((⟨b1, t0, none⟩ : Addr) ≠ ⟨g, d + r, none⟩ ∧ (⟨b1, t0, none⟩ : Addr) ≠ ⟨fb, j0, none⟩) := by
                refine ⟨?_, ?_⟩ <;> intro h <;> injection h <;> omega
              have z1 : ((d : Int) + (r : Int)).toNat = d + r := by omega
              have z3 : (d : Int) + (r : Int) < (M : Int) := by omega
              have z5 : (0 : Int) ≤ (d : Int) + (r : Int) := by omega
              have z6 : (j0 : Int) < (d : Int) := by omega
              have y5 : IntKind.i64.wrap ((d : Int) + (r : Int)) = (d : Int) + (r : Int) := by rw [IntKind.wrap_i64]; omega
              clear hcell hout hov hbq hv hx hnv
              go_wp2_with fail
              refine wp_region_held (S := fun wx => wx.cell? ⟨g, d + r, none⟩ = some (.slice (some ⟨b1, 0, none⟩) L c1) ∧ wx.cell? ⟨fb, j0, none⟩ = some (.int .u8 (x : Int))) rfl ?_
              refine wpAnyH_take (i := 0) (v := (.slice (some ⟨g, 0, none⟩) M M)) rfl (by kernel_rfl) (by kernel_rfl) (by kernel_rfl) (fun _ _ _ h => h) (Or.inl ⟨by rfl, fun w hw => by go_simp⟩) HS.out ?_
              refine wpAnyH_take (i := 1) (v := (.int .i64 (d : Int))) rfl (by kernel_rfl) (by kernel_rfl) (by kernel_rfl) (fun _ _ _ h => h) (Or.inl ⟨by rfl, fun w hw => by go_simp⟩) HS.out ?_
              refine wpAnyH_take (i := 2) (v := (.int .i64 (r : Int))) rfl (by kernel_rfl) (by kernel_rfl) (by kernel_rfl) (fun _ _ _ h => h) (Or.inl ⟨by rfl, fun w hw => by go_simp⟩) HS.out ?_
              refine wpAnyH_take (i := 3) (v := (.int .i64 ((d : Int) + (r : Int)))) rfl (by kernel_rfl) (by kernel_rfl) (by kernel_rfl) (fun _ _ _ h => h) (Or.inl ⟨by rfl, fun w hw => by go_simp⟩) HS.out ?_
              refine wpAnyH_take (i := 4) (v := (.pointer (some ⟨g, d + r, none⟩))) rfl (by kernel_rfl) (by kernel_rfl) (by kernel_rfl) (fun _ _ _ h => h) (Or.inl ⟨by rfl, fun w hw => by go_simp⟩) HS.out ?_
              simp only [Act.put]
              refine wpAnyH_take (i := 5) (v := (.slice (some ⟨b1, 0, none⟩) L c1)) rfl (by kernel_rfl) (by kernel_rfl) (by kernel_rfl) (fun _ _ _ h => h) (Or.inl ⟨by rfl, fun w hw => by obtain ⟨t1, t2⟩ := hw; go_simp⟩) HS.out ?_
              refine wpAnyH_take (i := 6) (v := (.int .i64 (t0 : Int))) rfl (by kernel_rfl) (by kernel_rfl) (by kernel_rfl) (fun _ _ _ h => h) (Or.inl ⟨by rfl, fun w hw => by go_simp⟩) HS.out ?_
              refine wpAnyH_take (i := 7) (v := (.pointer (some ⟨b1, t0, none⟩))) rfl (by kernel_rfl) (by kernel_rfl) (by kernel_rfl) (fun _ _ _ h => h) (Or.inl ⟨by rfl, fun w hw => by go_simp⟩) HS.out ?_
              refine wpAnyH_take (i := 9) (v := (.slice (some ⟨fb, 0, none⟩) d fc')) rfl (by kernel_rfl) (by kernel_rfl) (by kernel_rfl) (fun _ _ _ h => h) (Or.inl ⟨by rfl, fun w hw => by go_simp⟩) HS.out ?_
              refine wpAnyH_take (i := 10) (v := (.int .i64 (j0 : Int))) rfl (by kernel_rfl) (by kernel_rfl) (by kernel_rfl) (fun _ _ _ h => h) (Or.inl ⟨by rfl, fun w hw => by go_simp⟩) HS.out ?_
              simp only [Act.put]
              refine wpAnyH_take (i := 11) (v := (.pointer (some ⟨fb, j0, none⟩))) rfl (by kernel_rfl) (by kernel_rfl) (by kernel_rfl) (fun _ _ _ h => h) (Or.inl ⟨by rfl, fun w hw => by go_simp⟩) HS.out ?_
              refine wpAnyH_take (i := 12) (v := (.int .u8 (x : Int))) rfl (by kernel_rfl) (by kernel_rfl) (by kernel_rfl) (fun _ _ _ h => h) (Or.inl ⟨by rfl, fun w hw => by obtain ⟨t1, t2⟩ := hw; go_simp⟩) HS.out ?_
              refine wpAnyH_take (i := 13) (v := (.int .u8 (by_ : Int))) rfl (by kernel_rfl) (by kernel_rfl) (by kernel_rfl) (fun _ _ _ h => h) (Or.inl ⟨by rfl, fun w hw => by go_simp⟩) HS.out ?_
              simp only [Act.put, List.setIfInBounds_toArray]
              refine wpAnyH_ready (rs := [8, 14]) (by kernel_rfl) (by simp) ?_
              refine AllReadyH.cons rfl (fun K hK => ?_) (AllReadyH.cons rfl (fun K hK => ?_) AllReadyH.nil)
              · go_simp
                refine hK.out _ _ HS.out (fun _ => ?_)
                clear hK K
                refine wpAnyH_ready (rs := [14]) (by kernel_rfl) (by simp) ?_
                refine AllReadyH.cons rfl (fun K hK => ?_) AllReadyH.nil
                go_simp
                refine (mul_any x by_ hxb hbyb _ (by exact HT8.out)).mono ?_
                rintro e w2 ⟨rfl, rfl⟩
                dsimp only
                refine hK.out _ _ HS.out (fun _ => ?_)
                clear hK K
                refine wpAnyH_take (i := 15) (v := (.int .u8 (nv : Int))) rfl (by kernel_rfl) (by kernel_rfl) (by kernel_rfl) (fun _ _ _ h => h) (Or.inl ⟨by rfl, fun w hw => by go_simp⟩) HS.out ?_
                refine wpAnyH_take (i := 16) (v := (.pointer (some ⟨b1, t0, none⟩))) rfl (by kernel_rfl) (by kernel_rfl) (by kernel_rfl) (fun _ _ _ h => h) (Or.inl ⟨by rfl, fun w hw => by go_simp⟩) HS.out ?_
                simp only [Act.put, List.setIfInBounds_toArray]
                refine wpAnyH_ready (rs := [17]) (by kernel_rfl) (by simp) ?_
                refine AllReadyH.cons rfl (fun K hK => ?_) AllReadyH.nil
                go_simp
                refine hK.out _ _ ⟨(World.cell?_setCell_other _ _ _ _ HA.out.1).trans HS.out.1, (World.cell?_setCell_other _ _ _ _ HA.out.2).trans HS.out.2⟩ (fun _ => ?_)
                clear hK K
                refine wpAnyH_done (by kernel_rfl) ?_ _
                go_wp2
                go_roundw
                case rel => exact ⟨r + 1, by omega, by go_num, HNEW.out.to (Below.refl _ _).drew, (HV8.out.setCell HB1.out.2 _).drew, (HB8.out.setCell HB1.out.1 _).drew⟩
                case measure => simp [intOf]; omega
              · go_simp
                refine (mul_any x by_ hxb hbyb _ (by exact HT8.out)).mono ?_
                rintro e w2 ⟨rfl, rfl⟩
                dsimp only
                refine hK.out _ _ HS.out (fun _ => ?_)
                clear hK K
                refine wpAnyH_ready (rs := [8]) (by kernel_rfl) (by simp) ?_
                refine AllReadyH.cons rfl (fun K hK => ?_) AllReadyH.nil
                go_simp
                refine hK.out _ _ HS.out (fun _ => ?_)
                clear hK K
                refine wpAnyH_take (i := 15) (v := (.int .u8 (nv : Int))) rfl (by kernel_rfl) (by kernel_rfl) (by kernel_rfl) (fun _ _ _ h => h) (Or.inl ⟨by rfl, fun w hw => by go_simp⟩) HS.out ?_
                refine wpAnyH_take (i := 16) (v := (.pointer (some ⟨b1, t0, none⟩))) rfl (by kernel_rfl) (by kernel_rfl) (by kernel_rfl) (fun _ _ _ h => h) (Or.inl ⟨by rfl, fun w hw => by go_simp⟩) HS.out ?_
                simp only [Act.put, List.setIfInBounds_toArray]
                refine wpAnyH_ready (rs := [17]) (by kernel_rfl) (by simp) ?_
                refine AllReadyH.cons rfl (fun K hK => ?_) AllReadyH.nil
                go_simp
                refine hK.out _ _ ⟨(World.cell?_setCell_other _ _ _ _ HA.out.1).trans HS.out.1, (World.cell?_setCell_other _ _ _ _ HA.out.2).trans HS.out.2⟩ (fun _ => ?_)
                clear hK K
                refine wpAnyH_done (by kernel_rfl) ?_ _
                go_wp2
                go_roundw
                case rel => exact ⟨r + 1, by omega, by go_num, HNEW.out.to (Below.refl _ _).drew, (HV8.out.setCell HB1.out.2 _).drew, (HB8.out.setCell HB1.out.1 _).drew⟩
                case measure => simp [intOf]; omega
            · obtain rfl : s = r := by omega
              have HO9 : Hid (OutAt wr g M L bs us (fun p => rowF L (newP d L at_ (nums text) (k + 1) (oldOf pieces) p))) := hout.congr fun p hp => by rw [if_pos (by omega)]
              have HV9 : Hid (Over F0 w5 wr) := hov
              have HB9 : Hid (Below w.heap.size w wr) := hbq
              clear hout hov hbq
              go_wp2
              go_roundw
              case rel => exact ⟨k + 1, by omega, by go_num, HO9.out, HV9.out, HB9.out⟩
              case measure => simp [intOf]; omega
        · obtain rfl : k = text.size := by omega
          obtain ⟨ls, hls⟩ : ∃ ls, ls = (List.range M).map fun p => rowF L (newP d L at_ (nums text) text.size (oldOf pieces) p) := ⟨_, rfl⟩
          have hlsl : ls.length = M := by rw [hls]; simp
          have HLS : Hid (ls.length = M) := hlsl
          have HRO : Hid (RowsAt wr (.slice (some ⟨g, 0, none⟩) M M) ls) := by
            refine ⟨_, M, by rw [hlsl], .inr ⟨g, 0, rfl, hout.list.lt, fun q hq => ?_⟩⟩
            obtain ⟨b1, c1, hb1, g1, hbg1, hb1l, hcell⟩ := hout.read q (by omega)
            have hq2 : ls[q] = rowF L (newP d L at_ (nums text) text.size (oldOf pieces) q) := by simp [hls]
            refine ⟨_, by rw [Nat.zero_add]; exact g1, ?_⟩
            have hll : ls[q].length = L := by rw [hq2]; simp
            refine ⟨_, c1, by rw [hll], .inr ⟨b1, 0, rfl, hb1l, fun t ht => ?_⟩⟩
            rw [Nat.zero_add, (hcell t (by omega)).1]
            simp only [hq2]
            simp [rowF, show t < L by omega]
          have HLD : Hid (((List.range M).map fun p => mkS (rowF L (newP d L at_ (nums text) text.size (oldOf pieces) p))) = ls.map mkS) := by show _ = _; rw [hls, List.map_map]; rfl
          have HBQ : Hid (Below w.heap.size w wr) := hbq
          clear hls hlsl hout hov hbq
          go_wp2_with fail
          refine (asTexts_any ls _ _ HRO.out (by rw [HLS.out]; omega)).mono ?_
          rintro e w9 ⟨b, hb, rfl, hblk, hb9⟩
          rw [HLS.out]
          have HBLK : Hid (Blk w9 b 9 (strV (ls.map mkS))) := hblk
          clear hblk
          go_wp2
          go_ret
          exact ⟨b, Nat.le_trans HBQ.out.size hb, rfl, by rw [HLD.out]; exact HBLK.out, HBQ.out.trans (hb9.mono HBQ.out.size)⟩
end Go.Proofs.YtlnpppdffhibjaaDoor.Ref

namespace Go.Proofs.YtlnpppdffhibjaaDoor.Ref
open Go.RowKit Mem FieldWalks Tab ByTab Parts

/-- With an error no pieces. -/
def CNo (k : Int) (e : Ending) : Prop := e = .returned (.tuple #[.slice none 0 0, .int .i64 k])

set_option maxRecDepth 100000 in
set_option maxHeartbeats 400000 in
theorem rChange_count (d s n a : Int) (pv : Value) (text : ByteArray) (h : okCounts d s = false) (w : World) :
    Calls Tryd.prog 54 #[.int .i64 d, .int .i64 s, .int .i64 n, pv, .int .i64 a, .string text] w fun e w' => CNo 3 e ∧ w' = w := by
  go_enter Tryd.func54, Tryd.ntmps54
  go_wp2_with fail
  refine (rCounts_any _ _ _).mono ?_
  rintro e w' ⟨rfl, rfl⟩
  go_wp2
  go_ret2
  exact ⟨rfl, rfl⟩
set_option maxRecDepth 100000 in
set_option maxHeartbeats 400000 in
theorem rChange_long (d s n a : Int) (pv : Value) (text : ByteArray) (h1 : okCounts d s = true) (h : ¬ (0 ≤ n ∧ n ≤ 400)) (w : World) :
    Calls Tryd.prog 54 #[.int .i64 d, .int .i64 s, .int .i64 n, pv, .int .i64 a, .string text] w fun e w' => CNo 5 e ∧ w' = w := by
  by_cases h0 : n < 0
  · have e1 : decide (n < 0) = true := decide_eq_true h0
    go_enter Tryd.func54, Tryd.ntmps54
    go_wp2_with fail
    refine (rCounts_any _ _ _).mono ?_
    rintro e w' ⟨rfl, rfl⟩
    go_wp2
    go_ret2
    exact ⟨rfl, rfl⟩
  · have e1 : decide (n < 0) = false := decide_eq_false h0
    have e2 : decide (400 < n) = true := decide_eq_true (by omega)
    go_enter Tryd.func54, Tryd.ntmps54
    go_wp2_with fail
    refine (rCounts_any _ _ _).mono ?_
    rintro e w' ⟨rfl, rfl⟩
    go_wp2
    go_ret2
    exact ⟨rfl, rfl⟩
set_option maxRecDepth 100000 in
set_option maxHeartbeats 1000000 in
theorem rChange_shape (d s n : Nat) (a : Int) (pieces : List ByteArray) (pv : Value) (text : ByteArray) (w : World) (hp : StrsAt w pv pieces) (hpl : pieces.length < 2 ^ 62) (hd : 1 ≤ d) (hd2 : d ≤ 10) (hs : s ≤ 6) (hn : n ≤ 400) (hsz : ∀ p, (h : p < pieces.length) → pieces[p].size < 2 ^ 62)
    (hno : ¬ ShapeOk d s ((n + d - 1) / d) pieces []) :
    Calls Tryd.prog 54 #[.int .i64 d, .int .i64 s, .int .i64 n, pv, .int .i64 a, .string text] w fun e w' => CNo 6 e ∧ Drew w w' := by
  have hok : okCounts d s = true := okCounts_yes _ _ (by omega)
  have e1 : decide ((n : Int) < 0) = false := decide_eq_false (by omega)
  have e2 : decide ((400 : Int) < (n : Int)) = false := decide_eq_false (by omega)
  have HSH : Hid (Calls Tryd.prog 69 #[.int .i64 d, .int .i64 s, .int .i64 n, pv, .slice none 0 0] w fun e w'' => e = .returned (.bool false) ∧ Drew w w'') := by
    refine (shaped_any d s n _ pieces [] pv _ w hp ⟨none, 0, rfl, .inl rfl⟩ (by simp) hpl hd hd2 hs hn rfl hsz).mono ?_
    rintro e w'' ⟨⟨b, rfl, hb⟩, hw⟩
    cases b
    · exact ⟨rfl, hw⟩
    · exact absurd (hb.1 rfl) hno
  go_enter Tryd.func54, Tryd.ntmps54
  go_wp2_with fail
  refine (rCounts_any _ _ _).mono ?_
  rintro e w' ⟨rfl, rfl⟩
  go_wp2_with fail
  refine Calls.mono HSH.out ?_
  rintro e w2 ⟨rfl, hw2⟩
  go_wp2
  go_ret2
  exact ⟨rfl, hw2⟩
set_option maxRecDepth 100000 in
set_option maxHeartbeats 1000000 in
theorem rChange_range (d s n : Nat) (a : Int) (pieces : List ByteArray) (pv : Value) (text : ByteArray) (w : World) (hp : StrsAt w pv pieces) (hpl : pieces.length < 2 ^ 62) (hd : 1 ≤ d) (hd2 : d ≤ 10) (hs : s ≤ 6) (hn : n ≤ 400) (hsz : ∀ p, (h : p < pieces.length) → pieces[p].size < 2 ^ 62)
    (ha1 : -(2 : Int) ^ 63 ≤ a) (ha2 : a < (2 : Int) ^ 63) (hyes : ShapeOk d s ((n + d - 1) / d) pieces []) (hr : ¬ (0 ≤ a ∧ a + text.size ≤ n)) :
    Calls Tryd.prog 54 #[.int .i64 d, .int .i64 s, .int .i64 n, pv, .int .i64 a, .string text] w fun e w' => CNo 8 e ∧ Drew w w' := by
  have hok : okCounts d s = true := okCounts_yes _ _ (by omega)
  have e1 : decide ((n : Int) < 0) = false := decide_eq_false (by omega)
  have e2 : decide ((400 : Int) < (n : Int)) = false := decide_eq_false (by omega)
  have HSH : Hid (Calls Tryd.prog 69 #[.int .i64 d, .int .i64 s, .int .i64 n, pv, .slice none 0 0] w fun e w'' => e = .returned (.bool true) ∧ Drew w w'') := by
    refine (shaped_any d s n _ pieces [] pv _ w hp ⟨none, 0, rfl, .inl rfl⟩ (by simp) hpl hd hd2 hs hn rfl hsz).mono ?_
    rintro e w'' ⟨⟨b, rfl, hb⟩, hw⟩
    rw [hb.2 hyes]
    exact ⟨rfl, hw⟩
  by_cases h0 : a < 0
  · have e4 : decide (a < 0) = true := decide_eq_true h0
    go_enter Tryd.func54, Tryd.ntmps54
    go_wp2_with fail
    refine (rCounts_any _ _ _).mono ?_
    rintro e w' ⟨rfl, rfl⟩
    go_wp2_with fail
    refine Calls.mono HSH.out ?_
    rintro e w2 ⟨rfl, hw2⟩
    go_wp2
    go_ret2
    exact ⟨rfl, hw2⟩
  · have e4 : decide (a < 0) = false := decide_eq_false h0
    by_cases h5 : (n : Int) < a
    · have e5 : decide ((n : Int) < a) = true := decide_eq_true h5
      go_enter Tryd.func54, Tryd.ntmps54
      go_wp2_with fail
      refine (rCounts_any _ _ _).mono ?_
      rintro e w' ⟨rfl, rfl⟩
      go_wp2_with fail
      refine Calls.mono HSH.out ?_
      rintro e w2 ⟨rfl, hw2⟩
      go_wp2
      go_ret2
      exact ⟨rfl, hw2⟩
    · have e5 : decide ((n : Int) < a) = false := decide_eq_false h5
      have e6 : decide ((n : Int) - a < (text.size : Int)) = true := decide_eq_true (by omega)
      go_enter Tryd.func54, Tryd.ntmps54
      go_wp2_with fail
      refine (rCounts_any _ _ _).mono ?_
      rintro e w' ⟨rfl, rfl⟩
      go_wp2_with fail
      refine Calls.mono HSH.out ?_
      rintro e w2 ⟨rfl, hw2⟩
      go_wp2
      go_ret2
      exact ⟨rfl, hw2⟩
end Go.Proofs.YtlnpppdffhibjaaDoor.Ref

namespace Go.Proofs.YtlnpppdffhibjaaDoor.Ref
open Go.RowKit Mem FieldWalks Tab ByTab Parts
open Gf (Bytes newP)
open Plans (rowF)

/-- The shape, as the program asks it. -/
theorem shapeOk_iff (d s L : Nat) (pieces : List ByteArray) (lost : List Int) : ShapeOk d s L pieces lost ↔ NumsOk (d + s) lost ∧ (pieces.length = d + s ∧ SizesOk L pieces lost) :=
  ⟨fun h => ⟨h.nums, h.count, h.sizes⟩, fun h => ⟨h.2.1, h.1, h.2.2⟩⟩

section
variable (pv : Value) (text : ByteArray) (w : World)
set_option maxRecDepth 100000
theorem cFault_count (d s n a : Int) (h : okCounts d s = false) :
    Calls Tryd.prog 52 #[.int .i64 d, .int .i64 s, .int .i64 n, pv, .int .i64 a, .string text] w fun e w' => e = .returned (.int .i64 3) ∧ w' = w := by
  go_enter Tryd.func52, Tryd.ntmps52
  go_wp2_with fail
  refine (areCounts_any _ _ _).mono ?_
  rintro e w' ⟨rfl, rfl⟩
  go_wp2
  go_ret
  exact ⟨rfl, rfl⟩
theorem cFault_long (d s n a : Int) (h1 : okCounts d s = true) (h : ¬ (0 ≤ n ∧ n ≤ 400)) :
    Calls Tryd.prog 52 #[.int .i64 d, .int .i64 s, .int .i64 n, pv, .int .i64 a, .string text] w fun e w' => e = .returned (.int .i64 5) ∧ w' = w := by
  have hz := okSize_no n h
  clear h
  go_enter Tryd.func52, Tryd.ntmps52
  go_wp2_with fail
  refine (areCounts_any _ _ _).mono ?_
  rintro e w' ⟨rfl, rfl⟩
  go_wp2_with fail
  refine (isSize_any _ _).mono ?_
  rintro e w' ⟨rfl, rfl⟩
  go_wp2
  go_ret
  exact ⟨rfl, rfl⟩
theorem cFault_shape (d s n : Nat) (a : Int) (pieces : List ByteArray) (hp : StrsAt w pv pieces) (hpl : pieces.length < 2 ^ 62) (hd : 1 ≤ d) (hd2 : d ≤ 10) (hs : s ≤ 6) (hn : n ≤ 400) (hsz : ∀ p, (h : p < pieces.length) → pieces[p].size < 2 ^ 62)
    (hno : ¬ ShapeOk d s ((n + d - 1) / d) pieces []) :
    Calls Tryd.prog 52 #[.int .i64 d, .int .i64 s, .int .i64 n, pv, .int .i64 a, .string text] w fun e w' => e = .returned (.int .i64 6) ∧ w' = w := by
  have hok : okCounts d s = true := okCounts_yes _ _ (by omega)
  have hz : okSize n = true := okSize_yes _ (by omega)
  have hnil : IsC w (.slice none 0 0) [] := ⟨none, 0, rfl, .inl rfl⟩
  have HG : Hid (Calls Tryd.prog 66 #[.int .i64 d, .int .i64 s, .int .i64 n, pv, .slice none 0 0] w fun e w'' => e = .returned (.bool false) ∧ w'' = w) := by
    refine (goTogether_any d s n _ pieces [] pv _ w hp hnil (by simp) hpl hd hd2 hs hn rfl hsz).mono ?_
    rintro e w'' ⟨⟨b, rfl, hb⟩, rfl⟩
    cases b with
    | false => exact ⟨rfl, rfl⟩
    | true => exact absurd ((shapeOk_iff _ _ _ _ _).2 ⟨fun k hk => by simp at hk, hb.1 rfl⟩) hno
  clear hno hnil hp hpl hsz
  go_enter Tryd.func52, Tryd.ntmps52
  go_wp2_with fail
  refine (areCounts_any _ _ _).mono ?_
  rintro e w' ⟨rfl, rfl⟩
  go_wp2_with fail
  refine (isSize_any _ _).mono ?_
  rintro e w' ⟨rfl, rfl⟩
  go_wp2_with fail
  refine Calls.mono HG.out ?_
  rintro e w' ⟨rfl, rfl⟩
  go_wp2
  go_ret
  exact ⟨rfl, rfl⟩
theorem cFault_range (d s n : Nat) (a : Int) (pieces : List ByteArray) (hp : StrsAt w pv pieces) (hd : 1 ≤ d) (hd2 : d ≤ 10) (hs : s ≤ 6) (hn : n ≤ 400) (hsz : ∀ p, (h : p < pieces.length) → pieces[p].size < 2 ^ 62) (ha2 : a ≤ 9223372036854775807) (hlen : text.size ≤ maxLen)
    (hyes : ShapeOk d s ((n + d - 1) / d) pieces []) :
    Calls Tryd.prog 52 #[.int .i64 d, .int .i64 s, .int .i64 n, pv, .int .i64 a, .string text] w fun e w' => e = .returned (.int .i64 (if okWithin n a text.size = true then 0 else 8)) ∧ w' = w := by
  have hok : okCounts d s = true := okCounts_yes _ _ (by omega)
  have hz : okSize n = true := okSize_yes _ (by omega)
  have hnil : IsC w (.slice none 0 0) [] := ⟨none, 0, rfl, .inl rfl⟩
  have HG : Hid (Calls Tryd.prog 66 #[.int .i64 d, .int .i64 s, .int .i64 n, pv, .slice none 0 0] w fun e w'' => e = .returned (.bool true) ∧ w'' = w) := by
    refine (goTogether_any d s n _ pieces [] pv _ w hp hnil (by simp) (by rw [hyes.count]; omega) hd hd2 hs hn rfl hsz).mono ?_
    rintro e w'' ⟨⟨b, rfl, hb⟩, rfl⟩
    rw [hb.2 ((shapeOk_iff _ _ _ _ _).1 hyes).2]
    exact ⟨rfl, rfl⟩
  clear hnil hp hsz hyes
  obtain ⟨q, hq⟩ : ∃ q, q = okWithin n a text.size := ⟨_, rfl⟩
  rw [← hq]
  have HQ : Hid (q = okWithin n a text.size) := hq
  clear hq
  cases q <;>
  · go_enter Tryd.func52, Tryd.ntmps52
    go_wp2_with fail
    refine (areCounts_any _ _ _).mono ?_
    rintro e w' ⟨rfl, rfl⟩
    go_wp2_with fail
    refine (isSize_any _ _).mono ?_
    rintro e w' ⟨rfl, rfl⟩
    go_wp2_with fail
    refine Calls.mono HG.out ?_
    rintro e w' ⟨rfl, rfl⟩
    go_wp2_with fail
    refine (isWithin_any n hn a ha2 text hlen _).mono ?_
    rintro e w' ⟨rfl, rfl⟩
    rw [← HQ.out]
    go_wp2
    go_ret
    exact ⟨rfl, rfl⟩
theorem wChange_no (k : Nat) (hk : 1 ≤ k) (_hk2 : k ≤ 100) (d s n a : Int) (hF : Calls Tryd.prog 52 #[.int .i64 d, .int .i64 s, .int .i64 n, pv, .int .i64 a, .string text] w fun e w' => e = .returned (.int .i64 k) ∧ w' = w) :
    Calls Tryd.prog 26 #[.int .i64 d, .int .i64 s, .int .i64 n, pv, .int .i64 a, .string text] w fun e w' => CNo k e ∧ w' = w := by
  have hk0 : ((k : Int) != 0) = true := by simp; omega
  have hk1 : ¬ k = 0 := by omega
  go_enter Tryd.func26, Tryd.ntmps26
  go_wp2_with fail
  refine Calls.mono hF ?_
  rintro e w' ⟨rfl, rfl⟩
  go_wp2
  go_ret2
  exact ⟨rfl, rfl⟩
theorem wChange_ok (d s n at_ L : Nat) (pieces : List ByteArray) (ht : Table w) (hp : StrsAt w pv pieces) (hd : 1 ≤ d) (hd2 : d ≤ 10) (hs : s ≤ 6) (hn : n ≤ 400) (hL : L = (n + d - 1) / d) (hsz : ∀ p, (h : p < pieces.length) → pieces[p].size < 2 ^ 62)
    (hyes : ShapeOk d s L pieces []) (hat : at_ + text.size ≤ n) :
    Calls Tryd.prog 26 #[.int .i64 d, .int .i64 s, .int .i64 n, pv, .int .i64 at_, .string text] w fun e w' => ∃ b, w.heap.size ≤ b ∧ e = .returned (.tuple #[.slice (some ⟨b, 0, none⟩) (d + s) (d + s), .int .i64 0]) ∧
      Blk w' b 9 (strV ((List.range (d + s)).map fun p => mkS (rowF L (newP d L at_ (nums text) text.size (oldOf pieces) p)))) ∧ Below w.heap.size w w' := by
  have hF := cFault_range pv text w d s n at_ pieces hp hd hd2 hs hn hsz (by omega) (by unfold maxLen; omega) (by rw [← hL]; exact hyes)
  rw [show okWithin n at_ text.size = true by simp [okWithin]; omega, if_pos rfl] at hF
  have HP := pChange_any d s n at_ L pieces text pv w ht hp hd hd2 hs hn hL hyes hat
  have HPH : Hid _ := HP
  have HFH : Hid _ := hF
  clear HP hF hyes hsz hp
  go_enter Tryd.func26, Tryd.ntmps26
  go_wp2_with fail
  refine Calls.mono HFH.out ?_
  rintro e w' ⟨rfl, rfl⟩
  go_wp2_with fail
  refine Calls.mono HPH.out ?_
  rintro e w1 ⟨b, hb, rfl, hblk, hb1⟩
  have HBLK : Hid (Blk w1 b 9 (strV ((List.range (d + s)).map fun p => mkS (rowF L (newP d L at_ (nums text) text.size (oldOf pieces) p))))) := hblk
  clear hblk
  go_wp2
  go_ret2
  exact ⟨b, hb, rfl, HBLK.out, hb1⟩
end
end Go.Proofs.YtlnpppdffhibjaaDoor.Ref

namespace Go.Proofs.YtlnpppdffhibjaaDoor.Top
open Go.RowKit Mem FieldWalks Tab ByTab Parts Book Ref
open Gf (newP)
open Plans (rowF But)

/-- What a call of the program answers: a list in a new block, or none. -/
def PAns (B : Nat) (er : Int) (ss : List ByteArray) (e : Ending) (w' : World) : Prop :=
  (∃ b, B ≤ b ∧ e = .returned (.tuple #[.slice (some ⟨b, 0, none⟩) ss.length ss.length, .int .i64 er]) ∧ Blk w' b 9 (strV ss)) ∨ (ss = [] ∧ e = .returned (.tuple #[.slice none 0 0, .int .i64 er]))

/-- The program's Change and the document's, at whatever is handed in. -/
theorem change_both (d s n a : Int) (pieces : List ByteArray) (text : ByteArray) (hpl : pieces.length < 2 ^ 62) (hsz : ∀ p, (h : p < pieces.length) → pieces[p].size < 2 ^ 62) (hlen : text.size ≤ maxLen)
    (ha1 : -(2 : Int) ^ 63 ≤ a) (ha2 : a < (2 : Int) ^ 63) : ∃ ss er, ss.length ≤ 16 ∧
    (∀ w pv, Table w → StrsAt w pv pieces → Calls Tryd.prog 26 #[.int .i64 d, .int .i64 s, .int .i64 n, pv, .int .i64 a, .string text] w fun e w' => PAns w.heap.size er ss e w' ∧ Below w.heap.size w w') ∧
    (∀ w pv, StrsAt w pv pieces → Calls Tryd.prog 54 #[.int .i64 d, .int .i64 s, .int .i64 n, pv, .int .i64 a, .string text] w fun e w' => ∃ v, e = .returned (.tuple #[v, .int .i64 er]) ∧ StrsNew w' w.heap.size v ss ∧ Below w.heap.size w w') := by
  have nil : ∀ (w : World) (B : Nat), StrsNew w B (.slice none 0 0) [] := fun w _ => ⟨none, 0, rfl, .inl rfl⟩
  have no : ∀ k : Nat, 1 ≤ k → k ≤ 100 → (∀ w pv, StrsAt w pv pieces → Calls Tryd.prog 52 #[.int .i64 d, .int .i64 s, .int .i64 n, pv, .int .i64 a, .string text] w fun e w' => e = .returned (.int .i64 k) ∧ w' = w) →
      (∀ w pv, StrsAt w pv pieces → Calls Tryd.prog 54 #[.int .i64 d, .int .i64 s, .int .i64 n, pv, .int .i64 a, .string text] w fun e w' => CNo k e ∧ Below w.heap.size w w') →
      ∃ ss er, ss.length ≤ 16 ∧
    (∀ w pv, Table w → StrsAt w pv pieces → Calls Tryd.prog 26 #[.int .i64 d, .int .i64 s, .int .i64 n, pv, .int .i64 a, .string text] w fun e w' => PAns w.heap.size er ss e w' ∧ Below w.heap.size w w') ∧
    (∀ w pv, StrsAt w pv pieces → Calls Tryd.prog 54 #[.int .i64 d, .int .i64 s, .int .i64 n, pv, .int .i64 a, .string text] w fun e w' => ∃ v, e = .returned (.tuple #[v, .int .i64 er]) ∧ StrsNew w' w.heap.size v ss ∧ Below w.heap.size w w') := by
    intro k hk1 hk2 h1 h2
    refine ⟨[], k, by simp, fun w pv _ hp => ?_, fun w pv hp => ?_⟩
    · refine (wChange_no pv text w k hk1 hk2 d s n a (h1 w pv hp)).mono ?_
      rintro e w' ⟨he, rfl⟩
      exact ⟨.inr ⟨rfl, he⟩, Below.refl _ _⟩
    · refine (h2 w pv hp).mono ?_
      rintro e w' ⟨he, hb⟩
      exact ⟨_, he, nil w' _, hb⟩
  cases h1 : okCounts d s
  · refine no 3 (by omega) (by omega) (fun w pv _ => cFault_count pv text w d s n a h1) (fun w pv _ => (rChange_count d s n a pv text h1 w).mono ?_)
    rintro e w' ⟨he, rfl⟩
    exact ⟨he, Below.refl _ _⟩
  by_cases h2 : 0 ≤ n ∧ n ≤ 400
  · have h1' := of_decide_eq_true h1
    obtain ⟨d, rfl⟩ := Int.eq_ofNat_of_zero_le (show 0 ≤ d by omega)
    obtain ⟨s, rfl⟩ := Int.eq_ofNat_of_zero_le (show 0 ≤ s by omega)
    obtain ⟨n, rfl⟩ := Int.eq_ofNat_of_zero_le (show 0 ≤ n by omega)
    by_cases h3 : ShapeOk d s ((n + d - 1) / d) pieces []
    · by_cases h4 : 0 ≤ a ∧ a + text.size ≤ n
      · obtain ⟨a, rfl⟩ := Int.eq_ofNat_of_zero_le (show 0 ≤ a by omega)
        refine ⟨(List.range (d + s)).map fun p => mkS (rowF ((n + d - 1) / d) (newP d ((n + d - 1) / d) a (nums text) text.size (oldOf pieces) p)), 0, by simp; omega, fun w pv ht hp => ?_, fun w pv hp => ?_⟩
        · refine (wChange_ok pv text w d s n a _ pieces ht hp (by omega) (by omega) (by omega) (by omega) rfl hsz h3 (by omega)).mono ?_
          rintro e w' ⟨b, hb, rfl, hblk, hbel⟩
          refine ⟨.inl ⟨b, hb, by simp, hblk⟩, hbel⟩
        · exact rChange_ok d s n a _ pieces text pv w hp (by omega) (by omega) (by omega) (by omega) rfl hsz h3 (by omega)
      · refine no 8 (by omega) (by omega) (fun w pv hp => ?_) (fun w pv hp => (rChange_range d s n a pieces pv text w hp hpl (by omega) (by omega) (by omega) (by omega) hsz ha1 ha2 h3 h4).mono ?_)
        · have := cFault_range pv text w d s n a pieces hp (by omega) (by omega) (by omega) (by omega) hsz (by omega) hlen h3
          rwa [show okWithin n a text.size = false by simp [okWithin]; omega, if_neg (by decide)] at this
        · rintro e w' ⟨he, hd⟩
          exact ⟨he, hd.below⟩
    · refine no 6 (by omega) (by omega) (fun w pv hp => cFault_shape pv text w d s n a pieces hp hpl (by omega) (by omega) (by omega) (by omega) hsz h3) (fun w pv hp => (rChange_shape d s n a pieces pv text w hp hpl (by omega) (by omega) (by omega) (by omega) hsz h3).mono ?_)
      rintro e w' ⟨he, hd⟩
      exact ⟨he, hd.below⟩
  · refine no 5 (by omega) (by omega) (fun w pv _ => cFault_long pv text w d s n a h1 h2) (fun w pv _ => (rChange_long d s n a pv text h1 h2 w).mono ?_)
    rintro e w' ⟨he, rfl⟩
    exact ⟨he, Below.refl _ _⟩

set_option maxRecDepth 100000 in
set_option maxHeartbeats 1000000 in
theorem bchange_any (B b c : Nat) (d s n a : Int) (pieces : List ByteArray) (text : ByteArray) (pv : Value) (w : World) (ht : Table w) (hbook : BookAt w B b c w.heap.size) (hc : c ≤ 8)
    (hp : CameT w pv pieces.length) (hst : StrsAt w pv pieces) (hpl : pieces.length ≤ 8796093022204) (hsz : ∀ p, (h : p < pieces.length) → pieces[p].size < 2 ^ 62) (hlen : text.size ≤ maxLen)
    (ha1 : -(2 : Int) ^ 63 ≤ a) (ha2 : a < (2 : Int) ^ 63) :
    Calls Tryd.prog 27 #[.pointer (some ⟨b, 0, none⟩), .int .i64 d, .int .i64 s, .int .i64 n, pv, .int .i64 a, .string text] w fun e w' => e = .returned (.bool true) ∧ BookAt w' B b (c + 1) w'.heap.size ∧ Below B w w' := by
  obtain ⟨ss, er, hss, h1, h2⟩ := change_both d s n a pieces text (by omega) hsz hlen ha1 ha2
  have H1 : Hid _ := h1
  have H2 : Hid _ := h2
  have hle := lendT_both pieces pv w hp hst hpl
  have HLE : Hid _ := hle
  have HB : Hid (BookAt w B b c w.heap.size) := hbook
  have hBb := hbook.1
  have hblt : b < w.heap.size := by obtain ⟨_, kv, es, _, h, _⟩ := hbook; exact h.lt
  have HST : Hid (StrsAt w pv pieces) := hst
  clear hbook h1 h2 hle hst hsz hlen ha1 ha2
  go_enter Tryd.func27, Tryd.ntmps27
  go_wp2_with fail
  refine Calls.mono HLE.out ?_
  rintro e w1 ⟨p, rfl, hst1, hb1, hwh⟩
  have HWH : Hid _ := hwh
  clear HLE hwh
  have hc1 := H1.out w1 p (table_to ht hb1) hst1
  clear hst1
  go_wp2_with fail
  refine Calls.mono hc1 ?_
  rintro e w2 ⟨hans, hb2⟩
  clear hc1
  have hb02 := hb1.trans (hb2.mono hb1.size)
  have hc2 := H2.out w2 pv (HST.out.to hb02)
  have HC2 : Hid _ := hc2
  clear hc2
  obtain ⟨lv, lo, rfl, hlo, hans⟩ : ∃ lv lo, e = .returned (.tuple #[lv, .int .i64 er]) ∧ lv = .slice lo ss.length ss.length ∧ ((ss = [] ∧ lo = none) ∨ ∃ lb, w1.heap.size ≤ lb ∧ lo = some ⟨lb, 0, none⟩ ∧ Blk w2 lb 9 (strV ss)) := by
    rcases hans with ⟨lb, h1, h2, h3⟩ | ⟨rfl, h2⟩
    · exact ⟨_, _, h2, rfl, .inr ⟨lb, h1, rfl, h3⟩⟩
    · exact ⟨_, none, h2, rfl, .inl ⟨rfl, rfl⟩⟩
  have HANS : Hid _ := hans
  subst hlo
  clear hans
  go_wp2_with fail
  refine Calls.mono HC2.out ?_
  rintro e w3 ⟨mv, rfl, hnew, hb3⟩
  clear HC2
  have hb23 := hb2.trans (hb3.mono hb2.size)
  have hw3 := HWH.out w3 hb23
  have HNEW : Hid (StrsNew w3 w1.heap.size mv ss) := hnew.low hb2.size
  have hb03 := hb02.trans (hb3.mono hb02.size)
  clear hnew
  go_wp2_with fail
  refine Calls.mono hw3 ?_
  rintro e w4 ⟨rfl, hwr⟩
  clear hw3
  have hst4 : StrsAt w4 mv ss := (hwr.strs HNEW.out).at
  have hb04 : Below w.heap.size w w4 := hwr.below hb03 hb03.size (Nat.le_refl _)
  have hblk4 : (ss = [] ∧ lo = none) ∨ ∃ lb, w1.heap.size ≤ lb ∧ lo = some ⟨lb, 0, none⟩ ∧ Blk w4 lb 9 (strV ss) := by
    rcases HANS.out with h | ⟨lb, h1, h2, h3⟩
    · exact .inl h
    · exact .inr ⟨lb, h1, h2, hwr.blk (h3.to hb3) h1⟩
  have hst5 : StrsAt w4 (.slice lo ss.length ss.length) ss := by
    rcases hblk4 with ⟨h1, rfl⟩ | ⟨lb, h1, rfl, h3⟩
    · exact ⟨none, _, rfl, .inl h1⟩
    · exact StrsAt.of_blk h3 _ _ rfl
  have hsame := sameT_yes ss _ _ _ hst5 hst4 (by omega)
  have HBK4 : Hid _ := hblk4
  have HB04 : Hid (Below w.heap.size w w4) := hb04
  have hsz1 := hb1.size
  clear hst4 hst5 hblk4 hwr HNEW HANS hb04 hb03 hb23 hb02
  go_wp2_with fail
  refine Calls.mono hsame ?_
  rintro e w5 ⟨rfl, nq, rfl⟩
  clear hsame
  have hb5 : Below w.heap.size w (w4.drewN nq) := below_drewN HB04.out nq
  have hB : B ≤ w.heap.size := by omega
  have htx : Calls Tryd.prog 21 #[.pointer (some ⟨b, 0, none⟩), .slice lo ss.length ss.length] (w4.drewN nq) fun e w' => e = .returned (.tuple #[]) ∧ BookAt w' B b (c + 1) w'.heap.size ∧ Below B (w4.drewN nq) w' := by
    rcases HBK4.out with ⟨h1, rfl⟩ | ⟨lb, h1, rfl, h3⟩
    · have := texts_any B b c w.heap.size ss.length none [] (w4.drewN nq) (HB.out.to hb5) hc (by omega) hB (by simp [h1]) (.inl ⟨by simp [h1], rfl⟩)
      exact this
    · exact texts_any B b c lb ss.length (some ⟨lb, 0, none⟩) (strV ss) (w4.drewN nq) ((HB.out.to hb5).mono (by omega)) hc (by omega) (by omega) (by simp [strV]) (.inr ⟨rfl, h3⟩)
  clear HBK4
  go_wp2_with fail
  refine Calls.mono htx ?_
  rintro e w6 ⟨rfl, hbk6, hb6⟩
  have hb06 := (hb5.mono hB).trans hb6
  clear htx
  go_wp2_with fail
  refine (num_any _ _).mono ?_
  rintro e w' ⟨rfl, rfl⟩
  go_wp2
  go_ret
  exact ⟨rfl, hbk6, hb06⟩
end Go.Proofs.YtlnpppdffhibjaaDoor.Top

namespace Go.Proofs.YtlnpppdffhibjaaDoor.Top
open Go.RowKit Mem FieldWalks Tab ByTab Parts Book Ref
open Gf (newP)
open Plans (rowF)

theorem change_ex : ((List.range (2 + 1)).map fun p => mkS (rowF 1 (newP 2 1 1 (nums ⟨#[0]⟩) (⟨#[0]⟩ : ByteArray).size (oldOf [⟨#[1]⟩, ⟨#[1]⟩, ⟨#[122]⟩]) p))) = [⟨#[1]⟩, ⟨#[0]⟩, ⟨#[142]⟩] := by decide +kernel
theorem change_ex_shape : ShapeOk 2 1 1 [⟨#[1]⟩, ⟨#[1]⟩, ⟨#[122]⟩] [] := by
  refine ⟨rfl, fun k hk => by simp at hk, fun p hp _ => ?_⟩
  match p, hp with
  | 0, _ => rfl
  | 1, _ => rfl
  | 2, _ => rfl

set_option maxRecDepth 100000 in
set_option maxHeartbeats 1000000 in
theorem changes_any (d s n a : Int) (pieces : List ByteArray) (text : ByteArray) (pv : Value) (w : World) (ht : Table w) (h0 : 0 < w.heap.size)
    (hp : CameT w pv pieces.length) (hst : StrsAt w pv pieces) (hpl : pieces.length ≤ 8796093022204) (hsz : ∀ p, (h : p < pieces.length) → pieces[p].size < 2 ^ 62) (hlen : text.size ≤ maxLen)
    (ha1 : -(2 : Int) ^ 63 ≤ a) (ha2 : a < (2 : Int) ^ 63) :
    Calls Tryd.prog 7 #[.int .i64 d, .int .i64 s, .int .i64 n, pv, .int .i64 a, .string text] w fun e w' => e = .returned (.bool true) ∧ Below w.heap.size w w' := by
  have HH : Hid (CameT w pv pieces.length ∧ StrsAt w pv pieces ∧ pieces.length ≤ 8796093022204 ∧ (∀ p, (h : p < pieces.length) → pieces[p].size < 2 ^ 62) ∧ text.size ≤ maxLen ∧ -(2 : Int) ^ 63 ≤ a ∧ a < (2 : Int) ^ 63) := ⟨hp, hst, hpl, hsz, hlen, ha1, ha2⟩
  clear hp hst hpl hsz hlen ha1 ha2
  obtain ⟨wb, hwb⟩ : ∃ wb, wb = w.alloc (.cells #[.int .i64 0, .slice none 0 0] 37) := ⟨_, rfl⟩
  have hb0 : BookAt wb w.heap.size w.heap.size 0 wb.heap.size := by rw [hwb]; exact BookAt.start w _ (Nat.le_refl _) _
  have hw0 : Below w.heap.size w wb := by rw [hwb]; exact below_alloc w _
  have hwbs : wb.heap.size = w.heap.size + 1 := by rw [hwb]; simp
  obtain ⟨wl, hwl⟩ : ∃ wl, wl = wb.alloc (.cells #[.string ⟨#[1]⟩, .string ⟨#[1]⟩, .string ⟨#[122]⟩] 9) := ⟨_, rfl⟩
  have hbl : Below wb.heap.size wb wl := by rw [hwl]; exact below_alloc wb _
  have hstl : StrsAt wl (.slice (some ⟨wb.heap.size, 0, none⟩) 3 3) [⟨#[1]⟩, ⟨#[1]⟩, ⟨#[122]⟩] := by rw [hwl]; exact StrsAt.of_blk (Blk.new wb _ _) 3 3 rfl
  have hex := wChange_ok (.slice (some ⟨wb.heap.size, 0, none⟩) 3 3) ⟨#[0]⟩ wl 2 1 2 1 1 [⟨#[1]⟩, ⟨#[1]⟩, ⟨#[122]⟩] (table_to (table_to ht hw0) hbl) hstl (by omega) (by omega) (by omega) (by omega) (by decide) (fun p h => by rw [change_ex_shape.sizes p h (by simp)]; decide) change_ex_shape (by decide)
  rw [change_ex] at hex
  have HEX : Hid _ := hex
  have HB0 : Hid (BookAt wb w.heap.size w.heap.size 0 wb.heap.size) := hb0
  have HW0 : Hid (Below w.heap.size w wb) := hw0
  have HBLW : Hid (Below wb.heap.size wb wl) := hbl
  have HT : Hid (Table w) := ht
  have HWL : Hid ((w.alloc (.cells #[.int .i64 0, .slice none 0 0] 37)).alloc (.cells #[.string ⟨#[1]⟩, .string ⟨#[1]⟩, .string ⟨#[122]⟩] 9) = wl) := by show _ = _; rw [hwl, hwb]
  have HWBS : Hid (wb.heap.size = w.heap.size + 1) := hwbs
  have hwbs2 : w.heap.size + 1 ≤ wb.heap.size := by omega
  rw [hwbs] at HEX
  clear hb0 hw0 hbl hstl hex ht hwl hwb hwbs
  go_enter Tryd.func7, Tryd.ntmps7
  go_wp2_with fail
  rw [HWL.out]
  refine Calls.mono HEX.out ?_
  rintro e w1 ⟨lb, hlb, rfl, hblk, hb1⟩
  have hbk1 := (HB0.out.to HBLW.out).to hb1
  have hb01 := (HW0.out.trans (HBLW.out.mono (by omega))).trans (hb1.mono (by have := HBLW.out.size; omega))
  have hlb' : wb.heap.size ≤ lb := Nat.le_trans HBLW.out.size hlb
  have hbA : Below w1.heap.size w1 (w1.alloc (.cells #[.string ⟨#[1]⟩, .string ⟨#[0]⟩, .string ⟨#[142]⟩] 9)) := below_alloc w1 _
  have hsA : StrsAt (w1.alloc (.cells #[.string ⟨#[1]⟩, .string ⟨#[0]⟩, .string ⟨#[142]⟩] 9)) (.slice (some ⟨lb, 0, none⟩) 3 3) [⟨#[1]⟩, ⟨#[0]⟩, ⟨#[142]⟩] := (StrsAt.of_blk (w := w1) hblk 3 3 rfl).to hbA
  have hsB : StrsAt (w1.alloc (.cells #[.string ⟨#[1]⟩, .string ⟨#[0]⟩, .string ⟨#[142]⟩] 9)) (.slice (some ⟨w1.heap.size, 0, none⟩) 3 3) [⟨#[1]⟩, ⟨#[0]⟩, ⟨#[142]⟩] := StrsAt.of_blk (Blk.new w1 _ _) 3 3 rfl
  have hsame := sameT_yes [⟨#[1]⟩, ⟨#[0]⟩, ⟨#[142]⟩] _ _ _ hsA hsB (by decide)
  have HBA : Hid (Below w1.heap.size w1 (w1.alloc (.cells #[.string ⟨#[1]⟩, .string ⟨#[0]⟩, .string ⟨#[142]⟩] 9))) := hbA
  have HBL : Hid (Blk w1 lb 9 (strV [⟨#[1]⟩, ⟨#[0]⟩, ⟨#[142]⟩])) := hblk
  have HBK : Hid (BookAt w1 w.heap.size w.heap.size 0 wb.heap.size) := hbk1
  clear hsA hsB hbA hblk hbk1 hlb
  go_wp2_with fail
  refine Calls.mono hsame ?_
  rintro e w2 ⟨rfl, nq, rfl⟩
  clear hsame
  have hb12 : Below w1.heap.size w1 ((w1.alloc (.cells #[.string ⟨#[1]⟩, .string ⟨#[0]⟩, .string ⟨#[142]⟩] 9)).drewN nq) := below_drewN HBA.out nq
  have hblk2 := HBL.out.to hb12
  have hbk2 := HBK.out.to hb12
  have hb02 := hb01.trans (hb12.mono hb01.size)
  generalize (w1.alloc (.cells #[.string ⟨#[1]⟩, .string ⟨#[0]⟩, .string ⟨#[142]⟩] 9)).drewN nq = w2 at *
  clear hb12
  go_wp2_with fail
  refine (num_any _ _).mono ?_
  rintro e w' ⟨rfl, rfl⟩
  have htx := texts_any w.heap.size w.heap.size 0 lb 3 (some ⟨lb, 0, none⟩) _ w' (hbk2.mono (M := lb) hlb') (by omega) (by omega) (by omega) rfl (.inr ⟨rfl, hblk2⟩)
  clear hbk2 hblk2
  go_wp2_with fail
  refine Calls.mono htx ?_
  rintro e w3 ⟨rfl, hbk3, hb3⟩
  have hb03 := hb02.trans hb3
  clear htx
  have hT3 := table_below HT.out hb03 h0
  have hs1 := bchange_any w.heap.size w.heap.size 1 d s n a pieces text pv w3 hT3 hbk3 (by omega) (HH.out.1.to hb03.size) (HH.out.2.1.to hb03) HH.out.2.2.1 HH.out.2.2.2.1 HH.out.2.2.2.2.1 HH.out.2.2.2.2.2.1 HH.out.2.2.2.2.2.2
  clear hbk3
  go_wp2_with fail
  refine Calls.mono hs1 ?_
  rintro e w4 ⟨rfl, hbk4, hb4⟩
  have hb04 := hb03.trans hb4
  clear hs1 hT3
  have hT4 := table_below HT.out hb04 h0
  have hs2 := bchange_any w.heap.size w.heap.size 2 d s n a pieces text pv w4 hT4 hbk4 (by omega) (HH.out.1.to hb04.size) (HH.out.2.1.to hb04) HH.out.2.2.1 HH.out.2.2.2.1 HH.out.2.2.2.2.1 HH.out.2.2.2.2.2.1 HH.out.2.2.2.2.2.2
  clear hbk4
  go_wp2_with fail
  refine Calls.mono hs2 ?_
  rintro e w5 ⟨rfl, hbk5, hb5⟩
  have hb05 := hb04.trans hb5
  clear hs2 hT4
  have hlk := looks_any _ _ _ _ w5 hbk5 (by omega)
  clear hbk5
  go_wp2_with fail
  refine Calls.mono hlk ?_
  rintro e w6 ⟨rfl, hb6⟩
  have hb06 := hb05.trans (hb6.mono hb05.size)
  clear hlk
  go_wp2
  go_ret
  exact ⟨rfl, hb06⟩
end Go.Proofs.YtlnpppdffhibjaaDoor.Top

/- Lists that come in, opened: strings, numbers. -/
namespace Go.Proofs.YtlnpppdffhibjaaDoor.CardArgs
open Go.ChangeShapes Go.WideShapes Go.ChangeAt Go.RowKit Mem Ref

theorem laidOut : laidOutB Tryd.prog = true := by kernel_rfl
theorem cellsStr : Tryd.prog.cellsOf 9 = 1 := by kernel_rfl
theorem cellsInt : Tryd.prog.cellsOf 3 = 1 := by kernel_rfl
theorem bytesStr : Tryd.prog.bytesOf 9 = 16 := by kernel_rfl
theorem bytesInt : Tryd.prog.bytesOf 3 = 8 := by kernel_rfl

/-- A slice that is one lies in a block that is there, at no inner place. -/
theorem slice_plain {P : Program} {W : World} {r : Reach} {base : Nat} {t e : TypeId} {a : Addr} {len cap : Nat} (ht : P.underlying t = some (.slice e)) (h : Value.okWide P W r base t (.slice (some a) len cap)) : ∃ b off, a = ⟨b, off, none⟩ ∧ b < W.heap.size := by
  simp only [Value.okWide, ht, Cell.okWide, Cell.ok] at h
  obtain ⟨_, _, _, h1, row, cells, h2, _⟩ := h
  refine ⟨a.block, a.off, ?_, ?_⟩
  · cases a; simp at h1; subst h1; rfl
  · apply Classical.byContradiction
    intro hn
    have : W.heap[a.block]? = none := by simp; omega
    simp [World.shape?, this] at h2

theorem wf_i64 {x : Int} (h : (Lit.int .i64 x).wf = true) : -9223372036854775808 ≤ x ∧ x ≤ 9223372036854775807 := by
  have h1 : IntKind.i64.min = -9223372036854775808 := by decide
  have h2 : IntKind.i64.max = 9223372036854775807 := by decide
  simp only [Lit.wf, h1, h2, Bool.and_eq_true, decide_eq_true_eq] at h
  exact h
theorem weights_all {H : Type} {P : Program} {e : TypeId} {d : DataW H} {n : Nat} : ∀ {l : List (DataW H)}, d ∈ l → n ∈ d.weights P e → n ∈ DataW.weightsAll P e l
  | [], h, _ => by cases h
  | x :: l, h, hn => by
    simp only [DataW.weightsAll, List.mem_append]
    rcases List.mem_cons.1 h with rfl | h
    · exact .inl hn
    · exact .inr (weights_all h hn)

section
set_option maxRecDepth 100000
variable {H : Type} {enc : TypeId × Value → H} {W : World} {base j : Nat} {v : Value} {d : DataW H} {p : List MemPlace} {ts : List TypeId} {ds : List (DataW H)}
theorem strs_arg (hval : Value.okWide Tryd.prog W .any base 38 v) (h : DataW.Trod enc Tryd.prog W 0 (fun _ => true) true 38 v d p) (hsz : (DataW.weightsEach Tryd.prog ts ds).all (· ≤ reachBytes) = true) (hts : ts[j]? = some 38) (hds : ds[j]? = some d) :
    ∃ pieces : List ByteArray, CameT W v pieces.length ∧ StrsAt W v pieces ∧ pieces.length ≤ 8796093022204 ∧ ∀ q, (h : q < pieces.length) → pieces[q].size < 2 ^ 62 := by
  obtain ⟨fuel, h⟩ := h
  obtain ⟨a0, len0, cap0, rfl⟩ := okWide_slice Tryd.underlying38 hval
  have hcs : (Value.slice a0 len0 cap0).cells.toList = [.slice a0 len0 cap0] := rfl
  rw [hcs] at h
  rcases Deep.open_strs Tryd.underlying38 Tryd.underlying9 cellsStr h with ⟨h1, h2⟩ | ⟨a, len, cap, m, Sx, h1, h2, h3, h4, h5, h6, h7⟩
  · injection h1 with h1 _
    rw [h1]
    exact ⟨[], .inl rfl, ⟨none, 0, rfl, .inl rfl⟩, by simp, fun q hq => by simp at hq⟩
  · injection h1 with h1 _
    rw [h1] at hval ⊢
    obtain ⟨b, off, rfl, hb⟩ := slice_plain Tryd.underlying38 hval
    simp only [Prod.mk.injEq] at h6
    obtain ⟨rfl, _⟩ := h6
    have hm : m = cap := by simpa using h5
    have hbytes := sized_slice hsz hts hds Tryd.underlying38
    rw [bytesStr] at hbytes
    simp only [List.length_map, List.length_range] at hbytes
    have hr : reachBytes = 140737488351232 := by decide
    refine ⟨(List.range len).map Sx, .inr ⟨⟨b, off, none⟩, cap, by simp, hb⟩, ⟨_, cap, by simp, .inr ⟨b, off, rfl, hb, fun k hk => ?_⟩⟩, ?_, fun q hq => ?_⟩
    · have hk' : k < len := by simpa using hk
      have := (h7 k (by omega)).1
      rw [Addr.add_lit] at this
      rw [this]; simp
    · simp only [List.length_map, List.length_range]; omega
    · have hq' : q < len := by simpa using hq
      have hmem : (DataW.lit (.string (Sx q).data.toList) : DataW H) ∈ (List.range len).map fun i => (DataW.lit (.string (Sx i).data.toList) : DataW H) := List.mem_map.2 ⟨q, List.mem_range.2 hq', rfl⟩
      have hw := weights_all (P := Tryd.prog) (e := 9) (n := (Sx q).data.toList.length) hmem (by simp [DataW.weights])
      have hall := List.all_eq_true.1 hsz _ (DataW.weights_mem_each hts hds ((Sx q).data.toList.length) (by
        simp only [DataW.weights, Tryd.underlying38, List.mem_cons, List.mem_append]
        exact .inr (.inl hw)))
      have hsq : (Sx q).size = (Sx q).data.toList.length := by rw [Array.length_toList]; rfl
      simp only [List.getElem_map, List.getElem_range]
      rw [hsq]
      have : (Sx q).data.toList.length ≤ reachBytes := by simpa using hall
      omega
theorem ints_arg (hval : Value.okWide Tryd.prog W .any base 45 v) (h : DataW.Trod enc Tryd.prog W 0 (fun _ => true) true 45 v d p) (hsz : (DataW.weightsEach Tryd.prog ts ds).all (· ≤ reachBytes) = true) (hts : ts[j]? = some 45) (hds : ds[j]? = some d) :
    ∃ l : List Int, CameT W v l.length ∧ IsC W v l ∧ l.length ≤ 17592186044412 ∧ ∀ x, x ∈ l → -9223372036854775808 ≤ x ∧ x ≤ 9223372036854775807 := by
  obtain ⟨fuel, h⟩ := h
  obtain ⟨a0, len0, cap0, rfl⟩ := okWide_slice Tryd.underlying45 hval
  have hcs : (Value.slice a0 len0 cap0).cells.toList = [.slice a0 len0 cap0] := rfl
  rw [hcs] at h
  rcases open_ints Tryd.underlying45 Tryd.underlying3 cellsInt h with ⟨h1, h2⟩ | ⟨a, len, cap, zs, h1, h2, h3, h4, h5, h6, h7, h8⟩
  · injection h1 with h1 _
    rw [h1]
    exact ⟨[], .inl rfl, ⟨none, 0, rfl, .inl rfl⟩, by simp, fun q hq => by simp at hq⟩
  · injection h1 with h1 _
    rw [h1] at hval ⊢
    obtain ⟨b, off, rfl, hb⟩ := slice_plain Tryd.underlying45 hval
    simp only [Prod.mk.injEq] at h6
    obtain ⟨rfl, _⟩ := h6
    have hm : zs.length = cap := by simpa using h5
    have hbytes := sized_slice hsz hts hds Tryd.underlying45
    rw [bytesInt] at hbytes
    simp only [lits, List.length_map, List.length_take, List.length_drop] at hbytes
    have hr : reachBytes = 140737488351232 := by decide
    have hlt : (zs.take len).length = len := by rw [List.length_take]; omega
    refine ⟨zs.take len, .inr ⟨⟨b, off, none⟩, cap, by rw [hlt], hb⟩, ⟨_, cap - len, by rw [hlt]; congr 1; omega, .inr ⟨b, off, rfl, hb, fun k hk => ?_⟩⟩, ?_, fun x hx => ?_⟩
    · rw [hlt] at hk
      have := h7 k (by omega)
      rw [Addr.add_lit] at this
      rw [this]; simp [show k < zs.length by omega]
    · rw [hlt]; omega
    · have := h8 x (List.mem_of_mem_take hx)
      exact wf_i64 this
end
end Go.Proofs.YtlnpppdffhibjaaDoor.CardArgs

namespace Go.Proofs.YtlnpppdffhibjaaDoor.ChangesCard
open Go.ChangeShapes Go.WideShapes Go.ChangeAt Go.ChangeMaps Go.RowKit

theorem own : ownKnob Tryd.prog.godebug = none := by kernel_rfl
theorem gTab : Tryd.prog.globalNamed "wattle/field.highPowers" = some 0 := by kernel_rfl
theorem gTabType : (Tryd.prog.globals[0]?).map (·.type) = some 106 := by kernel_rfl
theorem cellsTab : Tryd.prog.cellsOf 106 = 7 := by kernel_rfl
theorem cellsByte : Tryd.prog.cellsOf 5 = 1 := by kernel_rfl

/-- What the row's list gives: the table's cells hold its seven numbers. -/
theorem table {W : World} (h : laidMetH Tryd.prog Rows.changesRow.laid W) : FieldWalks.Table W := by
  have t : Lib.TabIs Tryd.prog W "wattle/field.highPowers" .u8 [29, 58, 116, 232, 205, 135, 19] :=
    Lib.tabIs_of_head (rest := []) gTab gTabType Tryd.underlying106 Tryd.underlying5 cellsByte cellsTab h
  intro k hk
  match k, hk with
  | 0, _ => exact t.cell gTab 0 (by decide)
  | 1, _ => exact t.cell gTab 1 (by decide)
  | 2, _ => exact t.cell gTab 2 (by decide)
  | 3, _ => exact t.cell gTab 3 (by decide)
  | 4, _ => exact t.cell gTab 4 (by decide)
  | 5, _ => exact t.cell gTab 5 (by decide)
  | 6, _ => exact t.cell gTab 6 (by decide)

set_option maxRecDepth 100000 in
theorem contract (H : Type) (enc : TypeId × Value → H) (W : World) (base : Nat) (args : Array Value) (ds gs : List (DataW H)) (before : List MemPlace)
    (hval : ∀ (j : Nat) t v, Tryd.f7.params[j]? = some t → args[j]? = some v → Value.okWide Tryd.prog W .any base t v)
    (hW : DataW.Whole enc Tryd.prog Tryd.f7.params.toList Rows.changesSpec.vars false W args.toList ds gs before)
    (hsized : (DataW.weightsEach Tryd.prog (Tryd.f7.params.toList ++ (OpenSpec.ofChange Rows.changesSpec).bare.plain.varTypes Tryd.prog) (ds ++ gs)).all (· ≤ reachBytes) = true) (hL : laidMetH Tryd.prog Rows.changesRow.laid W) :
    Calls Tryd.prog 7 args W fun e W' => ∃ v, e = .returned v ∧ Rows.changesSpec.post enc Tryd.prog Tryd.f7 false true false false W args v W' := by
  have hW' := hW
  have hlt := hW.lt
  obtain ⟨p, q, hA0, hV, rfl, hfz, hnd⟩ := hW
  have hA : DataW.TrodAll enc Tryd.prog W 0 (fun _ => true) true Tryd.f7.params.toList args.toList ds p := hA0
  rw [Tryd.params7] at hA hval hsized
  obtain ⟨v0, vs0, d0, ds0, p0, q0, hargs, rfl, rfl, h0, r0⟩ := trodAll_cons hA
  obtain ⟨v1, vs1, d1, ds1, p1, q1, rfl, rfl, rfl, h1, r1⟩ := trodAll_cons r0
  obtain ⟨v2, vs2, d2, ds2, p2, q2, rfl, rfl, rfl, h2, r2⟩ := trodAll_cons r1
  obtain ⟨v3, vs3, d3, ds3, p3, q3, rfl, rfl, rfl, h3, r3⟩ := trodAll_cons r2
  obtain ⟨v4, vs4, d4, ds4, p4, q4, rfl, rfl, rfl, h4, r4⟩ := trodAll_cons r3
  obtain ⟨v5, vs5, d5, ds5, p5, q5, rfl, rfl, rfl, h5, r5⟩ := trodAll_cons r4
  obtain ⟨rfl, rfl, rfl⟩ := trodAll_nil r5
  obtain rfl : args = #[v0, v1, v2, v3, v4, v5] := Array.toList_inj.1 hargs
  obtain ⟨rfl, rfl⟩ := trodVars_none hV
  obtain ⟨a, rfl, rfl, rfl, wa⟩ := open_int Tryd.underlying3 (hval 0 3 v0 rfl rfl) h0
  obtain ⟨b, rfl, rfl, rfl, wb⟩ := open_int Tryd.underlying3 (hval 1 3 v1 rfl rfl) h1
  obtain ⟨c, rfl, rfl, rfl, wc⟩ := open_int Tryd.underlying3 (hval 2 3 v2 rfl rfl) h2
  obtain ⟨x, rfl, rfl, rfl, wx⟩ := open_int Tryd.underlying3 (hval 4 3 v4 rfl rfl) h4
  obtain ⟨str, rfl, rfl, rfl, hs⟩ := open_string Tryd.underlying9 (hval 5 9 v5 rfl rfl) h5
  obtain ⟨pieces, hcame, hstrs, hpl, hpsz⟩ := CardArgs.strs_arg (j := 3) (hval 3 38 v3 rfl rfl) h3 hsized rfl rfl
  clear hA0
  simp only [List.append_nil, List.nil_append] at hW' hlt
  have hT := table hL
  have wx' := CardArgs.wf_i64 wx
  refine (Top.changes_any a b c x pieces str v3 W hT (block_lt_of_cell (hT 0 (by decide))) hcame hstrs hpl hpsz hs (by omega) (by omega)).mono fun e W' ⟨he, hb⟩ => ?_
  subst he
  have h3' := Below.trod CardArgs.laidOut (by kernel_rfl) (of_decide_eq_true (by kernel_rfl)) h3 hb (fun y hy => hlt y (by simpa using hy))
  exact ⟨_, rfl, _, _, _, [], _, [], hW', trodAll_cons_mk (shut_bool Tryd.underlying4 _) trodAll_mk0,
    trodAll_cons_mk (shut_int Tryd.underlying3 wa) (trodAll_cons_mk (shut_int Tryd.underlying3 wb) (trodAll_cons_mk (shut_int Tryd.underlying3 wc) (trodAll_cons_mk h3' (trodAll_cons_mk (shut_int Tryd.underlying3 wx) (trodAll_cons_mk (shut_string Tryd.underlying9 hs) trodAll_mk0))))), rfl,
    hb.frame _, fun h => by cases h⟩

theorem laid_met (os : Os) : laidMet Tryd.prog Rows.changesRow.laid ((World.doorLaid Tryd.prog 400 os).forCall (fun _ _ => 0) ⟨#[], #[.int .i64 0, .int .i64 0, .int .i64 0, .slice none 0 0, .int .i64 0, .string ByteArray.empty], []⟩).memory :=
  laidMet_of_run' 8 (by kernel_rfl) (by kernel_rfl)
theorem reads (os : Os) {H : Type} (enc : TypeId × Value → H) : ∃ places, DataW.whole enc Tryd.prog ((World.doorLaid Tryd.prog 400 os).forCall (fun _ _ => 0) ⟨#[], #[.int .i64 0, .int .i64 0, .int .i64 0, .slice none 0 0, .int .i64 0, .string ByteArray.empty], []⟩).memory Tryd.f7.params.toList Rows.changesSpec.vars false #[Value.int .i64 0, Value.int .i64 0, Value.int .i64 0, Value.slice none 0 0, Value.int .i64 0, Value.string ByteArray.empty].toList 8 = some ([.lit (.int .i64 0), .lit (.int .i64 0), .lit (.int .i64 0), .nil, .lit (.int .i64 0), .lit (.string [])], [], places) :=
  ⟨[], by kernel_rfl⟩

set_option maxRecDepth 100000 in
theorem lifted (os : Os) (started : os.Started) (H : Type) (enc : TypeId × Value → H) (F : Stop.Interp) :
    ReturnsInHanded {} Tryd.checked os 7 .any ((OpenSpec.ofChange Rows.changesSpec).preRow enc Tryd.prog Tryd.f7 Rows.changesRow.domain false Rows.changesRow.laid) (((OpenSpec.ofChange Rows.changesSpec).at F).post enc Tryd.prog Tryd.f7 false true false false) := by
  obtain ⟨places, hx⟩ := reads os enc
  refine returnsInHanded_of_row (C := Tryd.checked) (s := OpenSpec.ofChange Rows.changesSpec) own started (by kernel_rfl) Tryd.func7
    (witness_row_at (enc := enc) (C := Tryd.checked) false (World.doorLaid Tryd.prog 400 os) #[.int .i64 0, .int .i64 0, .int .i64 0, .slice none 0 0, .int .i64 0, .string ByteArray.empty] rfl (by kernel_rfl) (by kernel_rfl) (by kernel_rfl)
      (OpenSpec.preRow_of_cond 8 hx (by kernel_rfl) (fun k hk => by cases hk) (by kernel_rfl) (laid_met os))) ?_
  intro W base args ds gs before hval hW _ _ hsized hL _ _
  exact contract H enc W base args ds gs before hval hW hsized hL

theorem said : Rows.ChangesSaid :=
  OpenClaim.holds_of_cond 7 Tryd.f7 rfl rfl rfl rfl rfl rfl rfl ⟨rfl, rfl, rfl, rfl, rfl⟩ rfl rfl rfl rfl rfl (by kernel_rfl) Tryd.func7 (by kernel_rfl)
    (of_decide_eq_true (by kernel_rfl)) (by unfold Func.isWrapper; first | (rw [if_pos (by decide +kernel)]; kernel_rfl) | (rw [if_neg (by decide +kernel)]; exact ⟨rfl, rfl⟩))
    (fun os started H enc _ F => by rw [OpenClaim.pre_eq_preRow]; exact lifted os started H enc F)

theorem plain (f : FuncId) (fn : Func) (hf : Tryd.pinned.checked.prog.funcNamed "wattle/wattlelaw.Changes" = some f) (hfn : Tryd.pinned.checked.prog.funcs[f]? = some fn) :
    false = Tryd.pinned.checked.prog.looks [] ∧ ∀ (j : Nat) t, fn.params[j]? = some t → Tryd.pinned.checked.prog.wantsStandIn t = false := by
  obtain rfl : f = 7 := Option.some.inj ((show Tryd.prog.funcNamed "wattle/wattlelaw.Changes" = some 7 by kernel_rfl).symm.trans hf) |>.symm
  obtain rfl : fn = Tryd.f7 := (Option.some.inj (Tryd.func7.symm.trans hfn)).symm
  refine ⟨by kernel_rfl, fun j t ht => ?_⟩
  rw [Tryd.params7] at ht
  have hm : t = 3 ∨ t = 38 ∨ t = 9 := by
    have := Array.mem_of_getElem? ht
    simp only [List.mem_toArray, List.mem_cons, List.not_mem_nil, or_false] at this
    rcases this with h | h | h | h | h | h <;> simp [h]
  rcases hm with rfl | rfl | rfl
  · exact (show Tryd.prog.wantsStandIn 3 = false by kernel_rfl)
  · exact (show Tryd.prog.wantsStandIn 38 = false by kernel_rfl)
  · exact (show Tryd.prog.wantsStandIn 9 = false by kernel_rfl)
end Go.Proofs.YtlnpppdffhibjaaDoor.ChangesCard
namespace Go.Proofs.YtlnpppdffhibjaaDoor
/-- ████ THE CARD ████ -/
theorem changes_card : Rows.ChangesCardSaid :=
  Claim7.holds_tied_plain_at .later [] _ _ _ _ ChangesCard.said (fun _ h => by cases h) (by kernel_rfl) (fun _ h => by cases h) changes_row_tie rfl ⟨rfl, rfl⟩ (by kernel_rfl) rfl ChangesCard.plain (by kernel_rfl)
end Go.Proofs.YtlnpppdffhibjaaDoor

