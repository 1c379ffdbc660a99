import Derived.Test.YtokmllopbfmadabDoorGFactors2
import Derived.Test.YtokmllopbfmadabDoorGShaped
import Derived.Test.YtokmllopbfmadabDoorGRefChange
import Derived.Test.YtokmllopbfmadabDoorGRefRestored
namespace Go.Proofs.YtokmllopbfmadabDoor.Ref
open Go.RowKit Mem FieldWalks Tab ByTab Parts
open Gf (Bytes newP)
open Plans (rowF)

/-- The rows that were made of strings so far, in a list that was made ahead. -/
structure Put (w wr : World) (g n L p : Nat) (pieces : List ByteArray) (bs : List Nat) (us : List Value) : Prop where
  list : Blk wr g 56 us
  ulen : us.length = n
  len : bs.length = p
  nodup : bs.Nodup
  at_ : ∀ q, (h : q < bs.length) → ∃ c, us[q]? = some (.slice (some ⟨bs[q], 0, none⟩) L c)
  row : ∀ q, (h : q < bs.length) → Row8 wr bs[q] (nums (pieces.getD q ByteArray.empty))
  low : ∀ b, b ∈ bs → w.heap.size ≤ b ∧ b < wr.heap.size
theorem Put.to {w wr wr' : World} {g n L p : Nat} {pieces : List ByteArray} {bs : List Nat} {us : List Value} (h : Put w wr g n L p pieces bs us) (hb : Below wr.heap.size wr wr') : Put w wr' g n L p pieces bs us :=
  ⟨h.list.to hb, h.ulen, h.len, h.nodup, h.at_, fun q hq => (h.row q hq).to hb, fun b hm => ⟨(h.low b hm).1, Nat.lt_of_lt_of_le (h.low b hm).2 hb.size⟩⟩
theorem Put.add {w wr : World} {g n L p b c : Nat} {pieces : List ByteArray} {bs : List Nat} {us : List Value} (h : Put w wr g n L p pieces bs us) (hb : Row8 wr b (nums (pieces.getD p ByteArray.empty))) (hn : b ∉ bs) (hlow : w.heap.size ≤ b) (hp : p < n) :
    Put w (wr.setCell ⟨g, p, none⟩ (.slice (some ⟨b, 0, none⟩) L c)) g n L (p + 1) pieces (bs ++ [b]) (us.set p (.slice (some ⟨b, 0, none⟩) L c)) := by
  have hl := h.len
  have hul := h.ulen
  have hne : ∀ q, (hq : q < bs.length) → bs[q] ≠ g := fun q hq => (h.row q hq).type_ne h.list (by decide)
  have hbg : b ≠ g := hb.type_ne h.list (by decide)
  refine ⟨h.list.set p _, by simp [hul], by simp [hl], ?_, fun q hq => ?_, fun q hq => ?_, fun x hx => ?_⟩
  · rw [List.nodup_append]
    refine ⟨h.nodup, by simp, fun a ha x hx => ?_⟩
    simp at hx; subst hx
    intro e; exact hn (e ▸ ha)
  · by_cases e : q < bs.length
    · obtain ⟨c', hc'⟩ := h.at_ q e
      exact ⟨c', by rw [List.getElem?_set_ne (by omega), List.getElem_append_left e]; exact hc'⟩
    · have : q = bs.length := by simp at hq; omega
      subst this
      exact ⟨c, by simp [hl, hul, hp]⟩
  · by_cases e : q < bs.length
    · rw [List.getElem_append_left e]; exact (h.row q e).other (hne q e) _
    · have : q = bs.length := by simp at hq; omega
      subst this
      have hb' := hb
      rw [← hl] at hb'
      simpa using hb'.other (a := ⟨g, p, none⟩) hbg _
  · rw [size_setCell]
    rcases List.mem_append.1 hx with hx | hx
    · exact h.low x hx
    · simp at hx; subst hx; exact ⟨hlow, hb.lt⟩
theorem Put.out {w wr : World} {g n L : Nat} {pieces : List ByteArray} {bs : List Nat} {us : List Value} (h : Put w wr g n L n pieces bs us) (hsz : ∀ p, p < n → (nums (pieces.getD p ByteArray.empty)).length = L) :
    OutAt wr g n L bs us (fun p => rowF L (oldOf pieces p)) := by
  have hl := h.len
  refine ⟨h.list, hl, h.nodup, fun p hp => by simp, h.at_, fun p hp => ?_⟩
  have := h.row p hp
  have e : rowF L (oldOf pieces p) = nums (pieces.getD p ByteArray.empty) := by
    apply List.ext_getElem
    · rw [hsz p (by omega)]; simp
    · intro t h1 h2
      simp only [rowF, List.getElem_map, List.getElem_range, oldOf]
      rw [List.getD_eq_getElem?_getD, List.getElem?_eq_getElem h2, Option.getD_some]
  rw [e]; exact this

set_option maxRecDepth 100000 in
set_option maxHeartbeats 4000000 in
theorem pChange_any (d s n at_ L : Nat) (pieces : List ByteArray) (text : ByteArray) (pv : Value) (w : World) (ht : Table w) (hp : StrsAt w pv pieces) (hd : 1 ≤ d) (hd2 : d ≤ 10) (hs : s ≤ 6) (hn : n ≤ 400) (hL : L = (n + d - 1) / d)
    (hyes : ShapeOk d s L pieces []) (hat : at_ + text.size ≤ n) :
    Calls Tryd.prog 24 #[.int .i64 d, .int .i64 s, pv, .int .i64 at_, .string text] w fun e w' => ∃ b, w.heap.size ≤ b ∧ e = .returned (.slice (some ⟨b, 0, none⟩) (d + s) (d + s)) ∧
      Blk w' b 9 (strV ((List.range (d + s)).map fun p => mkS (rowF L (newP d L at_ (nums text) text.size (oldOf pieces) p)))) ∧ Below w.heap.size w w' := by
  have hLs : L ≤ 400 := by have := ceil_le n d hd; omega
  have hnL : n ≤ d * L := by rw [hL]; exact ceil_mul n d (by omega)
  have hcn := hyes.count
  obtain ⟨pb, poff, pcap, rfl, hplt, hpc⟩ : ∃ b off cap, pv = .slice (some ⟨b, off, none⟩) pieces.length cap ∧ b < w.heap.size ∧ ∀ k, (h : k < pieces.length) → w.cell? ⟨b, off + k, none⟩ = some (.string pieces[k]) := by
    obtain ⟨ao, cap, rfl, h⟩ := hp
    rcases h with h | ⟨b, off, rfl, h1, h2⟩
    · rw [h] at hcn; simp at hcn; omega
    · exact ⟨b, off, cap, rfl, h1, h2⟩
  have HPC : Hid (∀ k, (h : k < pieces.length) → w.cell? ⟨pb, poff + k, none⟩ = some (.string pieces[k])) := hpc
  have HPS : Hid (∀ k, (h : k < pieces.length) → pieces[k].size = L) := fun k h => hyes.sizes k h (by simp)
  obtain ⟨M, hM⟩ : ∃ M, M = d + s := ⟨_, rfl⟩
  rw [← hM] at hcn ⊢
  rw [hcn]
  have HCN : Hid (pieces.length = M) := hcn
  have HTB : Hid (Bytes (nums text)) := nums_bytes text
  have HOB : Hid (∀ p t, oldOf pieces p t < 256) := fun p t => (nums_bytes _).getD _
  have HT0 : Hid (Table w) := ht
  have hmk := fun w => make_rows M (by omega) w
  have HM : Hid (M = d + s) := hM
  have hM1 : M ≤ d + s := by omega
  have hM2 : d + s ≤ M := by omega
  clear hpc hp hyes hcn hL ht hM
  go_enter Tryd.func24, Tryd.ntmps24
  go_wp2
  go_loopw [27] (fun i wr => ∃ (p : Nat) (bs : List Nat) (us : List Value), p ≤ M ∧ i = .int .i64 p ∧ Put w wr w.heap.size (M) L p pieces bs us ∧ Below w.heap.size w wr) (fun i _ => M - (intOf i).toNat)
  case atStart =>
    refine ⟨0, [], _, Nat.zero_le _, rfl, ⟨(Blk.new w _ _).eq (toList_madeCells_one _ (M)), by simp, rfl, by simp, fun q hq => by simp at hq, fun q hq => by simp at hq, fun b hb => by simp at hb⟩, (Below.refl _ _).alloc (Nat.le_refl _) _⟩
  case round =>
    obtain ⟨p, bs, us, hp, rfl, hput, hbel⟩ := hrel
    by_cases hpd : p < M
    · have hpl : p < pieces.length := by rw [HCN.out]; exact hpd
      have c1 := HPC.out p hpl
      rw [← hbel.cell (p := ⟨pb, poff + p, none⟩) hplt] at c1
      obtain ⟨x, hx⟩ : ∃ x, x = pieces[p] := ⟨_, rfl⟩
      rw [← hx] at c1
      have hxs : x.size = L := by rw [hx]; exact HPS.out p hpl
      have HX : Hid (pieces.getD p ByteArray.empty = x) := by show _ = _; rw [hx]; simp [hpl]
      have hsz := hbel.size
      have HB : Hid (Below w.heap.size w (Lib.bytesWorld wr 5 x)) := hbel.trans ((below_bytes wr x).mono hsz)
      have HPU : Hid (Put w (Lib.bytesWorld wr 5 x) w.heap.size (M) L p pieces bs us) := hput.to (below_bytes wr x)
      have HR : Hid (Row8 (Lib.bytesWorld wr 5 x) wr.heap.size (nums x)) := Row8.new wr x
      have hbn : wr.heap.size ∉ bs := fun hm => by have := (hput.low _ hm).2; omega
      have HBN : Hid (wr.heap.size ∉ bs) := hbn
      have hconv := Lib.run_convert_string_bytes (P := Tryd.prog) wr 9 56 5 x Tryd.underlying9 Tryd.underlying56 Tryd.underlying5
      rw [hxs] at hconv
      generalize grownCap wr L 0 5 = gc at hconv
      generalize Lib.bytesWorld wr 5 x = wb at HB HPU HR hconv
      have HCV : Hid ((convert 9 56 (.string x)).run Tryd.prog wr = .ok (.slice (some ⟨wr.heap.size, 0, none⟩) L gc) wb) := hconv
      have hul := HPU.out.ulen
      have r3 := HPU.out.list.cell_some (k := p) (v := us[p]'(by omega)) (by simp [show p < us.length by omega])
      have r4 := HPU.out.list.free p
      generalize us[p]'(by omega) = old at r3
      have HPA : Hid (Put w (wb.setCell ⟨w.heap.size, p, none⟩ (.slice (some ⟨wr.heap.size, 0, none⟩) L gc)) w.heap.size (M) L (p + 1) pieces (bs ++ [wr.heap.size]) (us.set p (.slice (some ⟨wr.heap.size, 0, none⟩) L gc))) := HPU.out.add (by rw [HX.out]; exact HR.out) HBN.out hsz hpd
      clear hconv hput hbn hx hxs hul
      go_wp2_with (refine wpList_convert_w _ rfl 9 56 _ rfl (.string x) _ wb rfl HCV.out ?_)
      go_roundw
      case rel => exact ⟨p + 1, _, _, by omega, by go_num, HPA.out, HB.out.setCell (Nat.le_refl _) _⟩
      case measure => simp [intOf]; omega
    · obtain rfl : M = p := by omega
      have hout := hput.out (fun q hq => by
        have hql : q < pieces.length := by rw [HCN.out]; exact hq
        rw [nums_length, show pieces.getD q ByteArray.empty = pieces[q] by simp [hql]]; exact HPS.out q hql)
      obtain ⟨F0, hF0⟩ : ∃ F0, F0 = wr.heap.size := ⟨_, rfl⟩
      have HLOW : Hid (∀ b, b ∈ bs → w.heap.size ≤ b ∧ b < F0) := fun b hb => by rw [hF0]; exact hput.low b hb
      have HOUT0 : Hid (OutAt wr w.heap.size M L bs us (fun p => rowF L (oldOf pieces p))) := hout
      have HF0 : Hid (F0 = wr.heap.size) := hF0
      clear hput hout hF0
      go_wp2_with fail
      refine (factors_new d s (by omega) (by omega) _ (table_to HT0.out hbel)).mono ?_
      rintro e w5 ⟨fv, rfl, hfac, hb5⟩
      rw [← HF0.out] at hfac
      have HFN : Hid (RowsNew w5 F0 fv (facs d s)) := hfac
      obtain ⟨fg, fc, rfl, _⟩ := hfac
      rw [show (facs d s).length = s by simp [facs]] at HFN ⊢
      have HO5 : Hid (OutAt w5 w.heap.size M L bs us (fun p => rowF L (newP d L at_ (nums text) 0 (oldOf pieces) p))) := (HOUT0.out.to hb5).congr fun p hp => Plans.rowF_congr fun t ht => Gf.newP_zero _ _ _ _ _ _ _
      have HB5 : Hid (Below w.heap.size w w5) := hbel.trans (hb5.mono hbel.size)
      obtain ⟨x0, hx0⟩ : ∃ x0, x0 = pieces[0]'(by rw [HCN.out]; omega) := ⟨_, rfl⟩
      have hx0s : x0.size = L := by rw [hx0]; exact HPS.out 0 _
      have c0 : w5.cell? ⟨pb, poff, none⟩ = some (.string x0) := by
        rw [HB5.out.cell (p := ⟨pb, poff, none⟩) hplt, hx0]; exact HPC.out 0 _
      have hM0 : 0 < M := by omega
      obtain ⟨g, hg⟩ : ∃ g, g = w.heap.size := ⟨_, rfl⟩
      rw [← hg] at HO5 ⊢
      have HG : Hid (g = w.heap.size) := hg
      clear hg hx0 HOUT0 hb5 hbel
      go_wp2
      go_loopw [47] (fun kv wq => ∃ k : Nat, k ≤ text.size ∧ kv = .int .i64 k ∧ OutAt wq g M L bs us (fun p => rowF L (newP d L at_ (nums text) k (oldOf pieces) p)) ∧ Over F0 w5 wq ∧ Below w.heap.size w wq) (fun kv _ => text.size - (intOf kv).toNat)
      case atStart => exact ⟨0, Nat.zero_le _, rfl, HO5.out, Over.refl _ _, HB5.out⟩
      case round =>
        clear HO5 c0
        obtain ⟨k, hk, rfl, hout, hov, hbq⟩ := hrel
        by_cases hkt : k < text.size
        · have hpos : at_ + k < d * L := by omega
          have hL0 : 0 < L := by
            rcases Nat.eq_zero_or_pos L with h | h
            · rw [h, Nat.mul_zero] at hpos; omega
            · exact h
          obtain ⟨j0, hj0⟩ : ∃ j0, j0 = (at_ + k) / L := ⟨_, rfl⟩
          obtain ⟨t0, ht0⟩ : ∃ t0, t0 = (at_ + k) % L := ⟨_, rfl⟩
          have hj0d : j0 < d := by rw [hj0]; exact Nat.div_lt_of_lt_mul (by rw [Nat.mul_comm]; exact hpos)
          have ht0L : t0 < L := by rw [ht0]; exact Nat.mod_lt _ hL0
          have q1 : ((at_ : Int) + (k : Int)) / (L : Int) = (j0 : Int) := by rw [hj0]; simp
          have q2 : ((at_ : Int) + (k : Int)) % (L : Int) = (t0 : Int) := by rw [ht0]; simp
          have q3 : Int.tdiv ((at_ : Int) + (k : Int)) (L : Int) = (j0 : Int) := by rw [Int.tdiv_eq_ediv_of_nonneg (by omega)]; exact q1
          have q4 : Int.tmod ((at_ : Int) + (k : Int)) (L : Int) = (t0 : Int) := by rw [Int.tmod_eq_emod_of_nonneg (by omega)]; exact q2
          have q9 : ((L : Int) == 0) = false := by simp; omega
          have q7 : ¬ (L : Int) = 0 := by omega
          have q8 : ¬ L = 0 := by omega
          obtain ⟨b0, c0, hb0, g1, hbg, hb0l, hcell⟩ := hout.read j0 (by omega)
          obtain ⟨g2, g3⟩ := hcell t0 ht0L
          rw [show (rowF L (newP d L at_ (nums text) k (oldOf pieces) j0)).getD t0 0 = newP d L at_ (nums text) k (oldOf pieces) j0 t0 by simp [rowF, ht0L]] at g2
          have hob := Gf.newP_lt (d := d) (L := L) (at_ := at_) (k := k) (p := j0) (t := t0) HTB.out HOB.out (by omega) (by omega)
          obtain ⟨o, ho⟩ : ∃ o, o = newP d L at_ (nums text) k (oldOf pieces) j0 t0 := ⟨_, rfl⟩
          rw [← ho] at g2 hob
          have HO : Hid (o = newP d L at_ (nums text) k (oldOf pieces) j0 t0) := ho
          have HJT : Hid (j0 = (at_ + k) / L ∧ t0 = (at_ + k) % L) := ⟨hj0, ht0⟩
          obtain ⟨ch, hch⟩ : ∃ ch, ch = (text[k]'hkt).toNat := ⟨_, rfl⟩
          have hchb : ch < 256 := by rw [hch]; exact (text[k]'hkt).toNat_lt
          have HCH : Hid ((nums text).getD k 0 = ch) := by show _ = _; rw [hch]; exact nums_get text k hkt
          have hci : ((text[k]'hkt).toNat : Int) = (ch : Int) := by rw [hch]
          obtain ⟨by_, hby⟩ : ∃ by_, by_ = o ^^^ ch := ⟨_, rfl⟩
          have hbyb : by_ < 256 := by rw [hby]; exact Gf.xor_lt hob hchb
          have hxor : bits .xor .u8 (o : Int) (ch : Int) = (by_ : Int) := by rw [hby]; exact u8_xor_nat _ _ hob hchb
          have hxor2 : bits .xor .u8 (o : Int) (by_ : Int) = (ch : Int) := by rw [u8_xor_nat _ _ hob hbyb, hby, ← Nat.xor_assoc, Nat.xor_self, Nat.zero_xor]
          have HBY : Hid (by_ = o ^^^ ch) := hby
          have HOUT : Hid (OutAt wr g M L bs us (fun p => rowF L (newP d L at_ (nums text) k (oldOf pieces) p))) := hout
          have HOV : Hid (Over F0 w5 wr) := hov
          have HBQ : Hid (Below w.heap.size w wr) := hbq
          have i1 : (j0 : Int) < (M : Int) := by omega
          have i2 : (t0 : Int) < (L : Int) := by omega
          have i3 : (k : Int) < (text.size : Int) := by omega
          clear hj0 ht0 ho hch hby hout hov hbq hcell hpos
          go_wp2
          go_quiet (fail)
          obtain ⟨w6, hw6⟩ : ∃ w6, w6 = wr.drewN nq := ⟨_, rfl⟩
          have hb6 : Below wr.heap.size wr w6 := by rw [hw6]; exact below_drewN (Below.refl _ _) _
          rw [← hw6]
          have g1' : w6.cell? ⟨g, j0, none⟩ = some (.slice (some ⟨b0, 0, none⟩) L c0) := by rw [hw6]; exact g1
          have g2' : w6.cell? ⟨b0, t0, none⟩ = some (.int .u8 (o : Int)) := by rw [hw6]; exact g2
          have g3' : w6.frozen? ⟨b0, t0, none⟩ = false := by rw [hw6]; exact g3
          have HO6 : Hid (OutAt w6 g M L bs us (fun p => rowF L (newP d L at_ (nums text) k (oldOf pieces) p))) := HOUT.out.to hb6
          have HV6 : Hid (Over F0 w5 w6) := HOV.out.to hb6
          have HB6 : Hid (Below w.heap.size w w6) := HBQ.out.trans (hb6.mono HBQ.out.size)
          clear hw6 g1 g2 g3 HOUT HOV HBQ hb6 q1 q2 q3 q4
          go_wp2
          go_quiet (fail)
          obtain ⟨w7, hw7⟩ : ∃ w7, w7 = w6.drewN nq := ⟨_, rfl⟩
          have hb7 : Below w6.heap.size w6 w7 := by rw [hw7]; exact below_drewN (Below.refl _ _) _
          rw [← hw7]
          have g1 : w7.cell? ⟨g, j0, none⟩ = some (.slice (some ⟨b0, 0, none⟩) L c0) := by rw [hw7]; exact g1'
          have g2 : w7.cell? ⟨b0, t0, none⟩ = some (.int .u8 (o : Int)) := by rw [hw7]; exact g2'
          have g3 : w7.frozen? ⟨b0, t0, none⟩ = false := by rw [hw7]; exact g3'
          have HO7 : Hid (OutAt w7 g M L bs us (fun p => rowF L (newP d L at_ (nums text) k (oldOf pieces) p))) := HO6.out.to hb7
          have HV7 : Hid (Over F0 w5 w7) := HV6.out.to hb7
          have HB7 : Hid (Below w.heap.size w w7) := HB6.out.trans (hb7.mono HB6.out.size)
          clear hw7 g1' g2' g3' HO6 HV6 HB6 hb7
          go_wp2
          have HO8 : Hid (OutAt (w7.setCell ⟨b0, t0, none⟩ (.int .u8 (ch : Int))) g M L bs us (fun p => if p < d + 0 then rowF L (newP d L at_ (nums text) (k + 1) (oldOf pieces) p) else rowF L (newP d L at_ (nums text) k (oldOf pieces) p))) := by
            have hjl : j0 < bs.length := (List.getElem?_eq_some_iff.1 hb0).1
            have hbe : bs[j0] = b0 := (List.getElem?_eq_some_iff.1 hb0).2
            have h1 := HO7.out.set j0 hjl t0 ch
            rw [hbe] at h1
            refine h1.congr fun p hp => ?_
            by_cases hpd : p < d
            · rw [if_pos (by omega)]
              by_cases e : p = j0
              · subst e
                rw [if_pos rfl, Plans.rowF_set]
                refine Plans.rowF_congr fun t ht => ?_
                rw [Gf.newP_data ht hpd, HCH.out]
                unfold Plans.upd
                by_cases e2 : t = t0
                · rw [if_pos ⟨HJT.out.1, e2.trans HJT.out.2⟩, if_pos e2]
                · rw [if_neg (fun h => e2 (h.2.trans HJT.out.2.symm)), if_neg e2]
              · rw [if_neg e]
                refine Plans.rowF_congr fun t ht => ?_
                rw [Gf.newP_data ht hpd, if_neg (fun h => e (h.1.trans HJT.out.1.symm))]
            · rw [if_neg (by omega), if_neg (by omega)]
          have hb0w := HLOW.out b0 (List.mem_of_getElem? hb0)
          have HV8 : Hid (Over F0 w5 (w7.setCell ⟨b0, t0, none⟩ (.int .u8 (ch : Int)))) := HV7.out.setCell hb0w.2 _
          have HB8 : Hid (Below w.heap.size w (w7.setCell ⟨b0, t0, none⟩ (.int .u8 (ch : Int)))) := HB7.out.setCell hb0w.1 _
          obtain ⟨w8, hw8⟩ : ∃ w8, w8 = w7.setCell ⟨b0, t0, none⟩ (.int .u8 (ch : Int)) := ⟨_, rfl⟩
          rw [← hw8] at HO8 HV8 HB8 ⊢
          clear hw8 g1 g2 g3 HO7 HV7 HB7 hb0w hbg hb0l hb0 hxor hxor2 hci i3
          go_loopw [83] (fun rv wq => ∃ r : Nat, r ≤ s ∧ rv = .int .i64 r ∧ OutAt wq g M L bs us (fun p => if p < d + r then rowF L (newP d L at_ (nums text) (k + 1) (oldOf pieces) p) else rowF L (newP d L at_ (nums text) k (oldOf pieces) p)) ∧ Over F0 w5 wq ∧ Below w.heap.size w wq) (fun rv _ => s - (intOf rv).toNat)
          case atStart => exact ⟨0, Nat.zero_le _, rfl, HO8.out, HV8.out, HB8.out⟩
          case round =>
            clear HO8 HV8 HB8
            obtain ⟨r, hr, rfl, hout, hov, hbq⟩ := hrel
            by_cases hrs : r < s
            · obtain ⟨b1, c1, hb1, g1, hbg1, hb1l, hcell⟩ := hout.read (d + r) (by omega)
              obtain ⟨g2, g3⟩ := hcell t0 ht0L
              rw [if_neg (by omega), show (rowF L (newP d L at_ (nums text) k (oldOf pieces) (d + r))).getD t0 0 = newP d L at_ (nums text) k (oldOf pieces) (d + r) t0 by simp [rowF, ht0L]] at g2
              have hvb := Gf.newP_lt (d := d) (L := L) (at_ := at_) (k := k) (p := d + r) (t := t0) HTB.out HOB.out (by omega) (by omega)
              obtain ⟨v, hv⟩ : ∃ v, v = newP d L at_ (nums text) k (oldOf pieces) (d + r) t0 := ⟨_, rfl⟩
              rw [← hv] at g2 hvb
              obtain ⟨x, hx⟩ : ∃ x, x = Gf.inv ((d + r) ^^^ j0) := ⟨_, rfl⟩
              have hxb : x < 256 := by rw [hx]; exact Gf.inv_lt _ (Gf.xor_lt (by omega) (by omega))
              obtain ⟨fb, fc', hfb, hfl, gf, ge⟩ : ∃ fb fc', F0 ≤ fb ∧ fb < wr.heap.size ∧ wr.cell? ⟨fg, r, none⟩ = some (.slice (some ⟨fb, 0, none⟩) d fc') ∧ wr.cell? ⟨fb, j0, none⟩ = some (.int .u8 (x : Int)) := by
                obtain ⟨g', c', he, _, _, h3⟩ := HFN.out.over hov
                injection he with he _ _
                injection he with he
                injection he with he
                subst he
                obtain ⟨b, c'', h4, h5, h6, h7⟩ := h3 r (by simp [facs]; exact hrs)
                have hlr : ((facs d s)[r]'(by simp [facs]; exact hrs)).length = d := by simp [facs, facRow]
                refine ⟨b, c'', h4, h5, by rw [← hlr]; exact h6, ?_⟩
                rw [h7 j0 (by rw [hlr]; exact hj0d), hx]
                simp [facs, facRow]
              obtain ⟨nv, hnv⟩ : ∃ nv, nv = v ^^^ Gf.times x by_ := ⟨_, rfl⟩
              have htb : Gf.times x by_ < 256 := Gf.times_lt _ _ hxb
              have hxor2 : bits .xor .u8 (v : Int) ((Gf.times x by_ : Nat) : Int) = (nv : Int) := by rw [hnv]; exact u8_xor_nat _ _ hvb htb
              have HNEW : Hid (OutAt (wr.setCell ⟨b1, t0, none⟩ (.int .u8 (nv : Int))) g M L bs us (fun p => if p < d + (r + 1) then rowF L (newP d L at_ (nums text) (k + 1) (oldOf pieces) p) else rowF L (newP d L at_ (nums text) k (oldOf pieces) p))) := by
                have hjl : d + r < bs.length := (List.getElem?_eq_some_iff.1 hb1).1
                have hbe : bs[d + r] = b1 := (List.getElem?_eq_some_iff.1 hb1).2
                have h1 := hout.set (d + r) hjl t0 nv
                rw [hbe] at h1
                refine h1.congr fun p hp => ?_
                by_cases e : p = d + r
                · subst e
                  rw [if_pos (by omega), if_pos rfl, if_neg (by omega), Plans.rowF_set]
                  refine Plans.rowF_congr fun t ht => ?_
                  rw [Gf.newP_spare ht (by omega) (by omega) (by omega) (by rw [← HJT.out.1]; exact hj0d), HCH.out, ← HJT.out.1, ← HJT.out.2]
                  unfold Plans.upd
                  by_cases e2 : t = t0
                  · subst e2
                    rw [if_pos rfl, if_pos rfl, hnv, HBY.out, HO.out, hv, hx]
                  · rw [if_neg e2, if_neg e2]
                · rw [if_neg e]
                  by_cases e3 : p < d + r
                  · rw [if_pos (by omega), if_pos e3]
                  · rw [if_neg (by omega), if_neg e3]
              have HB1 : Hid (w.heap.size ≤ b1 ∧ b1 < F0) := HLOW.out b1 (List.mem_of_getElem? hb1)
              have hb1f := HB1.out.2
              have HV8 : Hid (Over F0 w5 wr) := hov
              have HB8 : Hid (Below w.heap.size w wr) := hbq
              have HT8 : Hid (Table wr) := table_to HT0.out hbq
              have HS : Hid (wr.drew.cell? ⟨g, d + r, none⟩ = some (.slice (some ⟨b1, 0, none⟩) L c1) ∧ wr.drew.cell? ⟨fb, j0, none⟩ = some (.int .u8 (x : Int))) := ⟨g1, ge⟩
              have HA : Hid ((⟨b1, t0, none⟩ : Addr) ≠ ⟨g, d + r, none⟩ ∧ (⟨b1, t0, none⟩ : Addr) ≠ ⟨fb, j0, none⟩) := by
                refine ⟨?_, ?_⟩ <;> intro h <;> injection h <;> omega
              have z1 : ((d : Int) + (r : Int)).toNat = d + r := by omega
              have z3 : (d : Int) + (r : Int) < (M : Int) := by omega
              have z5 : (0 : Int) ≤ (d : Int) + (r : Int) := by omega
              have z6 : (j0 : Int) < (d : Int) := by omega
              have y5 : IntKind.i64.wrap ((d : Int) + (r : Int)) = (d : Int) + (r : Int) := by rw [IntKind.wrap_i64]; omega
              clear hcell hout hov hbq hv hx hnv
              go_wp2_with fail
              refine wp_region_held (S := fun wx => wx.cell? ⟨g, d + r, none⟩ = some (.slice (some ⟨b1, 0, none⟩) L c1) ∧ wx.cell? ⟨fb, j0, none⟩ = some (.int .u8 (x : Int))) rfl ?_
              refine wpAnyH_take (i := 0) (v := (.slice (some ⟨g, 0, none⟩) M M)) rfl (by kernel_rfl) (by kernel_rfl) (by kernel_rfl) (fun _ _ _ h => h) (Or.inl ⟨by rfl, fun w hw => by go_simp⟩) HS.out ?_
              refine wpAnyH_take (i := 1) (v := (.int .i64 (d : Int))) rfl (by kernel_rfl) (by kernel_rfl) (by kernel_rfl) (fun _ _ _ h => h) (Or.inl ⟨by rfl, fun w hw => by go_simp⟩) HS.out ?_
              refine wpAnyH_take (i := 2) (v := (.int .i64 (r : Int))) rfl (by kernel_rfl) (by kernel_rfl) (by kernel_rfl) (fun _ _ _ h => h) (Or.inl ⟨by rfl, fun w hw => by go_simp⟩) HS.out ?_
              refine wpAnyH_take (i := 3) (v := (.int .i64 ((d : Int) + (r : Int)))) rfl (by kernel_rfl) (by kernel_rfl) (by kernel_rfl) (fun _ _ _ h => h) (Or.inl ⟨by rfl, fun w hw => by go_simp⟩) HS.out ?_
              refine wpAnyH_take (i := 4) (v := (.pointer (some ⟨g, d + r, none⟩))) rfl (by kernel_rfl) (by kernel_rfl) (by kernel_rfl) (fun _ _ _ h => h) (Or.inl ⟨by rfl, fun w hw => by go_simp⟩) HS.out ?_
              simp only [Act.put]
              refine wpAnyH_take (i := 5) (v := (.slice (some ⟨b1, 0, none⟩) L c1)) rfl (by kernel_rfl) (by kernel_rfl) (by kernel_rfl) (fun _ _ _ h => h) (Or.inl ⟨by rfl, fun w hw => by obtain ⟨t1, t2⟩ := hw; go_simp⟩) HS.out ?_
              refine wpAnyH_take (i := 6) (v := (.int .i64 (t0 : Int))) rfl (by kernel_rfl) (by kernel_rfl) (by kernel_rfl) (fun _ _ _ h => h) (Or.inl ⟨by rfl, fun w hw => by go_simp⟩) HS.out ?_
              refine wpAnyH_take (i := 7) (v := (.pointer (some ⟨b1, t0, none⟩))) rfl (by kernel_rfl) (by kernel_rfl) (by kernel_rfl) (fun _ _ _ h => h) (Or.inl ⟨by rfl, fun w hw => by go_simp⟩) HS.out ?_
              refine wpAnyH_take (i := 9) (v := (.slice (some ⟨fb, 0, none⟩) d fc')) rfl (by kernel_rfl) (by kernel_rfl) (by kernel_rfl) (fun _ _ _ h => h) (Or.inl ⟨by rfl, fun w hw => by go_simp⟩) HS.out ?_
              refine wpAnyH_take (i := 10) (v := (.int .i64 (j0 : Int))) rfl (by kernel_rfl) (by kernel_rfl) (by kernel_rfl) (fun _ _ _ h => h) (Or.inl ⟨by rfl, fun w hw => by go_simp⟩) HS.out ?_
              simp only [Act.put]
              refine wpAnyH_take (i := 11) (v := (.pointer (some ⟨fb, j0, none⟩))) rfl (by kernel_rfl) (by kernel_rfl) (by kernel_rfl) (fun _ _ _ h => h) (Or.inl ⟨by rfl, fun w hw => by go_simp⟩) HS.out ?_
              refine wpAnyH_take (i := 12) (v := (.int .u8 (x : Int))) rfl (by kernel_rfl) (by kernel_rfl) (by kernel_rfl) (fun _ _ _ h => h) (Or.inl ⟨by rfl, fun w hw => by obtain ⟨t1, t2⟩ := hw; go_simp⟩) HS.out ?_
              refine wpAnyH_take (i := 13) (v := (.int .u8 (by_ : Int))) rfl (by kernel_rfl) (by kernel_rfl) (by kernel_rfl) (fun _ _ _ h => h) (Or.inl ⟨by rfl, fun w hw => by go_simp⟩) HS.out ?_
              simp only [Act.put, List.setIfInBounds_toArray]
              refine wpAnyH_ready (rs := [8, 14]) (by kernel_rfl) (by simp) ?_
              refine AllReadyH.cons rfl (fun K hK => ?_) (AllReadyH.cons rfl (fun K hK => ?_) AllReadyH.nil)
              · go_simp
                refine hK.out _ _ HS.out (fun _ => ?_)
                clear hK K
                refine wpAnyH_ready (rs := [14]) (by kernel_rfl) (by simp) ?_
                refine AllReadyH.cons rfl (fun K hK => ?_) AllReadyH.nil
                go_simp
                refine (mul_any x by_ hxb hbyb _ (by exact HT8.out)).mono ?_
                rintro e w2 ⟨rfl, rfl⟩
                dsimp only
                refine hK.out _ _ HS.out (fun _ => ?_)
                clear hK K
                refine wpAnyH_take (i := 15) (v := (.int .u8 (nv : Int))) rfl (by kernel_rfl) (by kernel_rfl) (by kernel_rfl) (fun _ _ _ h => h) (Or.inl ⟨by rfl, fun w hw => by go_simp⟩) HS.out ?_
                refine wpAnyH_take (i := 16) (v := (.pointer (some ⟨b1, t0, none⟩))) rfl (by kernel_rfl) (by kernel_rfl) (by kernel_rfl) (fun _ _ _ h => h) (Or.inl ⟨by rfl, fun w hw => by go_simp⟩) HS.out ?_
                simp only [Act.put, List.setIfInBounds_toArray]
                refine wpAnyH_ready (rs := [17]) (by kernel_rfl) (by simp) ?_
                refine AllReadyH.cons rfl (fun K hK => ?_) AllReadyH.nil
                go_simp
                refine hK.out _ _ ⟨(World.cell?_setCell_other _ _ _ _ HA.out.1).trans HS.out.1, (World.cell?_setCell_other _ _ _ _ HA.out.2).trans HS.out.2⟩ (fun _ => ?_)
                clear hK K
                refine wpAnyH_done (by kernel_rfl) ?_ _
                go_wp2
                go_roundw
                case rel => exact ⟨r + 1, by omega, by go_num, HNEW.out.to (Below.refl _ _).drew, (HV8.out.setCell HB1.out.2 _).drew, (HB8.out.setCell HB1.out.1 _).drew⟩
                case measure => simp [intOf]; omega
              · go_simp
                refine (mul_any x by_ hxb hbyb _ (by exact HT8.out)).mono ?_
                rintro e w2 ⟨rfl, rfl⟩
                dsimp only
                refine hK.out _ _ HS.out (fun _ => ?_)
                clear hK K
                refine wpAnyH_ready (rs := [8]) (by kernel_rfl) (by simp) ?_
                refine AllReadyH.cons rfl (fun K hK => ?_) AllReadyH.nil
                go_simp
                refine hK.out _ _ HS.out (fun _ => ?_)
                clear hK K
                refine wpAnyH_take (i := 15) (v := (.int .u8 (nv : Int))) rfl (by kernel_rfl) (by kernel_rfl) (by kernel_rfl) (fun _ _ _ h => h) (Or.inl ⟨by rfl, fun w hw => by go_simp⟩) HS.out ?_
                refine wpAnyH_take (i := 16) (v := (.pointer (some ⟨b1, t0, none⟩))) rfl (by kernel_rfl) (by kernel_rfl) (by kernel_rfl) (fun _ _ _ h => h) (Or.inl ⟨by rfl, fun w hw => by go_simp⟩) HS.out ?_
                simp only [Act.put, List.setIfInBounds_toArray]
                refine wpAnyH_ready (rs := [17]) (by kernel_rfl) (by simp) ?_
                refine AllReadyH.cons rfl (fun K hK => ?_) AllReadyH.nil
                go_simp
                refine hK.out _ _ ⟨(World.cell?_setCell_other _ _ _ _ HA.out.1).trans HS.out.1, (World.cell?_setCell_other _ _ _ _ HA.out.2).trans HS.out.2⟩ (fun _ => ?_)
                clear hK K
                refine wpAnyH_done (by kernel_rfl) ?_ _
                go_wp2
                go_roundw
                case rel => exact ⟨r + 1, by omega, by go_num, HNEW.out.to (Below.refl _ _).drew, (HV8.out.setCell HB1.out.2 _).drew, (HB8.out.setCell HB1.out.1 _).drew⟩
                case measure => simp [intOf]; omega
            · obtain rfl : s = r := by omega
              have HO9 : Hid (OutAt wr g M L bs us (fun p => rowF L (newP d L at_ (nums text) (k + 1) (oldOf pieces) p))) := hout.congr fun p hp => by rw [if_pos (by omega)]
              have HV9 : Hid (Over F0 w5 wr) := hov
              have HB9 : Hid (Below w.heap.size w wr) := hbq
              clear hout hov hbq
              go_wp2
              go_roundw
              case rel => exact ⟨k + 1, by omega, by go_num, HO9.out, HV9.out, HB9.out⟩
              case measure => simp [intOf]; omega
        · obtain rfl : k = text.size := by omega
          obtain ⟨ls, hls⟩ : ∃ ls, ls = (List.range M).map fun p => rowF L (newP d L at_ (nums text) text.size (oldOf pieces) p) := ⟨_, rfl⟩
          have hlsl : ls.length = M := by rw [hls]; simp
          have HLS : Hid (ls.length = M) := hlsl
          have HRO : Hid (RowsAt wr (.slice (some ⟨g, 0, none⟩) M M) ls) := by
            refine ⟨_, M, by rw [hlsl], .inr ⟨g, 0, rfl, hout.list.lt, fun q hq => ?_⟩⟩
            obtain ⟨b1, c1, hb1, g1, hbg1, hb1l, hcell⟩ := hout.read q (by omega)
            have hq2 : ls[q] = rowF L (newP d L at_ (nums text) text.size (oldOf pieces) q) := by simp [hls]
            refine ⟨_, by rw [Nat.zero_add]; exact g1, ?_⟩
            have hll : ls[q].length = L := by rw [hq2]; simp
            refine ⟨_, c1, by rw [hll], .inr ⟨b1, 0, rfl, hb1l, fun t ht => ?_⟩⟩
            rw [Nat.zero_add, (hcell t (by omega)).1]
            simp only [hq2]
            simp [rowF, show t < L by omega]
          have HLD : Hid (((List.range M).map fun p => mkS (rowF L (newP d L at_ (nums text) text.size (oldOf pieces) p))) = ls.map mkS) := by show _ = _; rw [hls, List.map_map]; rfl
          have HBQ : Hid (Below w.heap.size w wr) := hbq
          clear hls hlsl hout hov hbq
          go_wp2_with fail
          refine (asTexts_any ls _ _ HRO.out (by rw [HLS.out]; omega)).mono ?_
          rintro e w9 ⟨b, hb, rfl, hblk, hb9⟩
          rw [HLS.out]
          have HBLK : Hid (Blk w9 b 9 (strV (ls.map mkS))) := hblk
          clear hblk
          go_wp2
          go_ret
          exact ⟨b, Nat.le_trans HBQ.out.size hb, rfl, by rw [HLD.out]; exact HBLK.out, HBQ.out.trans (hb9.mono HBQ.out.size)⟩
end Go.Proofs.YtokmllopbfmadabDoor.Ref

namespace Go.Proofs.YtokmllopbfmadabDoor.Ref
open Go.RowKit Mem FieldWalks Tab ByTab Parts

/-- With an error no pieces. -/
def CNo (k : Int) (e : Ending) : Prop := e = .returned (.tuple #[.slice none 0 0, .int .i64 k])

end Go.Proofs.YtokmllopbfmadabDoor.Ref
