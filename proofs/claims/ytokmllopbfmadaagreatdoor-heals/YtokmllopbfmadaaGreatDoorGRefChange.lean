import Derived.Deep.QuietTactic
import Derived.BigQuiet
import Derived.Test.YtokmllopbfmadaaGreatDoorGPChecks
import Derived.Test.YtokmllopbfmadaaGreatDoorGRefRestored
import Derived.Test.YtokmllopbfmadaaGreatDoorGSpoilMath
namespace Go.Proofs.YtokmllopbfmadaaGreatDoor.Ref
open Go.RowKit Mem FieldWalks Tab ByTab Parts
open Gf (Bytes newP)
open Plans (But rowF intsV infoInt wpList_append_row made_cells owns_form rowF_length)

theorem wpList_convert_w {P : Program} (w : World) {ops : Array Oper} {rest : List Oper} {o : Oper} {a : Act} {Q : Exit → Act → World → Prop}
    (hgd : o.guard = none) (src dst : TypeId) (x : Operand) (hop : o.op = Op.convert src dst x) (v r : Value) (w' : World) (hx : a.eval x = v) (hrun : (convert src dst v).run P w = .ok r w')
    (hK : wpList P ops Q rest (a.put o.dst r) w') : wpList P ops Q (o :: rest) a w := by
  refine wpList_plain hgd fun K hK' => ?_
  unfold Oper.wp
  simp [execOp, hop, hx, hrun, Result.andThen]
  exact hK' _ _ hK
theorem infoBs : (Tryz.prog.info? 85).map (fun i => (i.zero, i.size, i.bytes)) = some (some (.slice none 0 0), 1, 24) := by kernel_rfl
theorem Row8.grown {w w' : World} {base size n : Nat} {e : TypeId} {v : Value} {xs : List Value} {b : Nat} {l : List Nat} (h : w.ownsRow base e size v n xs) (hg : w.grownBy w' v.ownBlock) (hr : Row8 w b l) (ht : 5 ≠ e) : Row8 w' b l := by
  refine hr.of_block (hg.block b hr.lt fun e1 => ?_)
  obtain ⟨cs, fr, hb, _⟩ := hr
  rcases h.2 with ⟨rfl, _⟩ | ⟨g', cap, cur', rfl, _, hh, _⟩
  · simp [Value.ownBlock] at e1
  · simp [Value.ownBlock] at e1
    subst e1
    rw [hb] at hh
    simp at hh
    exact ht hh.2.1
/-- The rows that were made of strings so far. -/
structure Made (w wr : World) (L p : Nat) (pieces : List ByteArray) (bs : List Nat) (us : List Value) : Prop where
  len : bs.length = p
  ulen : us.length = p
  nodup : bs.Nodup
  at_ : ∀ q, (h : q < bs.length) → ∃ c, us[q]? = some (.slice (some ⟨bs[q], 0, none⟩) L c)
  row : ∀ q, (h : q < bs.length) → Row8 wr bs[q] (nums (pieces.getD q ByteArray.empty))
  low : ∀ b, b ∈ bs → w.heap.size ≤ b ∧ b < wr.heap.size
theorem Made.to {w wr wr' : World} {L p : Nat} {pieces : List ByteArray} {bs : List Nat} {us : List Value} (h : Made w wr L p pieces bs us) (hb : Below wr.heap.size wr wr') : Made w wr' L p pieces bs us :=
  ⟨h.len, h.ulen, h.nodup, h.at_, fun q hq => (h.row q hq).to hb, fun b hm => ⟨(h.low b hm).1, Nat.lt_of_lt_of_le (h.low b hm).2 hb.size⟩⟩
theorem Made.add {w wr : World} {L p b c : Nat} {pieces : List ByteArray} {bs : List Nat} {us : List Value} (h : Made w wr L p pieces bs us) (hb : Row8 wr b (nums (pieces.getD p ByteArray.empty))) (hn : b ∉ bs) (hlow : w.heap.size ≤ b) :
    Made w wr L (p + 1) pieces (bs ++ [b]) (us ++ [.slice (some ⟨b, 0, none⟩) L c]) := by
  have hl := h.len
  have hul := h.ulen
  refine ⟨by simp [hl], by simp [hul], ?_, fun q hq => ?_, fun q hq => ?_, fun x hx => ?_⟩
  · rw [List.nodup_append]
    refine ⟨h.nodup, by simp, fun a ha x hx => ?_⟩
    simp at hx; subst hx
    intro e; exact hn (e ▸ ha)
  · by_cases e : q < bs.length
    · obtain ⟨c', hc'⟩ := h.at_ q e
      exact ⟨c', by rw [List.getElem?_append_left (by omega), List.getElem_append_left e]; exact hc'⟩
    · have : q = bs.length := by simp at hq; omega
      subst this
      exact ⟨c, by rw [List.getElem?_append_right (by omega)]; simp [hl, hul]⟩
  · by_cases e : q < bs.length
    · rw [List.getElem_append_left e]; exact h.row q e
    · have : q = bs.length := by simp at hq; omega
      subst this
      have hb' := hb
      rw [← hl] at hb'
      simpa using hb'
  · rcases List.mem_append.1 hx with hx | hx
    · exact h.low x hx
    · simp at hx; subst hx; exact ⟨hlow, hb.lt⟩
theorem Made.grown {w wr wr' : World} {L p : Nat} {pieces : List ByteArray} {bs : List Nat} {us : List Value} {base size n : Nat} {e : TypeId} {v : Value} {xs : List Value} (h : Made w wr L p pieces bs us) (ho : wr.ownsRow base e size v n xs) (hg : wr.grownBy wr' v.ownBlock) (ht : 5 ≠ e) : Made w wr' L p pieces bs us :=
  ⟨h.len, h.ulen, h.nodup, h.at_, fun q hq => (h.row q hq).grown ho hg ht, fun b hm => ⟨(h.low b hm).1, Nat.lt_of_lt_of_le (h.low b hm).2 hg.size⟩⟩
theorem Made.out {w wr : World} {L n g cap : Nat} {pieces : List ByteArray} {bs : List Nat} {us : List Value} (h : Made w wr L n pieces bs us) (ho : wr.ownsRow w.heap.size 85 1 (.slice (some ⟨g, 0, none⟩) n cap) n us) (hpos : 0 < n) (hsz : ∀ p, p < n → (nums (pieces.getD p ByteArray.empty)).length = L) :
    ∃ us', OutAt wr g n L bs us' (fun p => rowF L (oldOf pieces p)) ∧ w.heap.size ≤ g := by
  obtain ⟨_, h2⟩ := ho
  rcases h2 with ⟨h0, h1⟩ | ⟨g', cap', cur, hv, hg, hh, _, _, _, ht⟩
  · omega
  · injection hv with hv _ _
    injection hv with hv
    injection hv with hv
    subst hv
    have hl := h.len
    have hul := h.ulen
    refine ⟨cur.toList, ⟨by unfold Blk; rw [hh], hl, h.nodup, fun p hp => by simp, fun p hp => ?_, fun p hp => ?_⟩, hg⟩
    · obtain ⟨c, hc⟩ := h.at_ p hp
      refine ⟨c, ?_⟩
      rw [Nat.mul_one] at ht
      rw [← ht, List.getElem?_take_of_lt (by omega)] at hc
      exact hc
    · have := h.row p hp
      have e : rowF L (oldOf pieces p) = nums (pieces.getD p ByteArray.empty) := by
        apply List.ext_getElem
        · rw [hsz p (by omega)]; simp
        · intro t h1 h2
          simp only [rowF, List.getElem_map, List.getElem_range, oldOf]
          rw [List.getD_eq_getElem?_getD, List.getElem?_eq_getElem h2, Option.getD_some]
      rw [e]; exact this

set_option maxRecDepth 100000 in
set_option maxHeartbeats 2000000 in
theorem rChange_ok (d s n at_ L : Nat) (pieces : List ByteArray) (text : ByteArray) (pv : Value) (w : World) (hp : StrsAt w pv pieces) (hd : 1 ≤ d) (hd2 : d ≤ 10) (hs : s ≤ 6) (hn : n ≤ 400) (hL : L = (n + d - 1) / d) (hsz : ∀ p, (h : p < pieces.length) → pieces[p].size < 2 ^ 62)
    (hyes : ShapeOk d s L pieces []) (hat : at_ + text.size ≤ n) :
    Calls Tryz.prog 24 #[.int .i64 d, .int .i64 s, .int .i64 n, pv, .int .i64 at_, .string text] w fun e w' => ∃ v, e = .returned (.tuple #[v, .int .i64 0]) ∧
      StrsNew w' w.heap.size v ((List.range (d + s)).map fun p => mkS (rowF L (newP d L at_ (nums text) text.size (oldOf pieces) p))) ∧ Below w.heap.size w w' := by
  have hok : okCounts d s = true := okCounts_yes _ _ (by omega)
  have e1 : decide ((n : Int) < 0) = false := decide_eq_false (by omega)
  have e2 : decide ((400 : Int) < (n : Int)) = false := decide_eq_false (by omega)
  have e4 : decide ((at_ : Int) < 0) = false := decide_eq_false (by omega)
  have e5 : decide ((n : Int) < (at_ : Int)) = false := decide_eq_false (by omega)
  have e5n : decide (n < at_) = false := decide_eq_false (by omega)
  have e6 : decide ((n : Int) - (at_ : Int) < (text.size : Int)) = false := decide_eq_false (by omega)
  have hLs : L ≤ 400 := by have := ceil_le n d hd; omega
  have hnL : n ≤ d * L := by rw [hL]; exact ceil_mul n d (by omega)
  have hcn := hyes.count
  have hnil : IsC w (.slice none 0 0) [] := ⟨none, 0, rfl, .inl rfl⟩
  have HSH : Hid (Calls Tryz.prog 48 #[.int .i64 d, .int .i64 s, .int .i64 n, pv, .slice none 0 0] w fun e w'' => e = .returned (.bool true) ∧ Drew w w'') := by
    refine (shaped_any d s n L pieces [] pv _ w hp hnil (by simp) (by omega) hd hd2 hs hn hL hsz).mono ?_
    rintro e w'' ⟨⟨b, rfl, hb⟩, hw⟩
    rw [hb.2 hyes]
    exact ⟨rfl, hw⟩
  obtain ⟨pb, poff, pcap, rfl, hplt, hpc⟩ : ∃ b off cap, pv = .slice (some ⟨b, off, none⟩) pieces.length cap ∧ b < w.heap.size ∧ ∀ k, (h : k < pieces.length) → w.cell? ⟨b, off + k, none⟩ = some (.string pieces[k]) := by
    obtain ⟨ao, cap, rfl, h⟩ := hp
    rcases h with h | ⟨b, off, rfl, h1, h2⟩
    · rw [h] at hcn; simp at hcn; omega
    · exact ⟨b, off, cap, rfl, h1, h2⟩
  have HPC : Hid (∀ k, (h : k < pieces.length) → w.cell? ⟨pb, poff + k, none⟩ = some (.string pieces[k])) := hpc
  have HPS : Hid (∀ k, (h : k < pieces.length) → pieces[k].size = L) := fun k h => hyes.sizes k h (by simp)
  rw [hcn] at HSH ⊢
  have HCN : Hid (pieces.length = d + s) := hcn
  have HEL : Hid (L = (n + d - 1) / d) := hL
  clear hpc hp hyes hcn hsz hnil hL
  go_enter Tryz.func24, Tryz.ntmps24
  go_wp2_with fail
  refine (rCounts_any _ _ _).mono ?_
  rintro e w' ⟨rfl, rfl⟩
  go_wp2_with fail
  refine Calls.mono HSH.out ?_
  rintro e w2 ⟨rfl, hw2⟩
  have hb2 := hw2.below
  clear hw2 HSH
  go_wp2
  go_loopw [15, 16] (fun t i wr => ∃ (p : Nat) (bs : List Nat) (us : List Value), p ≤ d + s ∧ i = .int .i64 p ∧ wr.ownsRow w'.heap.size 85 1 t p us ∧ Made w' wr L p pieces bs us ∧ Below w'.heap.size w' wr) (fun _ i _ => d + s - (intOf i).toNat)
  case atStart => exact ⟨0, [], [], Nat.zero_le _, rfl, World.ownsRow_nil _ _ _ _, ⟨rfl, rfl, by simp, fun q hq => by simp at hq, fun q hq => by simp at hq, fun b hb => by simp at hb⟩, hb2⟩
  case round =>
    obtain ⟨p, bs, us, hp, rfl, hown, hmade, hbel⟩ := hrel
    obtain ⟨ta, tc, rfl⟩ := owns_form hown
    by_cases hpd : p < d + s
    · have hpl : p < pieces.length := by rw [HCN.out]; exact hpd
      have c1 := HPC.out p hpl
      rw [← hbel.cell (p := ⟨pb, poff + p, none⟩) hplt] at c1
      obtain ⟨x, hx⟩ : ∃ x, x = pieces[p] := ⟨_, rfl⟩
      rw [← hx] at c1
      have hxs : x.size = L := by rw [hx]; exact HPS.out p hpl
      have HX : Hid (pieces.getD p ByteArray.empty = x) := by show _ = _; rw [hx]; simp [hpl]
      have hsz := hbel.size
      have HB : Hid (Below w'.heap.size w' (Lib.bytesWorld wr 5 x)) := hbel.trans ((below_bytes wr x).mono hsz)
      have HO : Hid ((Lib.bytesWorld wr 5 x).ownsRow w'.heap.size 85 1 (.slice ta p tc) p us) := ownsRow_to hown (below_bytes wr x)
      have HM : Hid (Made w' (Lib.bytesWorld wr 5 x) L p pieces bs us) := hmade.to (below_bytes wr x)
      have HR : Hid (Row8 (Lib.bytesWorld wr 5 x) wr.heap.size (nums x)) := Row8.new wr x
      have hbn : wr.heap.size ∉ bs := fun hm => by have := (hmade.low _ hm).2; omega
      have HBN : Hid (wr.heap.size ∉ bs) := hbn
      have hconv := Lib.run_convert_string_bytes (P := Tryz.prog) wr 9 85 5 x Tryz.underlying9 Tryz.underlying85 Tryz.underlying5
      rw [hxs] at hconv
      have hws : (Lib.bytesWorld wr 5 x).heap.size = wr.heap.size + 1 := Lib.bytesWorld_size _ _ _
      have HWS : Hid ((Lib.bytesWorld wr 5 x).heap.size = wr.heap.size + 1) := hws
      generalize grownCap wr L 0 5 = gc at hconv
      generalize Lib.bytesWorld wr 5 x = wb at HB HO HM HR hconv HWS
      have HCV : Hid ((convert 9 85 (.string x)).run Tryz.prog wr = .ok (.slice (some ⟨wr.heap.size, 0, none⟩) L gc) wb) := hconv
      have hszb := HB.out.size
      have HMA : Hid (Made w' wb L (p + 1) pieces (bs ++ [wr.heap.size]) (us ++ [.slice (some ⟨wr.heap.size, 0, none⟩) L gc])) := HM.out.add (by rw [HX.out]; exact HR.out) HBN.out hsz
      clear hconv hws hown hmade hbn hx hxs
      go_wp2_with (first | (refine wpList_convert_w _ rfl 9 85 _ rfl (.string x) _ wb rfl HCV.out ?_) | (at_builtin; refine wpList_append_row _ rfl _ _ 89 rfl w'.heap.size 85 (.slice none 0 0) 1 24 Tryz.underlying89 infoBs rfl (by decide) (by decide) _ _ _ rfl (by exact HO.out.alloc _) ⟨wb.heap.size, 0, none⟩ 1 [.slice (some ⟨wr.heap.size, 0, none⟩) L gc] rfl rfl (made_cells wb 85 _) (by simp [Value.oneCell']) (by omega) (by simp; omega) ?_; intro v' w3 hown' hg hbel'))
      have HM3 : Hid (Made w' w3 L (p + 1) pieces (bs ++ [wr.heap.size]) (us ++ [.slice (some ⟨wr.heap.size, 0, none⟩) L gc])) := (HMA.out.to ((Below.refl _ _).alloc (Nat.le_refl _) _)).grown (by exact HO.out.alloc _) hg (by decide)
      have HB3 : Hid (Below w'.heap.size w' w3) := hbel' _ _ (HB.out.alloc hszb _) (Nat.le_refl _)
      clear hg hbel'
      go_roundw
      case rel => exact ⟨p + 1, _, _, by omega, by go_num, hown', HM3.out, HB3.out⟩
      case measure => simp [intOf]; omega
    · obtain rfl : p = d + s := by omega
      obtain ⟨g, cap, hta⟩ : ∃ g c, Value.slice ta (d + s) tc = .slice (some ⟨g, 0, none⟩) (d + s) c := by
        rcases hown.2 with ⟨h0, h1⟩ | ⟨g, cap, cur, h0, _⟩
        · omega
        · exact ⟨_, _, h0⟩
      injection hta with t1 t2 t3
      subst t1 t3
      obtain ⟨us', hout, hgb⟩ := hmade.out hown (by omega) (fun q hq => by
        have hql : q < pieces.length := by rw [HCN.out]; exact hq
        rw [nums_length, show pieces.getD q ByteArray.empty = pieces[q] by simp [hql]]; exact HPS.out q hql)
      have HOUT : Hid (OutAt wr g (d + s) L bs us' (fun p => rowF L (oldOf pieces p))) := hout
      obtain ⟨w4, rfl⟩ : ∃ w4, w4 = wr := ⟨_, rfl⟩
      have hmk := fun w => make_ints (d * s) (by have := Nat.mul_le_mul hd2 hs; omega) w
      have hds : (d : Int) * (s : Int) = ((d * s : Nat) : Int) := by simp
      have hds2 : d * s ≤ 60 := Nat.mul_le_mul hd2 hs
      have HDS : Hid (d * s = d * s) := rfl
      have HLOW : Hid (∀ b, b ∈ bs → w'.heap.size ≤ b) := fun b hb => (hmade.low b hb).1
      clear t2 hout hown hmade
      go_wp2_with fail
      refine (size_any d n (by omega) (by omega) (by omega) _).mono ?_
      rintro e w5 ⟨rfl, rfl⟩
      rw [← HEL.out]
      obtain ⟨N, hN⟩ : ∃ N, N = d * s := ⟨_, rfl⟩
      rw [← hN] at hds hds2 hmk
      have HN : Hid (N = d * s) := hN
      clear hN HDS
      go_wp2
      go_loopw [19] (fun iv wq => ∃ i : Nat, i ≤ N ∧ iv = .int .i64 i ∧ Blk wq w5.heap.size 3 (intsV (mix (rowF N fun i => Gf.inv ((d + i / d) ^^^ (i % d))) (List.replicate N 0) i)) ∧ Below w5.heap.size w5 wq) (fun iv _ => N - (intOf iv).toNat)
      case atStart => exact ⟨0, Nat.zero_le _, rfl, by rw [mix_zero]; exact made_ints w5 N, (Below.refl _ _).alloc (Nat.le_refl _) _⟩
      case round =>
        obtain ⟨i, hi, rfl, hblk, hbq⟩ := hrel
        by_cases hiN : i < N
        · have hlf : (rowF N fun i => Gf.inv ((d + i / d) ^^^ (i % d))).length = (List.replicate N 0).length := by simp
          have r3 := hblk.cell_some (k := i) (v := .int .i64 0) (by
            have := mix_at (new := rowF N fun i => Gf.inv ((d + i / d) ^^^ (i % d))) (old := List.replicate N 0) (k := i) hlf (by simpa using hiN)
            simp [intsV, this])
          have r4 := hblk.free i
          have HNW : Hid (Blk (wr.setCell ⟨w5.heap.size, i, none⟩ (.int .i64 (Gf.inv ((d + i / d) ^^^ (i % d)) : Nat))) w5.heap.size 3 (intsV (mix (rowF N fun i => Gf.inv ((d + i / d) ^^^ (i % d))) (List.replicate N 0) (i + 1)))) := by
            refine (hblk.set i _).eq ?_
            have := mix_set (new := rowF N fun i => Gf.inv ((d + i / d) ^^^ (i % d))) (old := List.replicate N 0) (k := i) hlf (by simpa using hiN)
            rw [← this]
            simp [intsV, List.map_set, rowF]
          obtain ⟨a, ha⟩ : ∃ a, a = i / d := ⟨_, rfl⟩
          obtain ⟨b, hb⟩ : ∃ b, b = i % d := ⟨_, rfl⟩
          have q1 : (i : Int) / (d : Int) = (a : Int) := by rw [ha]; simp
          have q2 : (i : Int) % (d : Int) = (b : Int) := by rw [hb]; simp
          have q3 : Int.tdiv (i : Int) (d : Int) = (a : Int) := by rw [Int.tdiv_eq_ediv_of_nonneg (by omega)]; exact q1
          have q4 : Int.tmod (i : Int) (d : Int) = (b : Int) := by rw [Int.tmod_eq_emod_of_nonneg (by omega)]; exact q2
          have hbd : b < d := by rw [hb]; exact Nat.mod_lt _ (by omega)
          have had : a ≤ 60 := by rw [ha]; exact Nat.le_trans (Nat.div_le_self _ _) (by omega)
          rw [← ha, ← hb] at HNW
          have HBQ : Hid (Below w5.heap.size w5 wr) := hbq
          have q5 : IntKind.i64.wrap (a : Int) = a := by rw [IntKind.wrap_i64]; omega
          have q6 : IntKind.i64.wrap (b : Int) = b := by rw [IntKind.wrap_i64]; omega
          have q7 : ¬ (d : Int) = 0 := by omega
          have q8 : ¬ d = 0 := by omega
          have q9 : ((d : Int) == 0) = false := by simp; omega
          clear ha hb hblk hbq hlf
          go_wp2_with fail
          go_region_with (go_at_call 50; refine (factor_any d a b (by omega) (by omega) hbd _).mono ?_; rintro e w2 ⟨rfl, rfl⟩)
          all_goals
            go_wp2
            go_roundw
            case rel => exact ⟨i + 1, by omega, by go_num, HNW.out.drew, (HBQ.out.setCell (Nat.le_refl _) _).drew⟩
            case measure => simp [intOf]; omega
        · obtain rfl : i = N := by omega
          have hfac : Blk wr w5.heap.size 3 (intsV (rowF i fun i => Gf.inv ((d + i / d) ^^^ (i % d)))) := by
            have e := mix_all (new := rowF i fun i => Gf.inv ((d + i / d) ^^^ (i % d))) (old := List.replicate i 0) (by simp)
            rw [List.length_replicate] at e
            rw [e] at hblk
            exact hblk
          have HO6 : Hid (OutAt wr g (d + s) L bs us' (fun p => rowF L (newP d L at_ (nums text) 0 (oldOf pieces) p))) := by
            refine (HOUT.out.to hbq).congr fun p _ => ?_
            exact Plans.rowF_congr fun t _ => Gf.newP_zero _ _ _ _ _ _ _
          have HF6 : Hid (Blk wr w5.heap.size 3 (intsV (rowF i fun i => Gf.inv ((d + i / d) ^^^ (i % d))))) := hfac
          have HB6 : Hid (Below w'.heap.size w' wr) := hbel.trans (hbq.mono hbel.size)
          have hsz5 := hbel.size
          obtain ⟨w6, rfl⟩ : ∃ w6, w6 = wr := ⟨_, rfl⟩
          have HTB : Hid (Bytes (nums text)) := nums_bytes text
          have HOB : Hid (∀ p t, oldOf pieces p t < 256) := fun p t => (nums_bytes _).getD t
          clear hblk hbq hfac HOUT hmk hbel hb2
          obtain ⟨FB, hFB⟩ : ∃ FB, FB = w5.heap.size := ⟨_, rfl⟩
          rw [← hFB] at HF6
          have hFB5 : w'.heap.size ≤ FB := by omega
          have HFB : Hid (FB = w5.heap.size) := hFB
          go_wp2
          go_loopw [20] (fun kv wq => ∃ k : Nat, k ≤ text.size ∧ kv = .int .i64 k ∧ OutAt wq g (d + s) L bs us' (fun p => rowF L (newP d L at_ (nums text) k (oldOf pieces) p)) ∧ Blk wq w5.heap.size 3 (intsV (rowF i fun i => Gf.inv ((d + i / d) ^^^ (i % d)))) ∧ Below w'.heap.size w' wq) (fun kv _ => text.size - (intOf kv).toNat)
          case atStart => exact ⟨0, Nat.zero_le _, rfl, HO6.out, by rw [← HFB.out]; exact HF6.out, HB6.out⟩
          case round =>
            clear HO6 HF6 HB6
            obtain ⟨k, hk, rfl, hout, hfac, hbq⟩ := hrel
            by_cases hkt : k < text.size
            · have hpos : at_ + k < d * L := by omega
              have hL0 : 0 < L := by
                rcases Nat.eq_zero_or_pos L with h | h
                · rw [h, Nat.mul_zero] at hpos; omega
                · exact h
              obtain ⟨j0, hj0⟩ : ∃ j0, j0 = (at_ + k) / L := ⟨_, rfl⟩
              obtain ⟨t0, ht0⟩ : ∃ t0, t0 = (at_ + k) % L := ⟨_, rfl⟩
              have hj0d : j0 < d := by rw [hj0]; exact Nat.div_lt_of_lt_mul (by rw [Nat.mul_comm]; exact hpos)
              have ht0L : t0 < L := by rw [ht0]; exact Nat.mod_lt _ hL0
              have q1 : ((at_ : Int) + (k : Int)) / (L : Int) = (j0 : Int) := by rw [hj0]; simp
              have q2 : ((at_ : Int) + (k : Int)) % (L : Int) = (t0 : Int) := by rw [ht0]; simp
              have q9 : ((L : Int) == 0) = false := by simp; omega
              have q7 : ¬ (L : Int) = 0 := by omega
              have q8 : ¬ L = 0 := by omega
              obtain ⟨b0, c0, hb0, g1, hbg, hb0l, hcell⟩ := hout.read j0 (by omega)
              obtain ⟨g2, g3⟩ := hcell t0 ht0L
              rw [show (rowF L (newP d L at_ (nums text) k (oldOf pieces) j0)).getD t0 0 = newP d L at_ (nums text) k (oldOf pieces) j0 t0 by simp [rowF, ht0L]] at g2
              have hob := Gf.newP_lt (d := d) (L := L) (at_ := at_) (k := k) (p := j0) (t := t0) HTB.out HOB.out (by omega) (by omega)
              obtain ⟨o, ho⟩ : ∃ o, o = newP d L at_ (nums text) k (oldOf pieces) j0 t0 := ⟨_, rfl⟩
              rw [← ho] at g2 hob
              have HO : Hid (o = newP d L at_ (nums text) k (oldOf pieces) j0 t0) := ho
              have HJT : Hid (j0 = (at_ + k) / L ∧ t0 = (at_ + k) % L) := ⟨hj0, ht0⟩
              obtain ⟨ch, hch⟩ : ∃ ch, ch = (text[k]'hkt).toNat := ⟨_, rfl⟩
              have hchb : ch < 256 := by rw [hch]; exact (text[k]'hkt).toNat_lt
              have HCH : Hid ((nums text).getD k 0 = ch) := by show _ = _; rw [hch]; exact nums_get text k hkt
              have hci : ((text[k]'hkt).toNat : Int) = (ch : Int) := by rw [hch]
              obtain ⟨by_, hby⟩ : ∃ by_, by_ = o ^^^ ch := ⟨_, rfl⟩
              have hbyb : by_ < 256 := by rw [hby]; exact Gf.xor_lt hob hchb
              have hxor : bits .xor .i64 (o : Int) (ch : Int) = (by_ : Int) := by rw [hby]; exact Gf.i64_xor _ _ (by omega) (by omega)
              have HBY : Hid (by_ = o ^^^ ch) := hby
              have HOUT : Hid (OutAt wr g (d + s) L bs us' (fun p => rowF L (newP d L at_ (nums text) k (oldOf pieces) p))) := hout
              have HFAC : Hid (Blk wr w5.heap.size 3 (intsV (rowF i fun i => Gf.inv ((d + i / d) ^^^ (i % d))))) := hfac
              have HBQ : Hid (Below w'.heap.size w' wr) := hbq
              have i1 : (j0 : Int) < ((d + s : Nat) : Int) := by omega
              have i1' : (j0 : Int) < (d : Int) + (s : Int) := by omega
              have i2 : (t0 : Int) < (L : Int) := by omega
              have i3 : (k : Int) < (text.size : Int) := by omega
              have w1 : IntKind.i64.wrap (o : Int) = o := by rw [IntKind.wrap_i64]; omega
              have w2_ : IntKind.i64.wrap (ch : Int) = ch := by rw [IntKind.wrap_i64]; omega
              clear hj0 ht0 ho hch hby hout hfac hbq hcell hpos
              go_wp2
              go_quiet (fail)
              obtain ⟨w7, hw7⟩ : ∃ w7, w7 = wr.drewN nq := ⟨_, rfl⟩
              have hb7 : Below wr.heap.size wr w7 := by rw [hw7]; exact below_drewN (Below.refl _ _) _
              rw [← hw7]
              have g1' : w7.cell? ⟨g, j0, none⟩ = some (.slice (some ⟨b0, 0, none⟩) L c0) := by rw [hw7]; exact g1
              have g2' : w7.cell? ⟨b0, t0, none⟩ = some (.int .u8 (o : Int)) := by rw [hw7]; exact g2
              have g3' : w7.frozen? ⟨b0, t0, none⟩ = false := by rw [hw7]; exact g3
              have HO7 : Hid (OutAt w7 g (d + s) L bs us' (fun p => rowF L (newP d L at_ (nums text) k (oldOf pieces) p))) := HOUT.out.to hb7
              have HF7 : Hid (Blk w7 w5.heap.size 3 (intsV (rowF i fun i => Gf.inv ((d + i / d) ^^^ (i % d))))) := HFAC.out.to hb7
              have HB7 : Hid (Below w'.heap.size w' w7) := HBQ.out.trans (hb7.mono HBQ.out.size)
              have hbg' := Ne.symm hbg
              clear hw7 g1 g2 g3 HOUT HFAC HBQ hb7
              go_wp2_with fail
              go_region_held3 (fun w' => w'.cell? ⟨g, j0, none⟩ = some (.slice (some ⟨b0, 0, none⟩) L c0)) (go_keep) (fail)
              all_goals
                have HO8 : Hid (OutAt (w7.setCell ⟨b0, t0, none⟩ (.int .u8 (ch : Int))).drew g (d + s) L bs us' (fun p => if p < d + 0 then rowF L (newP d L at_ (nums text) (k + 1) (oldOf pieces) p) else rowF L (newP d L at_ (nums text) k (oldOf pieces) p))) := by
                  have hjl : j0 < bs.length := (List.getElem?_eq_some_iff.1 hb0).1
                  have hbe : bs[j0] = b0 := (List.getElem?_eq_some_iff.1 hb0).2
                  have h1 := HO7.out.set j0 hjl t0 ch
                  rw [hbe] at h1
                  refine (h1.congr fun p hp => ?_).to (Below.refl _ _).drew
                  by_cases hpd : p < d
                  · rw [if_pos (by omega)]
                    by_cases e : p = j0
                    · subst e
                      rw [if_pos rfl, Plans.rowF_set]
                      refine Plans.rowF_congr fun t ht => ?_
                      rw [Gf.newP_data ht hpd, HCH.out]
                      unfold Plans.upd
                      by_cases e2 : t = t0
                      · rw [if_pos ⟨HJT.out.1, e2.trans HJT.out.2⟩, if_pos e2]
                      · rw [if_neg (fun h => e2 (h.2.trans HJT.out.2.symm)), if_neg e2]
                    · rw [if_neg e]
                      refine Plans.rowF_congr fun t ht => ?_
                      rw [Gf.newP_data ht hpd, if_neg (fun h => e (h.1.trans HJT.out.1.symm))]
                  · rw [if_neg (by omega), if_neg (by omega)]
                have hb0F : b0 ≠ w5.heap.size := by
                  have hjl : j0 < bs.length := (List.getElem?_eq_some_iff.1 hb0).1
                  have hbe : bs[j0] = b0 := (List.getElem?_eq_some_iff.1 hb0).2
                  rw [← hbe]; exact (HO7.out.row j0 hjl).type_ne HF7.out (by decide)
                have hb0w : w'.heap.size ≤ b0 := HLOW.out b0 (List.mem_of_getElem? hb0)
                have HF8 : Hid (Blk (w7.setCell ⟨b0, t0, none⟩ (.int .u8 (ch : Int))).drew w5.heap.size 3 (intsV (rowF i fun i => Gf.inv ((d + i / d) ^^^ (i % d))))) := (HF7.out.other (Ne.symm hb0F) _).drew
                have HB8 : Hid (Below w'.heap.size w' (w7.setCell ⟨b0, t0, none⟩ (.int .u8 (ch : Int))).drew) := (HB7.out.setCell hb0w _).drew
                obtain ⟨w8, hw8⟩ : ∃ w8, w8 = (w7.setCell ⟨b0, t0, none⟩ (.int .u8 (ch : Int))).drew := ⟨_, rfl⟩
                rw [← hw8] at HO8 HF8 HB8 ⊢
                clear hw8 g1' g2' g3' HO7 HF7 HB7
                go_wp2
                go_loopw [24] (fun rv wq => ∃ r : Nat, r ≤ s ∧ rv = .int .i64 r ∧ OutAt wq g (d + s) L bs us' (fun p => if p < d + r then rowF L (newP d L at_ (nums text) (k + 1) (oldOf pieces) p) else rowF L (newP d L at_ (nums text) k (oldOf pieces) p)) ∧ Blk wq w5.heap.size 3 (intsV (rowF i fun i => Gf.inv ((d + i / d) ^^^ (i % d)))) ∧ Below w'.heap.size w' wq) (fun rv _ => s - (intOf rv).toNat)
                case atStart => exact ⟨0, Nat.zero_le _, rfl, HO8.out, HF8.out, HB8.out⟩
                case round =>
                  clear HO8 HF8 HB8
                  obtain ⟨r, hr, rfl, hout, hfac, hbq⟩ := hrel
                  by_cases hrs : r < s
                  · obtain ⟨b1, c1, hb1, g1, hbg1, hb1l, hcell⟩ := hout.read (d + r) (by omega)
                    obtain ⟨g2, g3⟩ := hcell t0 ht0L
                    rw [if_neg (by omega), show (rowF L (newP d L at_ (nums text) k (oldOf pieces) (d + r))).getD t0 0 = newP d L at_ (nums text) k (oldOf pieces) (d + r) t0 by simp [rowF, ht0L]] at g2
                    have hvb := Gf.newP_lt (d := d) (L := L) (at_ := at_) (k := k) (p := d + r) (t := t0) HTB.out HOB.out (by omega) (by omega)
                    obtain ⟨v, hv⟩ : ∃ v, v = newP d L at_ (nums text) k (oldOf pieces) (d + r) t0 := ⟨_, rfl⟩
                    rw [← hv] at g2 hvb
                    obtain ⟨m0, hm0⟩ : ∃ m0, m0 = r * d := ⟨_, rfl⟩
                    have hmb : m0 + j0 < i := by
                      have h1 : (r + 1) * d ≤ s * d := Nat.mul_le_mul_right d (by omega)
                      rw [Nat.add_mul, Nat.one_mul] at h1
                      rw [HN.out, Nat.mul_comm d s, hm0]; omega
                    have hmi : m0 ≤ 60 := by omega
                    obtain ⟨x, hx⟩ : ∃ x, x = Gf.inv ((d + r) ^^^ j0) := ⟨_, rfl⟩
                    have hxb : x < 256 := by rw [hx]; exact Gf.inv_lt _ (Gf.xor_lt (by omega) (by omega))
                    have gf : wr.cell? ⟨w5.heap.size, m0 + j0, none⟩ = some (.int .i64 (x : Int)) := by
                      refine hfac.cell_some ?_
                      have e1 : (m0 + j0) / d = r := by rw [hm0, Nat.add_comm, Nat.add_mul_div_right _ _ (by omega), Nat.div_eq_of_lt hj0d]; omega
                      have e2 : (m0 + j0) % d = j0 := by rw [hm0, Nat.add_comm, Nat.add_mul_mod_self_right, Nat.mod_eq_of_lt hj0d]
                      simp [intsV, rowF, hmb, e1, e2, hx]
                    obtain ⟨nv, hnv⟩ : ∃ nv, nv = v ^^^ Gf.times x by_ := ⟨_, rfl⟩
                    have htb : Gf.times x by_ < 256 := Gf.times_lt _ _ hxb
                    have hnvb : nv < 256 := by rw [hnv]; exact Gf.xor_lt hvb htb
                    have hxor2 : bits .xor .i64 (v : Int) ((Gf.times x by_ : Nat) : Int) = (nv : Int) := by rw [hnv]; exact Gf.i64_xor _ _ (by omega) (by omega)
                    have HNEW : Hid (OutAt (wr.setCell ⟨b1, t0, none⟩ (.int .u8 (nv : Int))) g (d + s) L bs us' (fun p => if p < d + (r + 1) then rowF L (newP d L at_ (nums text) (k + 1) (oldOf pieces) p) else rowF L (newP d L at_ (nums text) k (oldOf pieces) p))) := by
                      have hjl : d + r < bs.length := (List.getElem?_eq_some_iff.1 hb1).1
                      have hbe : bs[d + r] = b1 := (List.getElem?_eq_some_iff.1 hb1).2
                      have h1 := hout.set (d + r) hjl t0 nv
                      rw [hbe] at h1
                      refine h1.congr fun p hp => ?_
                      by_cases e : p = d + r
                      · subst e
                        rw [if_pos (by omega), if_pos rfl, if_neg (by omega), Plans.rowF_set]
                        refine Plans.rowF_congr fun t ht => ?_
                        rw [Gf.newP_spare ht (by omega) (by omega) (by omega) (by rw [← HJT.out.1]; exact hj0d), HCH.out, ← HJT.out.1, ← HJT.out.2]
                        unfold Plans.upd
                        by_cases e2 : t = t0
                        · subst e2
                          rw [if_pos rfl, if_pos rfl, hnv, HBY.out, HO.out, hv, hx]
                        · rw [if_neg e2, if_neg e2]
                      · rw [if_neg e]
                        by_cases e3 : p < d + r
                        · rw [if_pos (by omega), if_pos e3]
                        · rw [if_neg (by omega), if_neg e3]
                    have em : (r : Int) * (d : Int) = (m0 : Int) := by rw [hm0]; simp
                    have hb1F : b1 ≠ w5.heap.size := by
                      have hjl : d + r < bs.length := (List.getElem?_eq_some_iff.1 hb1).1
                      have hbe : bs[d + r] = b1 := (List.getElem?_eq_some_iff.1 hb1).2
                      rw [← hbe]; exact (hout.row (d + r) hjl).type_ne hfac (by decide)
                    have HBF : Hid (w5.heap.size ≠ b1) := Ne.symm hb1F
                    have HB1 : Hid (w'.heap.size ≤ b1) := HLOW.out b1 (List.mem_of_getElem? hb1)
                    have HF8 : Hid (Blk wr w5.heap.size 3 (intsV (rowF i fun i => Gf.inv ((d + i / d) ^^^ (i % d))))) := hfac
                    have HB8 : Hid (Below w'.heap.size w' wr) := hbq
                    have HS : Hid (wr.drew.cell? ⟨g, d + r, none⟩ = some (.slice (some ⟨b1, 0, none⟩) L c1) ∧ wr.drew.cell? ⟨w5.heap.size, m0 + j0, none⟩ = some (.int .i64 (x : Int))) := ⟨g1, gf⟩
                    have HA : Hid ((⟨b1, t0, none⟩ : Addr) ≠ ⟨g, d + r, none⟩ ∧ (⟨b1, t0, none⟩ : Addr) ≠ ⟨w5.heap.size, m0 + j0, none⟩) := by
                      refine ⟨?_, ?_⟩ <;> intro h <;> injection h <;> omega
                    have z1 : ((d : Int) + (r : Int)).toNat = d + r := by omega
                    have z2 : ((m0 : Int) + (j0 : Int)).toNat = m0 + j0 := by omega
                    have z3 : (d : Int) + (r : Int) < (d : Int) + (s : Int) := by omega
                    have z4 : (m0 : Int) + (j0 : Int) < (i : Int) := by omega
                    have z5 : (0 : Int) ≤ (d : Int) + (r : Int) := by omega
                    have z6 : (0 : Int) ≤ (m0 : Int) + (j0 : Int) := by omega
                    have y1 : IntKind.i64.wrap (v : Int) = v := by rw [IntKind.wrap_i64]; omega
                    have y2 : IntKind.u8.wrap (nv : Int) = (nv : Int) := byte_conv _ hnvb
                    have y3 : (nv : Int) % 256 = (nv : Int) := by omega
                    have y4 : IntKind.i64.wrap (m0 : Int) = m0 := by rw [IntKind.wrap_i64]; omega
                    have y5 : IntKind.i64.wrap ((d : Int) + (r : Int)) = (d : Int) + (r : Int) := by rw [IntKind.wrap_i64]; omega
                    have y6 : IntKind.i64.wrap ((m0 : Int) + (j0 : Int)) = (m0 : Int) + (j0 : Int) := by rw [IntKind.wrap_i64]; omega
                    clear hcell hout hfac hbq hv hm0 hx hnv hb1F gf
                    go_wp2_with fail
                    refine wp_region_held (S := fun wx => wx.cell? ⟨g, d + r, none⟩ = some (.slice (some ⟨b1, 0, none⟩) L c1) ∧ wx.cell? ⟨w5.heap.size, m0 + j0, none⟩ = some (.int .i64 (x : Int))) rfl ?_
                    refine wpAnyH_take (i := 0) (v := (.slice (some ⟨g, 0, none⟩) (d + s) tc)) rfl (by kernel_rfl) (by kernel_rfl) (by kernel_rfl) (fun _ _ _ h => h) (Or.inl ⟨by rfl, fun w hw => by go_simp⟩) HS.out ?_
                    refine wpAnyH_take (i := 1) (v := (.int .i64 (d : Int))) rfl (by kernel_rfl) (by kernel_rfl) (by kernel_rfl) (fun _ _ _ h => h) (Or.inl ⟨by rfl, fun w hw => by go_simp⟩) HS.out ?_
                    refine wpAnyH_take (i := 2) (v := (.int .i64 (r : Int))) rfl (by kernel_rfl) (by kernel_rfl) (by kernel_rfl) (fun _ _ _ h => h) (Or.inl ⟨by rfl, fun w hw => by go_simp⟩) HS.out ?_
                    refine wpAnyH_take (i := 3) (v := (.int .i64 ((d : Int) + (r : Int)))) rfl (by kernel_rfl) (by kernel_rfl) (by kernel_rfl) (fun _ _ _ h => h) (Or.inl ⟨by rfl, fun w hw => by go_simp⟩) HS.out ?_
                    refine wpAnyH_take (i := 4) (v := (.pointer (some ⟨g, d + r, none⟩))) rfl (by kernel_rfl) (by kernel_rfl) (by kernel_rfl) (fun _ _ _ h => h) (Or.inl ⟨by rfl, fun w hw => by go_simp⟩) HS.out ?_
                    simp only [Act.put]
                    refine wpAnyH_take (i := 5) (v := (.slice (some ⟨b1, 0, none⟩) L c1)) rfl (by kernel_rfl) (by kernel_rfl) (by kernel_rfl) (fun _ _ _ h => h) (Or.inl ⟨by rfl, fun w hw => by obtain ⟨t1, t2⟩ := hw; go_simp⟩) HS.out ?_
                    refine wpAnyH_take (i := 6) (v := (.int .i64 (t0 : Int))) rfl (by kernel_rfl) (by kernel_rfl) (by kernel_rfl) (fun _ _ _ h => h) (Or.inl ⟨by rfl, fun w hw => by go_simp⟩) HS.out ?_
                    refine wpAnyH_take (i := 7) (v := (.slice (some ⟨g, 0, none⟩) (d + s) tc)) rfl (by kernel_rfl) (by kernel_rfl) (by kernel_rfl) (fun _ _ _ h => h) (Or.inl ⟨by rfl, fun w hw => by go_simp⟩) HS.out ?_
                    refine wpAnyH_take (i := 8) (v := (.int .i64 (d : Int))) rfl (by kernel_rfl) (by kernel_rfl) (by kernel_rfl) (fun _ _ _ h => h) (Or.inl ⟨by rfl, fun w hw => by go_simp⟩) HS.out ?_
                    refine wpAnyH_take (i := 9) (v := (.int .i64 (r : Int))) rfl (by kernel_rfl) (by kernel_rfl) (by kernel_rfl) (fun _ _ _ h => h) (Or.inl ⟨by rfl, fun w hw => by go_simp⟩) HS.out ?_
                    simp only [Act.put]
                    refine wpAnyH_take (i := 10) (v := (.int .i64 ((d : Int) + (r : Int)))) rfl (by kernel_rfl) (by kernel_rfl) (by kernel_rfl) (fun _ _ _ h => h) (Or.inl ⟨by rfl, fun w hw => by go_simp⟩) HS.out ?_
                    refine wpAnyH_take (i := 11) (v := (.pointer (some ⟨g, d + r, none⟩))) rfl (by kernel_rfl) (by kernel_rfl) (by kernel_rfl) (fun _ _ _ h => h) (Or.inl ⟨by rfl, fun w hw => by go_simp⟩) HS.out ?_
                    refine wpAnyH_take (i := 12) (v := (.slice (some ⟨b1, 0, none⟩) L c1)) rfl (by kernel_rfl) (by kernel_rfl) (by kernel_rfl) (fun _ _ _ h => h) (Or.inl ⟨by rfl, fun w hw => by obtain ⟨t1, t2⟩ := hw; go_simp⟩) HS.out ?_
                    refine wpAnyH_take (i := 13) (v := (.int .i64 (t0 : Int))) rfl (by kernel_rfl) (by kernel_rfl) (by kernel_rfl) (fun _ _ _ h => h) (Or.inl ⟨by rfl, fun w hw => by go_simp⟩) HS.out ?_
                    refine wpAnyH_take (i := 14) (v := (.pointer (some ⟨b1, t0, none⟩))) rfl (by kernel_rfl) (by kernel_rfl) (by kernel_rfl) (fun _ _ _ h => h) (Or.inl ⟨by rfl, fun w hw => by go_simp⟩) HS.out ?_
                    simp only [Act.put]
                    refine wpAnyH_take (i := 17) (v := (.slice (some ⟨w5.heap.size, 0, none⟩) i i)) rfl (by kernel_rfl) (by kernel_rfl) (by kernel_rfl) (fun _ _ _ h => h) (Or.inl ⟨by rfl, fun w hw => by go_simp⟩) HS.out ?_
                    refine wpAnyH_take (i := 18) (v := (.int .i64 (r : Int))) rfl (by kernel_rfl) (by kernel_rfl) (by kernel_rfl) (fun _ _ _ h => h) (Or.inl ⟨by rfl, fun w hw => by go_simp⟩) HS.out ?_
                    refine wpAnyH_take (i := 19) (v := (.int .i64 (d : Int))) rfl (by kernel_rfl) (by kernel_rfl) (by kernel_rfl) (fun _ _ _ h => h) (Or.inl ⟨by rfl, fun w hw => by go_simp⟩) HS.out ?_
                    refine wpAnyH_take (i := 20) (v := (.int .i64 (m0 : Int))) rfl (by kernel_rfl) (by kernel_rfl) (by kernel_rfl) (fun _ _ _ h => h) (Or.inl ⟨by rfl, fun w hw => by go_simp⟩) HS.out ?_
                    refine wpAnyH_take (i := 21) (v := (.int .i64 (j0 : Int))) rfl (by kernel_rfl) (by kernel_rfl) (by kernel_rfl) (fun _ _ _ h => h) (Or.inl ⟨by rfl, fun w hw => by go_simp⟩) HS.out ?_
                    simp only [Act.put]
                    refine wpAnyH_take (i := 22) (v := (.int .i64 ((m0 : Int) + (j0 : Int)))) rfl (by kernel_rfl) (by kernel_rfl) (by kernel_rfl) (fun _ _ _ h => h) (Or.inl ⟨by rfl, fun w hw => by go_simp⟩) HS.out ?_
                    refine wpAnyH_take (i := 23) (v := (.pointer (some ⟨w5.heap.size, m0 + j0, none⟩))) rfl (by kernel_rfl) (by kernel_rfl) (by kernel_rfl) (fun _ _ _ h => h) (Or.inl ⟨by rfl, fun w hw => by go_simp⟩) HS.out ?_
                    refine wpAnyH_take (i := 24) (v := (.int .i64 (x : Int))) rfl (by kernel_rfl) (by kernel_rfl) (by kernel_rfl) (fun _ _ _ h => h) (Or.inl ⟨by rfl, fun w hw => by obtain ⟨t1, t2⟩ := hw; go_simp⟩) HS.out ?_
                    refine wpAnyH_take (i := 25) (v := (.int .i64 (by_ : Int))) rfl (by kernel_rfl) (by kernel_rfl) (by kernel_rfl) (fun _ _ _ h => h) (Or.inl ⟨by rfl, fun w hw => by go_simp⟩) HS.out ?_
                    simp only [Act.put, List.setIfInBounds_toArray]
                    refine wpAnyH_ready (rs := [15, 26]) (by kernel_rfl) (by simp) ?_
                    refine AllReadyH.cons rfl (fun K hK => ?_) (AllReadyH.cons rfl (fun K hK => ?_) AllReadyH.nil)
                    · go_simp
                      refine hK.out _ _ HS.out (fun _ => ?_)
                      clear hK K
                      refine wpAnyH_take (i := 16) (v := (.int .i64 (v : Int))) rfl (by kernel_rfl) (by kernel_rfl) (by kernel_rfl) (fun _ _ _ h => h) (Or.inl ⟨by rfl, fun w hw => by go_simp⟩) HS.out ?_
                      simp only [Act.put, List.setIfInBounds_toArray]
                      refine wpAnyH_ready (rs := [26]) (by kernel_rfl) (by simp) ?_
                      refine AllReadyH.cons rfl (fun K hK => ?_) AllReadyH.nil
                      go_simp
                      refine (times_any x by_ hxb hbyb _).mono ?_
                      rintro e w2 ⟨rfl, rfl⟩
                      dsimp only
                      refine hK.out _ _ HS.out (fun _ => ?_)
                      clear hK K
                      refine wpAnyH_take (i := 27) (v := (.int .i64 (nv : Int))) rfl (by kernel_rfl) (by kernel_rfl) (by kernel_rfl) (fun _ _ _ h => h) (Or.inl ⟨by rfl, fun w hw => by go_simp⟩) HS.out ?_
                      refine wpAnyH_take (i := 28) (v := (.int .u8 (nv : Int))) rfl (by kernel_rfl) (by kernel_rfl) (by kernel_rfl) (fun _ _ _ h => h) (Or.inl ⟨by rfl, fun w hw => by go_simp⟩) HS.out ?_
                      refine wpAnyH_take (i := 29) (v := (.pointer (some ⟨b1, t0, none⟩))) rfl (by kernel_rfl) (by kernel_rfl) (by kernel_rfl) (fun _ _ _ h => h) (Or.inl ⟨by rfl, fun w hw => by go_simp⟩) HS.out ?_
                      simp only [Act.put, List.setIfInBounds_toArray]
                      refine wpAnyH_ready (rs := [30]) (by kernel_rfl) (by simp) ?_
                      refine AllReadyH.cons rfl (fun K hK => ?_) AllReadyH.nil
                      go_simp
                      refine hK.out _ _ ⟨(World.cell?_setCell_other _ _ _ _ HA.out.1).trans HS.out.1, (World.cell?_setCell_other _ _ _ _ HA.out.2).trans HS.out.2⟩ (fun _ => ?_)
                      clear hK K
                      refine wpAnyH_done (by kernel_rfl) ?_ _
                      go_wp2
                      go_roundw
                      case rel => exact ⟨r + 1, by omega, by go_num, HNEW.out.to (Below.refl _ _).drew, (HF8.out.other HBF.out _).drew, (HB8.out.setCell HB1.out _).drew⟩
                      case measure => simp [intOf]; omega
                    · go_simp
                      refine (times_any x by_ hxb hbyb _).mono ?_
                      rintro e w2 ⟨rfl, rfl⟩
                      dsimp only
                      refine hK.out _ _ HS.out (fun _ => ?_)
                      clear hK K
                      refine wpAnyH_ready (rs := [15]) (by kernel_rfl) (by simp) ?_
                      refine AllReadyH.cons rfl (fun K hK => ?_) AllReadyH.nil
                      go_simp
                      refine hK.out _ _ HS.out (fun _ => ?_)
                      clear hK K
                      refine wpAnyH_take (i := 16) (v := (.int .i64 (v : Int))) rfl (by kernel_rfl) (by kernel_rfl) (by kernel_rfl) (fun _ _ _ h => h) (Or.inl ⟨by rfl, fun w hw => by go_simp⟩) HS.out ?_
                      refine wpAnyH_take (i := 27) (v := (.int .i64 (nv : Int))) rfl (by kernel_rfl) (by kernel_rfl) (by kernel_rfl) (fun _ _ _ h => h) (Or.inl ⟨by rfl, fun w hw => by go_simp⟩) HS.out ?_
                      refine wpAnyH_take (i := 28) (v := (.int .u8 (nv : Int))) rfl (by kernel_rfl) (by kernel_rfl) (by kernel_rfl) (fun _ _ _ h => h) (Or.inl ⟨by rfl, fun w hw => by go_simp⟩) HS.out ?_
                      refine wpAnyH_take (i := 29) (v := (.pointer (some ⟨b1, t0, none⟩))) rfl (by kernel_rfl) (by kernel_rfl) (by kernel_rfl) (fun _ _ _ h => h) (Or.inl ⟨by rfl, fun w hw => by go_simp⟩) HS.out ?_
                      simp only [Act.put, List.setIfInBounds_toArray]
                      refine wpAnyH_ready (rs := [30]) (by kernel_rfl) (by simp) ?_
                      refine AllReadyH.cons rfl (fun K hK => ?_) AllReadyH.nil
                      go_simp
                      refine hK.out _ _ ⟨(World.cell?_setCell_other _ _ _ _ HA.out.1).trans HS.out.1, (World.cell?_setCell_other _ _ _ _ HA.out.2).trans HS.out.2⟩ (fun _ => ?_)
                      clear hK K
                      refine wpAnyH_done (by kernel_rfl) ?_ _
                      go_wp2
                      go_roundw
                      case rel => exact ⟨r + 1, by omega, by go_num, HNEW.out.to (Below.refl _ _).drew, (HF8.out.other HBF.out _).drew, (HB8.out.setCell HB1.out _).drew⟩
                      case measure => simp [intOf]; omega
                  · obtain rfl : r = s := by omega
                    have HO9 : Hid (OutAt wr g (d + r) L bs us' (fun p => rowF L (newP d L at_ (nums text) (k + 1) (oldOf pieces) p))) := hout.congr fun p hp => by rw [if_pos hp]
                    have HF9 : Hid (Blk wr w5.heap.size 3 (intsV (rowF i fun i => Gf.inv ((d + i / d) ^^^ (i % d))))) := hfac
                    have HB9 : Hid (Below w'.heap.size w' wr) := hbq
                    clear hout hfac hbq
                    go_wp2
                    go_roundw
                    case rel => exact ⟨k + 1, by omega, by go_num, HO9.out, HF9.out, HB9.out⟩
                    case measure => simp [intOf]; omega
            · obtain rfl : k = text.size := by omega
              obtain ⟨w9, rfl⟩ : ∃ w9, w9 = wr := ⟨_, rfl⟩
              obtain ⟨ls, hls⟩ : ∃ ls, ls = (List.range (d + s)).map fun p => rowF L (newP d L at_ (nums text) text.size (oldOf pieces) p) := ⟨_, rfl⟩
              have hlsl : ls.length = d + s := by rw [hls]; simp
              have HLS : Hid (ls.length = d + s) := hlsl
              have HLA : Hid (∀ p, (h : p < ls.length) → ls[p] = rowF L (newP d L at_ (nums text) text.size (oldOf pieces) p)) := fun p h => by simp [hls]
              have HOUT : Hid (OutAt w9 g (d + s) L bs us' (fun p => rowF L (newP d L at_ (nums text) text.size (oldOf pieces) p))) := hout
              have HBQ : Hid (Below w'.heap.size w' w9) := hbq
              have HLD : Hid (((List.range (d + s)).map fun p => mkS (rowF L (newP d L at_ (nums text) text.size (oldOf pieces) p))) = ls.map mkS) := by show _ = _; rw [hls, List.map_map]; rfl
              clear hls hlsl hout hbq hfac
              go_wp2
              go_loopw [25, 26] (fun t qv wq => ∃ q : Nat, q ≤ d + s ∧ qv = .int .i64 q ∧ wq.ownsRow w9.heap.size 9 1 t q (strsTo ls q) ∧ Below w9.heap.size w9 wq) (fun _ qv _ => d + s - (intOf qv).toNat)
              case atStart => exact ⟨0, Nat.zero_le _, rfl, World.ownsRow_nil _ _ _ _, Below.refl _ _⟩
              case round =>
                obtain ⟨q, hq, rfl, hown, hbel9⟩ := hrel
                by_cases hqd : q < d + s
                · obtain ⟨b1, c1, hb1, g1, hbg1, hb1l, hcell⟩ := (HOUT.out.to hbel9).read q hqd
                  have hql : q < ls.length := by rw [HLS.out]; exact hqd
                  have HBS : Hid (BsAt wr (.slice (some ⟨b1, 0, none⟩) L c1) ls[q]) := by
                    have hll : ls[q].length = L := by rw [HLA.out q hql]; simp
                    refine ⟨_, c1, by rw [hll], .inr ⟨b1, 0, rfl, hb1l, fun t ht => ?_⟩⟩
                    rw [Nat.zero_add, (hcell t (by omega)).1]
                    simp only [HLA.out q hql]
                    simp [rowF, show t < L by omega]
                  have HNX : Hid (strsTo ls q ++ [.string (mkS ls[q])] = strsTo ls (q + 1)) := strsTo_next ls q hql
                  have hsz9 := hbel9.size
                  obtain ⟨ta, tc2, rfl⟩ := owns_slice hown
                  clear hcell
                  go_wp2_with (first | (at_builtin; refine wpList_append_one _ rfl _ _ 48 rfl w9.heap.size 9 (.string ByteArray.empty) 16 Tryz.underlying48 infoStr rfl (by decide) _ q _ rfl (hown.alloc _) ⟨wr.heap.size, 0, none⟩ 1 (.string (mkS ls[q])) rfl ((Blk.new wr _ _).cell_some rfl) rfl (by omega) (by simp; omega) ?_; rw [HNX.out]; intro v' w2 hown' hbel') | refine wpList_convert _ rfl 85 9 _ rfl (.slice (some ⟨b1, 0, none⟩) L c1) (.string (mkS ls[q])) rfl (conv_str _ _ _ HBS.out) ?_)
                  go_roundw
                  case rel => exact ⟨q + 1, by omega, by go_num, hown', hbel' _ _ (hbel9.alloc hsz9 _) (Nat.le_refl _)⟩
                  case measure => simp [intOf]; omega
                · obtain rfl : q = d + s := by omega
                  have HST : Hid (StrsNew wr w9.heap.size _ (ls.map mkS)) := StrsNew.of_owns (base := w9.heap.size) (t := 9) (n := d + s) (by
                    have e : strsTo ls (d + s) = (ls.map mkS).map Value.string := by
                      unfold strsTo
                      rw [List.take_of_length_le (by have := HLS.out; omega)]
                    rw [← e]; exact hown)
                  go_wp2
                  go_ret2
                  exact ⟨_, rfl, by rw [HLD.out]; exact HST.out.low HBQ.out.size, HBQ.out.trans (hbel9.mono HBQ.out.size)⟩
end Go.Proofs.YtokmllopbfmadaaGreatDoor.Ref
