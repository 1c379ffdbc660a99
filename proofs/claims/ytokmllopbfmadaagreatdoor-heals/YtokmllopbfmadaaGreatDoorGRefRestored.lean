import Derived.Test.YtokmllopbfmadaaGreatDoorGSolved
import Derived.OwnWalk
namespace Go.Proofs.YtokmllopbfmadaaGreatDoor.Ref
open Go.RowKit Mem FieldWalks Tab ByTab Parts
open Gf (Bytes sumTo addTo rowOf dot Gauss outOf chosen left_ Fits colOf)
open Plans (But intsV infoInt rowF rowF_length wpList_append_row grown_keeps made_cells owns_form)

theorem infoRow : (Tryz.prog.info? 130).map (fun i => (i.zero, i.size, i.bytes)) = some (some (.agg #[.slice none 0 0, .slice none 0 0]), 2, 48) := by kernel_rfl
/-- The equation of piece p. -/
def eqOf (d : Nat) (pieces : List ByteArray) (p : Nat) : Eqn := (eqF d p, nums (pieces.getD p ByteArray.empty))
/-- Those that are left, below p. -/
def leftTo (lost : List Int) (p : Nat) : List Nat := (List.range p).filter (left_ lost)
theorem leftTo_next (lost : List Int) (p : Nat) : leftTo lost (p + 1) = leftTo lost p ++ if left_ lost p then [p] else [] := by
  unfold leftTo
  rw [List.range_succ, List.filter_append]
  cases h : left_ lost p <;> simp [h]
theorem leftTo_chosen (lost : List Int) (d s p : Nat) (hp : p ≤ d + s) (hl : (leftTo lost p).length = d) : chosen (left_ lost) d s = leftTo lost p := by
  unfold chosen
  obtain ⟨m, hm⟩ : ∃ m, d + s = p + m := ⟨d + s - p, by omega⟩
  rw [hm, List.range_add, List.filter_append, List.take_append]
  have : ((List.range p).filter (left_ lost)).length = d := hl
  rw [this, Nat.sub_self, List.take_zero, List.append_nil, List.take_of_length_le (by omega)]
  rfl
theorem leftTo_le (lost : List Int) (p q : Nat) (h : p ≤ q) : (leftTo lost p).length ≤ (leftTo lost q).length := by
  obtain ⟨m, rfl⟩ : ∃ m, q = p + m := ⟨q - p, by omega⟩
  unfold leftTo
  rw [List.range_add, List.filter_append, List.length_append]; omega
/-- The cells of the equations that were made. -/
def CellsOf (w : World) (base : Nat) (R : List Eqn) (cs : List Value) : Prop :=
  ∀ r, (h : r < R.length) → ∃ f v, cs[r * 2]? = some f ∧ cs[r * 2 + 1]? = some v ∧ NsP (fun b => base ≤ b) w f R[r].1 ∧ NsP (fun b => base ≤ b) w v R[r].2
theorem CellsOf.to {w w' : World} {base : Nat} {R : List Eqn} {cs : List Value} (h : CellsOf w base R cs) (hb : Below w.heap.size w w') : CellsOf w' base R cs := fun r hr => by
  obtain ⟨f, v, h1, h2, h3, h4⟩ := h r hr
  exact ⟨f, v, h1, h2, h3.to hb, h4.to hb⟩
theorem NsP.grown {P : Nat → Prop} {w w' : World} {base size n : Nat} {e : TypeId} {u : Value} {xs : List Value} {v : Value} {l : List Nat} (h : w.ownsRow base e size u n xs) (hg : w.grownBy w' u.ownBlock) (hi : NsP P w v l) (ht : 3 ≠ e) : NsP P w' v l := by
  obtain ⟨ao, cap, rfl, hx⟩ := hi
  refine ⟨ao, cap, rfl, ?_⟩
  rcases hx with hx | ⟨g, us, rfl, hp, hb, hc⟩
  · exact .inl hx
  · exact .inr ⟨g, us, rfl, hp, grown_keeps h hg hb ht, hc⟩
theorem CellsOf.add {w : World} {base : Nat} {R : List Eqn} {cs : List Value} (h : CellsOf w base R cs) (hl : cs.length = R.length * 2) (e : Eqn) (f v : Value) (h1 : NsP (fun b => base ≤ b) w f e.1) (h2 : NsP (fun b => base ≤ b) w v e.2) : CellsOf w base (R ++ [e]) (cs ++ [f, v]) := by
  intro r hr
  by_cases e1 : r < R.length
  · obtain ⟨a, b, c1, c2, c3, c4⟩ := h r e1
    refine ⟨a, b, by rw [List.getElem?_append_left (by omega)]; exact c1, by rw [List.getElem?_append_left (by omega)]; exact c2, ?_, ?_⟩
    · rw [List.getElem_append_left e1]; exact c3
    · rw [List.getElem_append_left e1]; exact c4
  · have : r = R.length := by simp at hr; omega
    subst this
    refine ⟨f, v, by rw [List.getElem?_append_right (by omega)]; simp [hl], by rw [List.getElem?_append_right (by omega)]; simp [hl], ?_, ?_⟩
    · simpa using h1
    · simpa using h2
theorem CellsOf.rows {w : World} {base cap g : Nat} {R : List Eqn} {cs : List Value} (h : CellsOf w base R cs) (hown : w.ownsRow base 130 2 (.slice (some ⟨g, 0, none⟩) R.length cap) R.length cs) (hpos : 0 < R.length) : RowsIn w.heap.size w g R ∧ base ≤ g := by
  obtain ⟨_, h2⟩ := hown
  rcases h2 with ⟨h0, h1⟩ | ⟨g', cap', cur, hv, hg, hh, _, _, _, ht⟩
  · omega
  · injection hv with hv _ _
    injection hv with hv
    injection hv with hv
    subst hv
    refine ⟨⟨cur.toList, by unfold Blk; rw [hh], fun r hr => ?_⟩, hg⟩
    obtain ⟨f, v, c1, c2, c3, c4⟩ := h r hr
    rw [← ht] at c1 c2
    rw [List.getElem?_take_of_lt (by omega)] at c1 c2
    exact ⟨f, v, c1, c2, c3.mono fun b hb _ => by omega, c4.mono fun b hb _ => by omega⟩

theorem NsP.slice_one {P : Nat → Prop} {w : World} {v : Value} {l : List Nat} (h : NsP P w v l) : v.oneCell' = true := by
  obtain ⟨ao, cap, rfl, _⟩ := h; rfl
theorem owns_some {w : World} {base : Nat} {e : TypeId} {v : Value} {n : Nat} {xs : List Value} (h : w.ownsRow base e 2 v n xs) (hn : 0 < n) : ∃ g c, v = .slice (some ⟨g, 0, none⟩) n c := by
  rcases h.2 with ⟨rfl, h0⟩ | ⟨g, cap, cur, rfl, _⟩
  · omega
  · exact ⟨_, _, rfl⟩
theorem eqF_at (d p k : Nat) (hk : k < d) : (eqF d p).getD k 0 = rowOf d p k := by simp [eqF, rowF, hk]
theorem eqF_bytes (d p : Nat) (hd : d ≤ 256) (hp : p < 256) : Bytes (eqF d p) := by
  intro x hx
  simp only [eqF, rowF, List.mem_map, List.mem_range] at hx
  obtain ⟨k, hk, rfl⟩ := hx
  exact Gf.rowOf_lt d p k hp (by omega)
theorem eqs_neat {d s L : Nat} {pieces : List ByteArray} {lost : List Int} (hok : ShapeOk d s L pieces lost) (hll : lost.length ≤ s) (hds : d + s ≤ 256) : Neat d L ((chosen (left_ lost) d s).map (eqOf d pieces)) := by
  have hc : (chosen (left_ lost) d s).length = d := Gf.chosen_length _ _ _ (Gf.enough d s lost hll)
  have key : ∀ r, (h : r < ((chosen (left_ lost) d s).map (eqOf d pieces)).length) → ∃ p, p < d + s ∧ left_ lost p = true ∧ ((chosen (left_ lost) d s).map (eqOf d pieces))[r] = eqOf d pieces p := by
    intro r h
    have h' : r < (chosen (left_ lost) d s).length := by simpa using h
    have := Gf.chosen_lt (left_ lost) d s _ (List.getElem_mem h')
    exact ⟨_, this.1, this.2, by simp⟩
  have hcn := hok.count
  refine ⟨by simp [hc], fun r h => ?_, fun r h => ?_, fun r h => ?_, fun r h => ?_⟩
  · obtain ⟨p, _, _, e⟩ := key r h; rw [e]; exact eqF_length d p
  · obtain ⟨p, hp, hN, e⟩ := key r h
    rw [e]
    show (nums _).length = L
    have hpl : p < pieces.length := by omega
    rw [nums_length, show pieces.getD p ByteArray.empty = pieces[p] by simp [hpl]]
    exact hok.sizes p hpl (by simpa [left_] using hN)
  · obtain ⟨p, hp, _, e⟩ := key r h; rw [e]; exact eqF_bytes d p (by omega) (by omega)
  · obtain ⟨p, _, _, e⟩ := key r h; rw [e]; exact nums_bytes _
theorem eqs_F {d : Nat} {pieces : List ByteArray} {P : List Nat} (q : Nat) (hq : q < P.length) (k : Nat) (hk : k < d) : Fof (P.map (eqOf d pieces)) q k = rowOf d P[q] k := by
  rw [Fof_eq (by simpa using hq)]
  simp only [List.getElem_map]
  exact eqF_at d _ k hk
theorem eqs_V {d : Nat} {pieces : List ByteArray} {P : List Nat} (q : Nat) (hq : q < P.length) (t : Nat) : Vof (P.map (eqOf d pieces)) q t = (nums (pieces.getD P[q] ByteArray.empty)).getD t 0 := by
  rw [Vof_eq (by simpa using hq)]
  simp only [List.getElem_map]
  rfl
theorem eqs_ker {d s : Nat} {pieces : List ByteArray} {lost : List Int} (hll : lost.length ≤ s) (hds : d + s ≤ 256) (x : Nat → Nat) (hx : ∀ k, x k < 256) (h : ∀ r, r < d → dot d (Fof ((chosen (left_ lost) d s).map (eqOf d pieces)) r) x = 0) : ∀ k, k < d → x k = 0 := by
  have hc : (chosen (left_ lost) d s).length = d := Gf.chosen_length _ _ _ (Gf.enough d s lost hll)
  refine Gf.chosen_ker (left_ lost) d s hds (Gf.enough d s lost hll) x hx fun p hp => ?_
  obtain ⟨r, hr, rfl⟩ := List.mem_iff_getElem.1 hp
  rw [← h r (by omega)]
  exact Gf.dot_congr (fun k hk => (eqs_F (pieces := pieces) r hr k hk).symm) fun _ _ => rfl
theorem eqs_fits {d s L : Nat} {pieces : List ByteArray} {lost : List Int} {ps : List (List Nat)} (hll : lost.length ≤ s) (hlen : ps.length = d) (h1 : ∀ j, (h : j < ps.length) → ps[j].length = L) (h2 : ∀ j, (h : j < ps.length) → Bytes ps[j])
    (h3 : ∀ q, q < d → ∀ t, t < L → dot d (Fof ((chosen (left_ lost) d s).map (eqOf d pieces)) q) (colOf ps t) = Vof ((chosen (left_ lost) d s).map (eqOf d pieces)) q t) : Fits d L (chosen (left_ lost) d s) (fun p => nums (pieces.getD p ByteArray.empty)) ps := by
  have hc : (chosen (left_ lost) d s).length = d := Gf.chosen_length _ _ _ (Gf.enough d s lost hll)
  refine ⟨hlen, h1, h2, fun p hp t ht => ?_⟩
  obtain ⟨r, hr, rfl⟩ := List.mem_iff_getElem.1 hp
  have := h3 r (by omega) t ht
  rw [eqs_V r hr t] at this
  rw [← this]
  exact Gf.dot_congr (fun k hk => (eqs_F (pieces := pieces) r hr k hk).symm) fun _ _ => rfl

theorem solve_part {w wr : World} {d s L p tc : Nat} {ta : Option Addr} {pieces : List ByteArray} {lost : List Int} {cs : List Value} (hok : ShapeOk d s L pieces lost) (hll : lost.length ≤ s) (hd : 1 ≤ d) (hd2 : d ≤ 10) (hs : s ≤ 6) (hL : L ≤ 400) (hp : p ≤ d + s) (hn : (leftTo lost p).length = d)
    (hce : CellsOf wr w.heap.size ((leftTo lost p).map (eqOf d pieces)) cs) (how : wr.ownsRow w.heap.size 130 2 (.slice ta d tc) d cs) :
    ∃ g c, Value.slice ta d tc = .slice (some ⟨g, 0, none⟩) d c ∧ w.heap.size ≤ g ∧ Calls Tryz.prog 84 #[.slice (some ⟨g, 0, none⟩) d c] wr fun e w' =>
      ∃ v ps, e = .returned v ∧ RowsAt w' v ps ∧ Fits d L (chosen (left_ lost) d s) (fun p => nums (pieces.getD p ByteArray.empty)) ps ∧ But g wr w' := by
  obtain ⟨g, c, he⟩ := owns_some how (by omega)
  rw [he] at how
  have hlen : ((leftTo lost p).map (eqOf d pieces)).length = d := by simp [hn]
  have how' : wr.ownsRow w.heap.size 130 2 (.slice (some ⟨g, 0, none⟩) ((leftTo lost p).map (eqOf d pieces)).length c) ((leftTo lost p).map (eqOf d pieces)).length cs := by rw [hlen]; exact how
  obtain ⟨hrows, hgb⟩ := hce.rows how' (by omega)
  rw [← leftTo_chosen lost d s p hp hn] at hrows
  refine ⟨g, c, he, hgb, ?_⟩
  refine (solved_any d L g c _ wr (eqs_neat hok hll (by omega)) (eqs_ker hll (by omega)) hrows hd hd2 (by omega)).mono ?_
  rintro e w' ⟨v, ps, he, h1, h2, h3, h4, h5, h6⟩
  exact ⟨v, ps, he, h1, eqs_fits hll h2 h3 h4 h5, h6⟩

set_option maxRecDepth 100000 in
set_option maxHeartbeats 2000000 in
theorem restored_any (d s L : Nat) (pieces : List ByteArray) (lost : List Int) (pv lv : Value) (w : World) (hp : StrsAt w pv pieces) (hl : IsC w lv lost) (hll : lost.length ≤ s) (hok : ShapeOk d s L pieces lost) (hd : 1 ≤ d) (hd2 : d ≤ 10) (hs : s ≤ 6) (hL : L ≤ 400) :
    Calls Tryz.prog 66 #[.int .i64 d, pv, lv] w fun e w' =>
      ∃ v ps, e = .returned v ∧ RowsAt w' v ps ∧ Fits d L (chosen (left_ lost) d s) (fun p => nums (pieces.getD p ByteArray.empty)) ps ∧ Below w.heap.size w w' := by
  have hcn := hok.count
  have HL : Hid (IsC w lv lost) := hl
  obtain ⟨pb, poff, pcap, rfl, hplt, hpc⟩ : ∃ b off cap, pv = .slice (some ⟨b, off, none⟩) pieces.length cap ∧ b < w.heap.size ∧ ∀ k, (h : k < pieces.length) → w.cell? ⟨b, off + k, none⟩ = some (.string pieces[k]) := by
    obtain ⟨ao, cap, rfl, h⟩ := hp
    rcases h with h | ⟨b, off, rfl, h1, h2⟩
    · rw [h] at hcn; simp at hcn; omega
    · exact ⟨b, off, cap, rfl, h1, h2⟩
  have HPC : Hid (∀ k, (h : k < pieces.length) → w.cell? ⟨pb, poff + k, none⟩ = some (.string pieces[k])) := hpc
  have HOK : Hid (ShapeOk d s L pieces lost) := hok
  rw [hcn]
  have HCN : Hid (pieces.length = d + s) := hcn
  have HLL : Hid (lost.length ≤ s) := hll
  have hll2 : lost.length < 2 ^ 62 := by omega
  obtain ⟨lao, lex, rfl, _⟩ := hl
  clear hpc hp hok hcn hll
  go_enter Tryz.func66, Tryz.ntmps66
  go_wp2
  go_loopw [7, 8] (fun t i wr => ∃ (p : Nat) (cs : List Value), p ≤ d + s ∧ i = .int .i64 p ∧ (leftTo lost p).length ≤ d ∧ wr.ownsRow w.heap.size 130 2 t (leftTo lost p).length cs ∧ Hid (cs.length = ((leftTo lost p).map (eqOf d pieces)).length * 2) ∧ CellsOf wr w.heap.size ((leftTo lost p).map (eqOf d pieces)) cs ∧ Below w.heap.size w wr) (fun _ i _ => d + s - (intOf i).toNat)
  case atStart => exact ⟨0, [], Nat.zero_le _, rfl, by simp [leftTo], World.ownsRow_nil _ _ _ _, by simp [leftTo, Hid], fun r hr => by simp [leftTo] at hr, Below.refl _ _⟩
  case round =>
    obtain ⟨p, cs, hp, rfl, hn, hown, hcl, hcells, hbel⟩ := hrel
    obtain ⟨n, hne⟩ : ∃ n, n = (leftTo lost p).length := ⟨_, rfl⟩
    rw [← hne] at hown hn
    obtain ⟨ta, tc, rfl⟩ := owns_form hown
    have HNE : Hid (n = (leftTo lost p).length) := hne
    have HCE : Hid (CellsOf wr w.heap.size ((leftTo lost p).map (eqOf d pieces)) cs) := hcells
    have HOW : Hid (wr.ownsRow w.heap.size 130 2 (.slice ta n tc) n cs) := hown
    have hsz := hbel.size
    clear hne hcells
    by_cases hpd : p < d + s
    · have e1 : decide ((p : Int) < (d : Int) + (s : Int)) = true := decide_eq_true (by omega)
      have hpl : p < pieces.length := by rw [HCN.out]; exact hpd
      by_cases hnd : n < d
      · have e2 : decide ((n : Int) < (d : Int)) = true := decide_eq_true (by omega)
        obtain ⟨gn, hgn⟩ : ∃ gn : Bool, gn = decide ((p : Int) ∈ lost) := ⟨_, rfl⟩
        have HGN : Hid (gn = decide ((p : Int) ∈ lost)) := hgn
        have c1 := HPC.out p hpl
        rw [← hbel.cell (p := ⟨pb, poff + p, none⟩) hplt] at c1
        obtain ⟨x, hx⟩ : ∃ x, x = pieces[p] := ⟨_, rfl⟩
        rw [← hx] at c1
        have HX : Hid (x = pieces[p]) := hx
        clear hgn hx hown
        go_wp2_with fail
        refine (within_any lost p _ _ (by exact HL.out.to hbel) hll2).mono ?_
        rintro e w2 ⟨rfl, rfl⟩
        rw [← HGN.out]
        cases gn
        · have HLF : Hid (left_ lost p = true) := by show _ = _; have := HGN.out; simpa [left_] using this
          have hxs : x.size ≤ 1000 := by
            have := HOK.out.sizes p hpl (by have := HGN.out; simpa using this)
            rw [HX.out]; omega
          have HLN : Hid (leftTo lost (p + 1) = leftTo lost p ++ [p]) := by show _ = _; rw [leftTo_next, HLF.out]; rfl
          have HEQ : Hid (eqOf d pieces p = (eqF d p, nums x)) := by
            show _ = _
            rw [HX.out]; simp [eqOf, hpl]
          clear hll2
          obtain ⟨w1, rfl⟩ : ∃ w1, w1 = w2 := ⟨_, rfl⟩
          go_wp2_with fail
          refine (equation_any d p x _ hd hd2 (by omega) hxs).mono ?_
          rintro e w2 ⟨fv, vv, rfl, hfv, hvv, hb2⟩
          obtain ⟨fa, fc, rfl⟩ := hfv.form
          obtain ⟨va, vc, rfl⟩ := hvv.form
          have hown2 := ownsRow_to HOW.out hb2
          have hbel2 : Below w.heap.size w w2 := hbel.trans (hb2.mono hsz)
          have hsz2 := hbel2.size
          have HCA : Hid (CellsOf w2 w.heap.size ((leftTo lost (p + 1)).map (eqOf d pieces)) (cs ++ [.slice fa (eqF d p).length fc, .slice va (nums x).length vc])) := by
            show CellsOf _ _ _ _
            rw [HLN.out, List.map_append, List.map_cons, List.map_nil, HEQ.out]
            exact (HCE.out.to hb2).add hcl _ _ _ (hfv.mono fun b _ hb => Nat.le_trans hsz hb) (hvv.mono fun b _ hb => Nat.le_trans hsz hb)
          have HCL : Hid ((cs ++ [Value.slice fa (eqF d p).length fc, .slice va (nums x).length vc]).length = ((leftTo lost (p + 1)).map (eqOf d pieces)).length * 2) := by
            show _ = _
            have := hcl.out
            rw [HLN.out, List.length_append, this]
            simp; omega
          have HN1 : Hid (n + 1 = (leftTo lost (p + 1)).length) := by
            show _ = _
            rw [HLN.out, HNE.out]; simp
          have HHV : Hid (hcl = hcl) := rfl
          obtain ⟨cs2, hcs2⟩ : ∃ cs2, cs2 = cs ++ [Value.slice fa (eqF d p).length fc, .slice va (nums x).length vc] := ⟨_, rfl⟩
          have HC2 : Hid (cs ++ [Value.slice fa (eqF d p).length fc, .slice va (nums x).length vc] = cs2) := hcs2.symm
          rw [← hcs2] at HCA HCL
          clear hfv hvv hcs2 HHV hcl
          generalize (eqF d p).length = lf at *
          generalize (nums x).length = lx at *
          go_wp2_with (at_builtin; refine wpList_append_row _ rfl _ _ 128 rfl w.heap.size 130 (.agg #[.slice none 0 0, .slice none 0 0]) 2 48 Tryz.underlying128 infoRow rfl (by decide) (by decide) _ _ _ rfl (by exact hown2.alloc _) ⟨w2.heap.size, 0, none⟩ 1 [.slice fa lf fc, .slice va lx vc] rfl rfl (made_cells w2 130 _) (by simp [Value.oneCell']) (by omega) (by simp; omega) ?_; rw [HC2.out]; intro v' w3 hown' hg hbel')
          have HC3 : Hid (CellsOf w3 w.heap.size ((leftTo lost (p + 1)).map (eqOf d pieces)) cs2) := by
            intro r hr
            obtain ⟨f, v, q1, q2, q3, q4⟩ := (HCA.out.to ((Below.refl _ _).alloc (Nat.le_refl _) (.cells [Value.slice fa lf fc, .slice va lx vc].toArray 130))) r hr
            exact ⟨f, v, q1, q2, NsP.grown (by exact hown2.alloc _) hg q3 (by decide), NsP.grown (by exact hown2.alloc _) hg q4 (by decide)⟩
          have HB3 : Hid (Below w.heap.size w w3) := hbel' _ _ (hbel2.alloc hsz2 _) (Nat.le_refl _)
          clear hg hbel'
          go_roundw
          case rel => exact ⟨p + 1, cs2, by omega, by go_num, by rw [← HN1.out]; omega, by rw [← HN1.out]; exact hown', HCL.out, HC3.out, HB3.out⟩
          case measure => simp [intOf]; omega
        · have HLF : Hid (leftTo lost (p + 1) = leftTo lost p) := by
            show _ = _
            have := HGN.out
            rw [leftTo_next, show left_ lost p = false by simpa [left_] using this.symm]; simp
          go_wp2
          go_roundw
          case rel => exact ⟨p + 1, cs, by omega, by go_num, by rw [HLF.out, ← HNE.out]; exact hn, by rw [HLF.out, ← HNE.out]; exact HOW.out, by rw [HLF.out]; exact hcl, by rw [HLF.out]; exact HCE.out, hbel⟩
          case measure => simp [intOf]; omega
      · have e2 : decide ((n : Int) < (d : Int)) = false := decide_eq_false (by omega)
        obtain rfl : n = d := by omega
        have HSV : Hid (∃ g c, Value.slice ta n tc = .slice (some ⟨g, 0, none⟩) n c ∧ w.heap.size ≤ g ∧ Calls Tryz.prog 84 #[.slice (some ⟨g, 0, none⟩) n c] wr fun e w' =>
            ∃ v ps, e = .returned v ∧ RowsAt w' v ps ∧ Fits n L (chosen (left_ lost) n s) (fun p => nums (pieces.getD p ByteArray.empty)) ps ∧ But g wr w') := solve_part HOK.out HLL.out hd hd2 hs hL hp HNE.out.symm HCE.out HOW.out
        clear hown
        obtain ⟨g, c, hte, hgb, hcall⟩ := HSV.out
        injection hte with t1 t2 t3
        subst t1 t3
        have HCALL : Hid (Calls Tryz.prog 84 #[.slice (some ⟨g, 0, none⟩) n tc] wr fun e w' =>
            ∃ v ps, e = .returned v ∧ RowsAt w' v ps ∧ Fits n L (chosen (left_ lost) n s) (fun p => nums (pieces.getD p ByteArray.empty)) ps ∧ But g wr w') := hcall
        clear hcall HSV t2
        go_wp2_with fail
        refine Calls.mono HCALL.out ?_
        rintro e w2 ⟨v, ps, rfl, hra, hfit, hbut⟩
        go_wp2
        go_ret
        exact ⟨v, ps, rfl, hra, hfit, hbut.below hbel hgb hsz⟩
    · have e1 : decide ((p : Int) < (d : Int) + (s : Int)) = false := decide_eq_false (by omega)
      have hnd : n = d := by
        have h1 := Gf.enough d s lost HLL.out
        have h2 := HNE.out
        rw [show p = d + s by omega] at h2
        unfold leftTo at h2
        omega
      subst hnd
      have HSV : Hid (∃ g c, Value.slice ta n tc = .slice (some ⟨g, 0, none⟩) n c ∧ w.heap.size ≤ g ∧ Calls Tryz.prog 84 #[.slice (some ⟨g, 0, none⟩) n c] wr fun e w' =>
          ∃ v ps, e = .returned v ∧ RowsAt w' v ps ∧ Fits n L (chosen (left_ lost) n s) (fun p => nums (pieces.getD p ByteArray.empty)) ps ∧ But g wr w') := solve_part HOK.out HLL.out hd hd2 hs hL hp HNE.out.symm HCE.out HOW.out
      clear hown
      obtain ⟨g, c, hte, hgb, hcall⟩ := HSV.out
      injection hte with t1 t2 t3
      subst t1 t3
      have HCALL : Hid (Calls Tryz.prog 84 #[.slice (some ⟨g, 0, none⟩) n tc] wr fun e w' =>
          ∃ v ps, e = .returned v ∧ RowsAt w' v ps ∧ Fits n L (chosen (left_ lost) n s) (fun p => nums (pieces.getD p ByteArray.empty)) ps ∧ But g wr w') := hcall
      clear hcall HSV t2
      go_wp2_with fail
      refine Calls.mono HCALL.out ?_
      rintro e w2 ⟨v, ps, rfl, hra, hfit, hbut⟩
      go_wp2
      go_ret
      exact ⟨v, ps, rfl, hra, hfit, hbut.below hbel hgb hsz⟩
end Go.Proofs.YtokmllopbfmadaaGreatDoor.Ref

namespace Go.Proofs.YtokmllopbfmadaaGreatDoor.Ref
open Go.RowKit Mem FieldWalks Tab ByTab Parts
open Gf (Bytes sumTo addTo chosen left_ Fits)

/-- With an error all else is empty. -/
def GNo (k : Int) (e : Ending) : Prop := e = .returned (.tuple #[.string ByteArray.empty, .slice none 0 0, .int .i64 k])
theorem gno_rfl (k : Int) : GNo k (.returned (.tuple #[.string ⟨#[]⟩, .slice none 0 0, .int .i64 k])) := rfl

set_option maxRecDepth 100000 in
set_option maxHeartbeats 400000 in
theorem rGather_count (d s x n : Int) (pv lv : Value) (h : okCounts d s = false) (w : World) :
    Calls Tryz.prog 38 #[.int .i64 d, .int .i64 s, .int .i64 x, .int .i64 n, pv, lv] w fun e w' => GNo 3 e ∧ w' = w := by
  go_enter Tryz.func38, Tryz.ntmps38
  go_wp2_with fail
  refine (rCounts_any _ _ _).mono ?_
  rintro e w' ⟨rfl, rfl⟩
  go_wp2
  go_ret3
  exact ⟨rfl, rfl⟩
set_option maxRecDepth 100000 in
set_option maxHeartbeats 400000 in
theorem rGather_way (d s x n : Int) (pv lv : Value) (h1 : okCounts d s = true) (h : okWay x = false) (w : World) :
    Calls Tryz.prog 38 #[.int .i64 d, .int .i64 s, .int .i64 x, .int .i64 n, pv, lv] w fun e w' => GNo 4 e ∧ w' = w := by
  go_enter Tryz.func38, Tryz.ntmps38
  go_wp2_with fail
  refine (rCounts_any _ _ _).mono ?_
  rintro e w' ⟨rfl, rfl⟩
  go_wp2_with fail
  refine (rWay_any _ _).mono ?_
  rintro e w' ⟨rfl, rfl⟩
  go_wp2
  go_ret3
  exact ⟨rfl, rfl⟩
set_option maxRecDepth 100000 in
set_option maxHeartbeats 1000000 in
theorem rGather_long (d s x n : Int) (pv lv : Value) (h1 : okCounts d s = true) (h2 : okWay x = true) (h : ¬ (0 ≤ n ∧ n ≤ 400)) (w : World) :
    Calls Tryz.prog 38 #[.int .i64 d, .int .i64 s, .int .i64 x, .int .i64 n, pv, lv] w fun e w' => GNo 5 e ∧ w' = w := by
  by_cases h0 : n < 0
  · have e1 : decide (n < 0) = true := decide_eq_true h0
    go_enter Tryz.func38, Tryz.ntmps38
    go_wp2_with fail
    refine (rCounts_any _ _ _).mono ?_
    rintro e w' ⟨rfl, rfl⟩
    go_wp2_with fail
    refine (rWay_any _ _).mono ?_
    rintro e w' ⟨rfl, rfl⟩
    go_wp2
    go_ret3
    exact ⟨rfl, rfl⟩
  · have e1 : decide (n < 0) = false := decide_eq_false h0
    have e2 : decide (400 < n) = true := decide_eq_true (by omega)
    go_enter Tryz.func38, Tryz.ntmps38
    go_wp2_with fail
    refine (rCounts_any _ _ _).mono ?_
    rintro e w' ⟨rfl, rfl⟩
    go_wp2_with fail
    refine (rWay_any _ _).mono ?_
    rintro e w' ⟨rfl, rfl⟩
    go_wp2
    go_ret3
    exact ⟨rfl, rfl⟩
set_option maxRecDepth 100000 in
set_option maxHeartbeats 1000000 in
theorem rGather_shape (d s x n : Nat) (pieces : List ByteArray) (lost : List Int) (pv lv : Value) (w : World) (hp : StrsAt w pv pieces) (hl : IsC w lv lost) (hll : lost.length < 2 ^ 62) (hpl : pieces.length < 2 ^ 62) (hd : 1 ≤ d) (hd2 : d ≤ 10) (hs : s ≤ 6) (hx : x ≤ 2) (hn : n ≤ 400) (hsz : ∀ p, (h : p < pieces.length) → pieces[p].size < 2 ^ 62) (hno : ¬ ShapeOk d s ((n + d - 1) / d) pieces lost) :
    Calls Tryz.prog 38 #[.int .i64 d, .int .i64 s, .int .i64 x, .int .i64 n, pv, lv] w fun e w' => GNo 6 e ∧ Drew w w' := by
  have hok : okCounts d s = true := okCounts_yes _ _ (by omega)
  have how : okWay x = true := okWay_yes _ (by omega)
  have e1 : decide ((n : Int) < 0) = false := decide_eq_false (by omega)
  have e2 : decide ((400 : Int) < (n : Int)) = false := decide_eq_false (by omega)
  have HSH : Hid (∀ w', Drew w w' → Calls Tryz.prog 48 #[.int .i64 d, .int .i64 s, .int .i64 n, pv, lv] w' fun e w'' => e = .returned (.bool false) ∧ Drew w w'') := by
    intro w' hw
    refine (shaped_any d s n _ pieces lost pv lv w' (hp.to hw.below) (hw.isC hl) hll hpl hd hd2 hs hn rfl hsz).mono ?_
    rintro e w'' ⟨⟨b, rfl, hb⟩, ⟨m, rfl⟩⟩
    cases b
    · exact ⟨rfl, hw.more m⟩
    · exact absurd (hb.1 rfl) hno
  go_enter Tryz.func38, Tryz.ntmps38
  go_wp2_with fail
  refine (rCounts_any _ _ _).mono ?_
  rintro e w' ⟨rfl, rfl⟩
  go_wp2_with fail
  refine (rWay_any _ _).mono ?_
  rintro e w' ⟨rfl, rfl⟩
  go_wp2_with fail
  refine (HSH.out _ ⟨0, rfl⟩).mono ?_
  rintro e w2 ⟨rfl, hw2⟩
  go_wp2
  go_ret3
  exact ⟨rfl, hw2⟩
set_option maxRecDepth 100000 in
set_option maxHeartbeats 1000000 in
theorem rGather_few (d s x n : Nat) (pieces : List ByteArray) (lost : List Int) (pv lv : Value) (w : World) (hp : StrsAt w pv pieces) (hl : IsC w lv lost) (hll : lost.length < 2 ^ 62) (hpl : pieces.length < 2 ^ 62) (hd : 1 ≤ d) (hd2 : d ≤ 10) (hs : s ≤ 6) (hx : x ≤ 2) (hn : n ≤ 400) (hsz : ∀ p, (h : p < pieces.length) → pieces[p].size < 2 ^ 62) (hyes : ShapeOk d s ((n + d - 1) / d) pieces lost) (hfew : s < lost.length) :
    Calls Tryz.prog 38 #[.int .i64 d, .int .i64 s, .int .i64 x, .int .i64 n, pv, lv] w fun e w' => GNo 7 e ∧ Drew w w' := by
  have hok : okCounts d s = true := okCounts_yes _ _ (by omega)
  have how : okWay x = true := okWay_yes _ (by omega)
  have e1 : decide ((n : Int) < 0) = false := decide_eq_false (by omega)
  have e2 : decide ((400 : Int) < (n : Int)) = false := decide_eq_false (by omega)
  have e3 : decide ((s : Int) < (lost.length : Int)) = true := decide_eq_true (by omega)
  have HSH : Hid (∀ w', Drew w w' → Calls Tryz.prog 48 #[.int .i64 d, .int .i64 s, .int .i64 n, pv, lv] w' fun e w'' => e = .returned (.bool true) ∧ Drew w w'') := by
    intro w' hw
    refine (shaped_any d s n _ pieces lost pv lv w' (hp.to hw.below) (hw.isC hl) hll hpl hd hd2 hs hn rfl hsz).mono ?_
    rintro e w'' ⟨⟨b, rfl, hb⟩, ⟨m, rfl⟩⟩
    rw [hb.2 hyes]
    exact ⟨rfl, hw.more m⟩
  obtain ⟨lao, lex, rfl, _⟩ := hl
  go_enter Tryz.func38, Tryz.ntmps38
  go_wp2_with fail
  refine (rCounts_any _ _ _).mono ?_
  rintro e w' ⟨rfl, rfl⟩
  go_wp2_with fail
  refine (rWay_any _ _).mono ?_
  rintro e w' ⟨rfl, rfl⟩
  go_wp2_with fail
  refine (HSH.out _ ⟨0, rfl⟩).mono ?_
  rintro e w2 ⟨rfl, hw2⟩
  go_wp2
  go_ret3
  exact ⟨rfl, hw2⟩

theorem mkS_append (a b : List Nat) : mkS a ++ mkS b = mkS (a ++ b) := ByteArray.ext (by simp [mkS, ByteArray.data_append])
theorem mkS_size (a : List Nat) : (mkS a).size = a.length := by show (mkS a).data.size = _; simp [mkS]
theorem mkS_take (a : List Nat) (n : Nat) : (mkS a).extract 0 n = mkS (a.take n) := ByteArray.ext (by rw [ByteArray.data_extract]; simp [mkS])
theorem flatten_length (ps : List (List Nat)) (L : Nat) (h : ∀ j, (h : j < ps.length) → ps[j].length = L) : ps.flatten.length = ps.length * L := by
  induction ps with
  | nil => simp
  | cons p ps ih =>
    have h0 := h 0 (by simp)
    have := ih fun j hj => by have := h (j + 1) (by simpa using hj); simpa using this
    simp only [List.getElem_cons_zero] at h0
    rw [List.flatten_cons, List.length_append, this, h0, List.length_cons, Nat.add_mul]; omega
theorem flatten_next (ps : List (List Nat)) (j : Nat) (hj : j < ps.length) : (ps.take (j + 1)).flatten = (ps.take j).flatten ++ ps[j] := by
  rw [List.take_add_one, List.getElem?_eq_getElem hj, List.flatten_append]; simp
theorem ceil_mul (n d : Nat) (hd : 0 < d) : n ≤ d * ((n + d - 1) / d) := by
  have := Nat.div_add_mod (n + d - 1) d
  have := Nat.mod_lt (n + d - 1) hd
  omega
end Go.Proofs.YtokmllopbfmadaaGreatDoor.Ref

namespace Go.Proofs.YtokmllopbfmadaaGreatDoor.Ref
open Go.RowKit Mem FieldWalks Tab ByTab Parts
open Gf (Bytes sumTo addTo chosen left_ Fits)

set_option maxRecDepth 100000 in
set_option maxHeartbeats 1000000 in
theorem rGather_ok (d s x n L : Nat) (pieces : List ByteArray) (lost : List Int) (pv lv : Value) (w : World) (hp : StrsAt w pv pieces) (hl : IsC w lv lost) (hd : 1 ≤ d) (hd2 : d ≤ 10) (hs : s ≤ 6) (hx : x ≤ 2) (hn : n ≤ 400) (hL : L = (n + d - 1) / d) (hsz : ∀ p, (h : p < pieces.length) → pieces[p].size < 2 ^ 62)
    (hyes : ShapeOk d s L pieces lost) (hfew : lost.length ≤ s) :
    Calls Tryz.prog 38 #[.int .i64 d, .int .i64 s, .int .i64 x, .int .i64 n, pv, lv] w fun e w' => ∃ v ps, e = .returned (.tuple #[.string (mkS (ps.flatten.take n)), v, .int .i64 0]) ∧
      Fits d L (chosen (left_ lost) d s) (fun p => nums (pieces.getD p ByteArray.empty)) ps ∧ StrsNew w' w.heap.size v (texts ps (sums (facs d s) ps L)) ∧ Below w.heap.size w w' := by
  have hok : okCounts d s = true := okCounts_yes _ _ (by omega)
  have how : okWay x = true := okWay_yes _ (by omega)
  have e1 : decide ((n : Int) < 0) = false := decide_eq_false (by omega)
  have e2 : decide ((400 : Int) < (n : Int)) = false := decide_eq_false (by omega)
  have e3 : decide ((s : Int) < (lost.length : Int)) = false := decide_eq_false (by omega)
  have hLs : L ≤ 400 := by have := ceil_le n d hd; omega
  have hnL : n ≤ d * L := by rw [hL]; exact ceil_mul n d (by omega)
  have HSH : Hid (∀ w', Drew w w' → Calls Tryz.prog 48 #[.int .i64 d, .int .i64 s, .int .i64 n, pv, lv] w' fun e w'' => e = .returned (.bool true) ∧ Drew w w'') := by
    intro w' hw
    refine (shaped_any d s n L pieces lost pv lv w' (hp.to hw.below) (hw.isC hl) (by omega) (by have := hyes.count; omega) hd hd2 hs hn hL hsz).mono ?_
    rintro e w'' ⟨⟨b, rfl, hb⟩, ⟨m, rfl⟩⟩
    rw [hb.2 hyes]
    exact ⟨rfl, hw.more m⟩
  have HRE : Hid (∀ w', Drew w w' → Calls Tryz.prog 66 #[.int .i64 d, pv, lv] w' fun e w'' =>
      ∃ v ps, e = .returned v ∧ RowsAt w'' v ps ∧ Fits d L (chosen (left_ lost) d s) (fun p => nums (pieces.getD p ByteArray.empty)) ps ∧ Below w.heap.size w w'') := by
    intro w' hw
    refine (restored_any d s L pieces lost pv lv w' (hp.to hw.below) (hw.isC hl) hfew hyes hd hd2 hs hLs).mono ?_
    rintro e w'' ⟨v, ps, he, h1, h2, h3⟩
    exact ⟨v, ps, he, h1, h2, hw.below.trans (h3.mono hw.below.size)⟩
  obtain ⟨lao, lex, rfl, _⟩ := hl
  clear hsz hyes hp hL
  go_enter Tryz.func38, Tryz.ntmps38
  go_wp2_with fail
  refine (rCounts_any _ _ _).mono ?_
  rintro e w' ⟨rfl, rfl⟩
  go_wp2_with fail
  refine (rWay_any _ _).mono ?_
  rintro e w' ⟨rfl, rfl⟩
  go_wp2_with fail
  refine (HSH.out _ ⟨0, rfl⟩).mono ?_
  rintro e w2 ⟨rfl, hw2⟩
  go_wp2_with fail
  refine (HRE.out _ hw2).mono ?_
  rintro e w3 ⟨v, ps, rfl, hrows, hfit, hb3⟩
  have hpl := hfit.len
  obtain ⟨b, off, cap, rfl, hblt, hc⟩ := hrows.pos (by omega)
  have HRO : Hid (RowsAt w3 (.slice (some ⟨b, off, none⟩) ps.length cap) ps) := hrows
  have HFI : Hid (Fits d L (chosen (left_ lost) d s) (fun p => nums (pieces.getD p ByteArray.empty)) ps) := hfit
  have HC : Hid (∀ k, (h : k < ps.length) → ∃ u, w3.cell? ⟨b, off + k, none⟩ = some u ∧ BsAt w3 u ps[k]) := hc
  rw [hpl]
  have HPL : Hid (ps.length = d) := hpl
  clear hrows hfit hc hpl HSH HRE
  go_wp2
  go_loop [17, 18] (fun t i => ∃ j : Nat, j ≤ d ∧ i = .int .i64 j ∧ t = .string (mkS (ps.take j).flatten)) (fun _ i => d - (intOf i).toNat)
  case atStart => exact ⟨0, Nat.zero_le _, rfl, rfl⟩
  case round =>
    obtain ⟨j, hj, rfl, rfl⟩ := hrel
    by_cases hjd : j < d
    · have hjl : j < ps.length := by rw [HPL.out]; exact hjd
      obtain ⟨u, hu, hbs⟩ := HC.out j hjl
      have HBS : Hid (BsAt w3 u ps[j]) := hbs
      have HNX : Hid (mkS (ps.take j).flatten ++ mkS ps[j] = mkS (ps.take (j + 1)).flatten) := by show _ = _; rw [mkS_append, ← flatten_next ps j hjl]
      have hA : (mkS (ps.take j).flatten).size ≤ 4000 := by
        rw [mkS_size, flatten_length (ps.take j) L (fun i hi => by rw [List.getElem_take]; exact HFI.out.size i (by simp at hi; omega))]
        have h1 : (ps.take j).length ≤ 10 := by rw [List.length_take]; omega
        exact Nat.le_trans (Nat.mul_le_mul h1 hLs) (by decide)
      have hB : (mkS ps[j]).size ≤ 400 := by rw [mkS_size, HFI.out.size j hjl]; exact hLs
      clear hbs
      go_wp2_with (refine wpList_convert _ rfl 85 9 _ rfl u (.string (mkS ps[j])) rfl (conv_str _ _ _ HBS.out) ?_)
      go_round
      case rel => exact ⟨j + 1, by omega, by go_num, by rw [← HNX.out]⟩
      case measure => simp [intOf]; omega
    · obtain rfl : j = d := by omega
      have hfl : (mkS (ps.take j).flatten).size = j * L := by
        rw [List.take_of_length_le (by have := HPL.out; omega), mkS_size, flatten_length ps L HFI.out.size, HPL.out]
      obtain ⟨T, hT⟩ : ∃ T, T = mkS (ps.take j).flatten := ⟨_, rfl⟩
      rw [← hT] at hfl ⊢
      have HT : Hid (T.extract 0 n = mkS (ps.flatten.take n)) := by
        show _ = _
        rw [hT, mkS_take, show ps.take j = ps from List.take_of_length_le (by have := HPL.out; omega)]
      have hal := all_any ps L s _ w3.drew (HRO.out.to (Below.refl _ _).drew) (by have := HPL.out; omega) (by have := HPL.out; omega) (by omega) HFI.out.size HFI.out.byte (by omega)
      rw [HPL.out] at hal
      have HAL : Hid (Calls Tryz.prog 55 #[.slice (some ⟨b, off, none⟩) j cap, .int .i64 s] w3.drew fun e w' => ∃ v, e = .returned v ∧ StrsNew w' w3.heap.size v (texts ps (sums (facs j s) ps L)) ∧ Below w3.heap.size w3.drew w') := hal
      clear hal hT
      have hnT : n ≤ T.size := by omega
      have hnT2 : (n : Int) ≤ (T.size : Int) := by omega
      have hT4 : T.size ≤ 4000 := by
        rw [hfl]; exact Nat.le_trans (Nat.mul_le_mul hd2 hLs) (by decide)
      clear hfl
      go_wp2_with fail
      go_region_with (go_at_call 55; refine Calls.mono HAL.out ?_; rintro e w4 ⟨v, rfl, hst, hb4⟩)
      all_goals
        go_wp2
        go_ret3
        exact ⟨v, ps, by rw [← HT.out]; rfl, HFI.out, hst.low hb3.size, hb3.drew.trans (hb4.mono hb3.size)⟩
end Go.Proofs.YtokmllopbfmadaaGreatDoor.Ref
