import Derived.Test.YtokmllopbfmadabDoorGSolved
import Derived.OwnWalk
namespace Go.Proofs.YtokmllopbfmadabDoor.Ref
open Go.RowKit Mem FieldWalks Tab ByTab Parts
open Gf (Bytes sumTo addTo rowOf dot Gauss outOf chosen left_ Fits colOf)
open Plans (But intsV infoInt rowF rowF_length wpList_append_row grown_keeps made_cells owns_form)

/-- The equation of piece p. -/
def eqOf (d : Nat) (pieces : List ByteArray) (p : Nat) : Eqn := (eqF d p, nums (pieces.getD p ByteArray.empty))
/-- Those that are left, below p. -/
def leftTo (lost : List Int) (p : Nat) : List Nat := (List.range p).filter (left_ lost)
theorem leftTo_next (lost : List Int) (p : Nat) : leftTo lost (p + 1) = leftTo lost p ++ if left_ lost p then [p] else [] := by
  unfold leftTo
  rw [List.range_succ, List.filter_append]
  cases h : left_ lost p <;> simp [h]
theorem leftTo_chosen (lost : List Int) (d s p : Nat) (hp : p ≤ d + s) (hl : (leftTo lost p).length = d) : chosen (left_ lost) d s = leftTo lost p := by
  unfold chosen
  obtain ⟨m, hm⟩ : ∃ m, d + s = p + m := ⟨d + s - p, by omega⟩
  rw [hm, List.range_add, List.filter_append, List.take_append]
  have : ((List.range p).filter (left_ lost)).length = d := hl
  rw [this, Nat.sub_self, List.take_zero, List.append_nil, List.take_of_length_le (by omega)]
  rfl
theorem leftTo_le (lost : List Int) (p q : Nat) (h : p ≤ q) : (leftTo lost p).length ≤ (leftTo lost q).length := by
  obtain ⟨m, rfl⟩ : ∃ m, q = p + m := ⟨q - p, by omega⟩
  unfold leftTo
  rw [List.range_add, List.filter_append, List.length_append]; omega
/-- The cells of the equations that were made. -/
def CellsOf (w : World) (base : Nat) (R : List Eqn) (cs : List Value) : Prop :=
  ∀ r, (h : r < R.length) → ∃ f v, cs[r * 2]? = some f ∧ cs[r * 2 + 1]? = some v ∧ NsP (fun b => base ≤ b) w f R[r].1 ∧ NsP (fun b => base ≤ b) w v R[r].2
theorem CellsOf.to {w w' : World} {base : Nat} {R : List Eqn} {cs : List Value} (h : CellsOf w base R cs) (hb : Below w.heap.size w w') : CellsOf w' base R cs := fun r hr => by
  obtain ⟨f, v, h1, h2, h3, h4⟩ := h r hr
  exact ⟨f, v, h1, h2, h3.to hb, h4.to hb⟩
theorem NsP.grown {P : Nat → Prop} {w w' : World} {base size n : Nat} {e : TypeId} {u : Value} {xs : List Value} {v : Value} {l : List Nat} (h : w.ownsRow base e size u n xs) (hg : w.grownBy w' u.ownBlock) (hi : NsP P w v l) (ht : 3 ≠ e) : NsP P w' v l := by
  obtain ⟨ao, cap, rfl, hx⟩ := hi
  refine ⟨ao, cap, rfl, ?_⟩
  rcases hx with hx | ⟨g, us, rfl, hp, hb, hc⟩
  · exact .inl hx
  · exact .inr ⟨g, us, rfl, hp, grown_keeps h hg hb ht, hc⟩
theorem CellsOf.add {w : World} {base : Nat} {R : List Eqn} {cs : List Value} (h : CellsOf w base R cs) (hl : cs.length = R.length * 2) (e : Eqn) (f v : Value) (h1 : NsP (fun b => base ≤ b) w f e.1) (h2 : NsP (fun b => base ≤ b) w v e.2) : CellsOf w base (R ++ [e]) (cs ++ [f, v]) := by
  intro r hr
  by_cases e1 : r < R.length
  · obtain ⟨a, b, c1, c2, c3, c4⟩ := h r e1
    refine ⟨a, b, by rw [List.getElem?_append_left (by omega)]; exact c1, by rw [List.getElem?_append_left (by omega)]; exact c2, ?_, ?_⟩
    · rw [List.getElem_append_left e1]; exact c3
    · rw [List.getElem_append_left e1]; exact c4
  · have : r = R.length := by simp at hr; omega
    subst this
    refine ⟨f, v, by rw [List.getElem?_append_right (by omega)]; simp [hl], by rw [List.getElem?_append_right (by omega)]; simp [hl], ?_, ?_⟩
    · simpa using h1
    · simpa using h2
theorem NsP.slice_one {P : Nat → Prop} {w : World} {v : Value} {l : List Nat} (h : NsP P w v l) : v.oneCell' = true := by
  obtain ⟨ao, cap, rfl, _⟩ := h; rfl
theorem owns_some {w : World} {base : Nat} {e : TypeId} {v : Value} {n : Nat} {xs : List Value} (h : w.ownsRow base e 2 v n xs) (hn : 0 < n) : ∃ g c, v = .slice (some ⟨g, 0, none⟩) n c := by
  rcases h.2 with ⟨rfl, h0⟩ | ⟨g, cap, cur, rfl, _⟩
  · omega
  · exact ⟨_, _, rfl⟩
theorem eqF_at (d p k : Nat) (hk : k < d) : (eqF d p).getD k 0 = rowOf d p k := by simp [eqF, rowF, hk]
theorem eqF_bytes (d p : Nat) (hd : d ≤ 256) (hp : p < 256) : Bytes (eqF d p) := by
  intro x hx
  simp only [eqF, rowF, List.mem_map, List.mem_range] at hx
  obtain ⟨k, hk, rfl⟩ := hx
  exact Gf.rowOf_lt d p k hp (by omega)
theorem eqs_neat {d s L : Nat} {pieces : List ByteArray} {lost : List Int} (hok : ShapeOk d s L pieces lost) (hll : lost.length ≤ s) (hds : d + s ≤ 256) : Neat d L ((chosen (left_ lost) d s).map (eqOf d pieces)) := by
  have hc : (chosen (left_ lost) d s).length = d := Gf.chosen_length _ _ _ (Gf.enough d s lost hll)
  have key : ∀ r, (h : r < ((chosen (left_ lost) d s).map (eqOf d pieces)).length) → ∃ p, p < d + s ∧ left_ lost p = true ∧ ((chosen (left_ lost) d s).map (eqOf d pieces))[r] = eqOf d pieces p := by
    intro r h
    have h' : r < (chosen (left_ lost) d s).length := by simpa using h
    have := Gf.chosen_lt (left_ lost) d s _ (List.getElem_mem h')
    exact ⟨_, this.1, this.2, by simp⟩
  have hcn := hok.count
  refine ⟨by simp [hc], fun r h => ?_, fun r h => ?_, fun r h => ?_, fun r h => ?_⟩
  · obtain ⟨p, _, _, e⟩ := key r h; rw [e]; exact eqF_length d p
  · obtain ⟨p, hp, hN, e⟩ := key r h
    rw [e]
    show (nums _).length = L
    have hpl : p < pieces.length := by omega
    rw [nums_length, show pieces.getD p ByteArray.empty = pieces[p] by simp [hpl]]
    exact hok.sizes p hpl (by simpa [left_] using hN)
  · obtain ⟨p, hp, _, e⟩ := key r h; rw [e]; exact eqF_bytes d p (by omega) (by omega)
  · obtain ⟨p, _, _, e⟩ := key r h; rw [e]; exact nums_bytes _
theorem eqs_F {d : Nat} {pieces : List ByteArray} {P : List Nat} (q : Nat) (hq : q < P.length) (k : Nat) (hk : k < d) : Fof (P.map (eqOf d pieces)) q k = rowOf d P[q] k := by
  rw [Fof_eq (by simpa using hq)]
  simp only [List.getElem_map]
  exact eqF_at d _ k hk
theorem eqs_V {d : Nat} {pieces : List ByteArray} {P : List Nat} (q : Nat) (hq : q < P.length) (t : Nat) : Vof (P.map (eqOf d pieces)) q t = (nums (pieces.getD P[q] ByteArray.empty)).getD t 0 := by
  rw [Vof_eq (by simpa using hq)]
  simp only [List.getElem_map]
  rfl
theorem eqs_ker {d s : Nat} {pieces : List ByteArray} {lost : List Int} (hll : lost.length ≤ s) (hds : d + s ≤ 256) (x : Nat → Nat) (hx : ∀ k, x k < 256) (h : ∀ r, r < d → dot d (Fof ((chosen (left_ lost) d s).map (eqOf d pieces)) r) x = 0) : ∀ k, k < d → x k = 0 := by
  have hc : (chosen (left_ lost) d s).length = d := Gf.chosen_length _ _ _ (Gf.enough d s lost hll)
  refine Gf.chosen_ker (left_ lost) d s hds (Gf.enough d s lost hll) x hx fun p hp => ?_
  obtain ⟨r, hr, rfl⟩ := List.mem_iff_getElem.1 hp
  rw [← h r (by omega)]
  exact Gf.dot_congr (fun k hk => (eqs_F (pieces := pieces) r hr k hk).symm) fun _ _ => rfl
theorem eqs_fits {d s L : Nat} {pieces : List ByteArray} {lost : List Int} {ps : List (List Nat)} (hll : lost.length ≤ s) (hlen : ps.length = d) (h1 : ∀ j, (h : j < ps.length) → ps[j].length = L) (h2 : ∀ j, (h : j < ps.length) → Bytes ps[j])
    (h3 : ∀ q, q < d → ∀ t, t < L → dot d (Fof ((chosen (left_ lost) d s).map (eqOf d pieces)) q) (colOf ps t) = Vof ((chosen (left_ lost) d s).map (eqOf d pieces)) q t) : Fits d L (chosen (left_ lost) d s) (fun p => nums (pieces.getD p ByteArray.empty)) ps := by
  have hc : (chosen (left_ lost) d s).length = d := Gf.chosen_length _ _ _ (Gf.enough d s lost hll)
  refine ⟨hlen, h1, h2, fun p hp t ht => ?_⟩
  obtain ⟨r, hr, rfl⟩ := List.mem_iff_getElem.1 hp
  have := h3 r (by omega) t ht
  rw [eqs_V r hr t] at this
  rw [← this]
  exact Gf.dot_congr (fun k hk => (eqs_F (pieces := pieces) r hr k hk).symm) fun _ _ => rfl

end Go.Proofs.YtokmllopbfmadabDoor.Ref

namespace Go.Proofs.YtokmllopbfmadabDoor.Ref
open Go.RowKit Mem FieldWalks Tab ByTab Parts
open Gf (Bytes sumTo addTo chosen left_ Fits)

/-- With an error all else is empty. -/
def GNo (k : Int) (e : Ending) : Prop := e = .returned (.tuple #[.string ByteArray.empty, .slice none 0 0, .int .i64 k])
theorem gno_rfl (k : Int) : GNo k (.returned (.tuple #[.string ⟨#[]⟩, .slice none 0 0, .int .i64 k])) := rfl

theorem mkS_append (a b : List Nat) : mkS a ++ mkS b = mkS (a ++ b) := ByteArray.ext (by simp [mkS, ByteArray.data_append])
theorem mkS_size (a : List Nat) : (mkS a).size = a.length := by show (mkS a).data.size = _; simp [mkS]
theorem mkS_take (a : List Nat) (n : Nat) : (mkS a).extract 0 n = mkS (a.take n) := ByteArray.ext (by rw [ByteArray.data_extract]; simp [mkS])
theorem flatten_length (ps : List (List Nat)) (L : Nat) (h : ∀ j, (h : j < ps.length) → ps[j].length = L) : ps.flatten.length = ps.length * L := by
  induction ps with
  | nil => simp
  | cons p ps ih =>
    have h0 := h 0 (by simp)
    have := ih fun j hj => by have := h (j + 1) (by simpa using hj); simpa using this
    simp only [List.getElem_cons_zero] at h0
    rw [List.flatten_cons, List.length_append, this, h0, List.length_cons, Nat.add_mul]; omega
theorem flatten_next (ps : List (List Nat)) (j : Nat) (hj : j < ps.length) : (ps.take (j + 1)).flatten = (ps.take j).flatten ++ ps[j] := by
  rw [List.take_add_one, List.getElem?_eq_getElem hj, List.flatten_append]; simp
theorem ceil_mul (n d : Nat) (hd : 0 < d) : n ≤ d * ((n + d - 1) / d) := by
  have := Nat.div_add_mod (n + d - 1) d
  have := Nat.mod_lt (n + d - 1) hd
  omega
end Go.Proofs.YtokmllopbfmadabDoor.Ref

namespace Go.Proofs.YtokmllopbfmadabDoor.Ref
open Go.RowKit Mem FieldWalks Tab ByTab Parts
open Gf (Bytes sumTo addTo chosen left_ Fits)

end Go.Proofs.YtokmllopbfmadabDoor.Ref
