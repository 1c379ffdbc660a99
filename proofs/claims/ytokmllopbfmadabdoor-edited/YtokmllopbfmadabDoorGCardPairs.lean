import Derived.Deep.SlicePairs
import Derived.Test.YtokmllopbfmadabDoorGBook
import Derived.Test.YtokmllopbfmadabDoorGKChanged2
/- A list of writings that comes in, opened. -/
namespace Go.Proofs.YtokmllopbfmadabDoor.CardArgs
open Go.ChangeShapes Go.WideShapes Go.ChangeAt Go.RowKit Mem Ref KeepW

theorem cellsWr : Tryd.prog.cellsOf 47 = 2 := by kernel_rfl
theorem bytesWr : Tryd.prog.bytesOf 47 = 24 := by kernel_rfl
section
set_option maxRecDepth 100000
variable {H : Type} {enc : TypeId × Value → H} {W : World} {base j : Nat} {v : Value} {d : DataW H} {p : List MemPlace} {ts : List TypeId} {ds : List (DataW H)}
theorem pairs_arg (hval : Value.okWide Tryd.prog W .any base 44 v) (h : DataW.Trod enc Tryd.prog W 0 (fun _ => true) true 44 v d p) (hsz : (DataW.weightsEach Tryd.prog ts ds).all (· ≤ reachBytes) = true) (hts : ts[j]? = some 44) (hds : ds[j]? = some d) :
    ∃ ws : List (Int × ByteArray), WrAt W v ws ∧ ws.length < 2 ^ 62 ∧ ∀ x, x ∈ ws → -9223372036854775808 ≤ x.1 ∧ x.1 ≤ 9223372036854775807 ∧ x.2.size < 2 ^ 62 := by
  obtain ⟨fuel, h⟩ := h
  obtain ⟨a0, len0, cap0, rfl⟩ := okWide_slice Tryd.underlying44 hval
  have hcs : (Value.slice a0 len0 cap0).cells.toList = [.slice a0 len0 cap0] := rfl
  rw [hcs] at h
  rcases Deep.open_slice_pairs Tryd.underlying44 Tryd.underlying47 cellsWr rfl rfl cellsInt cellsStr h with ⟨h1, h2⟩ | ⟨a, len, cap, m, n, V0, V1, D0, D1, P0, P1, h1, h2, h3, h4, h5, h6, h7⟩
  · injection h1 with h1 _
    rw [h1]
    exact ⟨[], ⟨none, 0, rfl, .inl rfl⟩, by simp, fun q hq => by simp at hq⟩
  · injection h1 with h1 _
    rw [h1] at hval ⊢
    obtain ⟨b, off, rfl, hb⟩ := slice_plain Tryd.underlying44 hval
    simp only [Prod.mk.injEq] at h6
    obtain ⟨rfl, _⟩ := h6
    have hm : m = cap := by simpa using h5
    have hbytes := sized_slice hsz hts hds Tryd.underlying44
    rw [bytesWr] at hbytes
    simp only [List.length_map, List.length_range] at hbytes
    have hr : reachBytes = 140737488351232 := by decide
    have each : ∀ i, i < m → ∃ q : Int × ByteArray, W.cell? ⟨b, off + i * 2, none⟩ = some (.int .i64 q.1) ∧ W.cell? ⟨b, off + i * 2 + 1, none⟩ = some (.string q.2) ∧ (Lit.int .i64 q.1).wf = true ∧ D1 i = .lit (.string q.2.data.toList) := fun i hi => by
      obtain ⟨c0, c1, t0, t1⟩ := h7 i hi
      obtain ⟨z, e1, _, hz⟩ := DataW.trod_int Tryd.underlying3 t0
      obtain ⟨s, e2, e3, _⟩ := DataW.trod_string Tryd.underlying9 t1
      injection e1 with e1 _
      injection e2 with e2 _
      rw [Addr.add_lit] at c0 c1
      simp only [Prod.mk.injEq] at e3
      exact ⟨(z, s), by rw [c0, e1], by rw [show off + i * 2 + 1 = off + (i * 2 + 1) by omega, c1, e2], hz, e3.1⟩
    obtain ⟨q, hq⟩ := Deep.choose_lt each
    refine ⟨(List.range len).map q, ⟨_, cap, by simp, .inr ⟨b, off, rfl, hb, fun k hk => ?_⟩⟩, ?_, fun x hx => ?_⟩
    · have hk' : k < len := by simpa using hk
      have := hq k (by omega)
      simp only [List.getElem_map, List.getElem_range]
      exact ⟨this.1, this.2.1⟩
    · simp only [List.length_map, List.length_range]; omega
    · obtain ⟨i, hi, rfl⟩ := List.mem_map.1 hx
      have hi' : i < len := List.mem_range.1 hi
      have hqi := hq i (by omega)
      have hw := wf_i64 hqi.2.2.1
      refine ⟨hw.1, hw.2, ?_⟩
      have hmem : (DataW.agg [D0 i, D1 i] : DataW H) ∈ (List.range len).map fun i => (DataW.agg [D0 i, D1 i] : DataW H) := List.mem_map.2 ⟨i, List.mem_range.2 hi', rfl⟩
      have hws := weights_all (P := Tryd.prog) (e := 47) (n := (q i).2.data.toList.length) hmem (by
        simp only [DataW.weights, Tryd.underlying47]
        refine DataW.weights_mem_each (j := 1) rfl rfl _ ?_
        rw [hqi.2.2.2]
        simp [DataW.weights])
      have hall := List.all_eq_true.1 hsz _ (DataW.weights_mem_each hts hds ((q i).2.data.toList.length) (by
        simp only [DataW.weights, Tryd.underlying44, List.mem_cons, List.mem_append]
        exact .inr (.inl hws)))
      have hsq : (q i).2.size = (q i).2.data.toList.length := by rw [Array.length_toList]; rfl
      rw [hsq]
      have : (q i).2.data.toList.length ≤ reachBytes := by simpa using hall
      omega
end
end Go.Proofs.YtokmllopbfmadabDoor.CardArgs
