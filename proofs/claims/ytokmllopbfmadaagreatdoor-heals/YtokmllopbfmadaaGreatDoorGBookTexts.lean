import Derived.Deep.RegionHeld3
import Derived.WalkSpells
import Derived.Test.YtokmllopbfmadaaGreatDoorGBookMem
namespace Go.Proofs.YtokmllopbfmadaaGreatDoor.Book
open Go.RowKit Mem FieldWalks Tab ByTab Parts

theorem marks_len (n : Nat) (q : ByteArray) (us : List Value) (hl : us.length = n) (k : Nat) : (mix (List.replicate n (.string q)) us k).length = n := by
  rw [mix_length (by simp [hl])]; exact hl

theorem old_cell {w : World} {a : Addr} {v : Value} (h : w.cell? a = some v) (o : Obj) : (w.alloc o).cell? a = some v := by
  rw [World.cell?_of_block (w := w) (Below.heap_alloc w o a.block (block_lt_of_cell h))]; exact h
theorem new_cells (w : World) (i : Nat) (q : ByteArray) (j : Nat) (hj : j < i) : (w.alloc (.cells (List.replicate i (Value.string q)).toArray 9)).cell? ((⟨w.heap.size, 0, none⟩ : Addr).add j) = some (.string q) := by
  rw [Addr.add_lit, Nat.zero_add]
  exact (Blk.new w _ _).cell_some (by simp [hj])
theorem old_cells {w w' : World} {lo : Option Addr} {k : Nat} {q : ByteArray} (h : ∀ b, lo = some b → ∀ j, j < k → w.cell? (b.add j) = some (.string q)) (hb : Below w.heap.size w w') (b : Addr) (e : lo = some b) (j : Nat) (hj : j < k) : w'.cell? (b.add j) = some (.string q) := by
  have h0 := h b e j hj
  rw [hb.cell (p := b.add j) (block_lt_of_cell h0)]; exact h0
theorem below_alloc (w : World) (o : Obj) : Below w.heap.size w (w.alloc o) := (Below.refl _ _).alloc (Nat.le_refl _) o

theorem StrsIn.later {w w' : World} {v : Value} {ss : List ByteArray} (h : StrsIn w w.heap.size v ss) (hb : Below w.heap.size w w') : StrsIn w' w'.heap.size v ss :=
  (h.keep fun g _ _ hg => hb.block g (lt_of_block hg)).mono hb.size
/-- The four that come into the book with a list of k. -/
def newsOf (c k : Nat) (l a1 a2 a3 : Value) : List Ent := [⟨c + 1, k, l⟩, ⟨c + 1, k + 1, a1⟩, ⟨c + 1, k + 2, a2⟩, ⟨c + 1, k + 3, a3⟩]
theorem newsOf_ok (c k : Nat) (hc : c ≤ 8) (hk : k ≤ 90) (w : World) (q : ByteArray) (hq : q = markS (c + 1)) {l a1 a2 a3 : Value} (h0 : StrsIn w w.heap.size l (List.replicate k q)) (h1 : StrsIn w w.heap.size a1 (List.replicate (k + 1) q))
    (h2 : StrsIn w w.heap.size a2 (List.replicate (k + 2) q)) (h3 : StrsIn w w.heap.size a3 (List.replicate (k + 3) q)) : ∀ e, e ∈ newsOf c k l a1 a2 a3 → e.ok w w.heap.size := by
  subst hq
  intro e he
  simp only [newsOf, List.mem_cons, List.not_mem_nil, or_false] at he
  rcases he with rfl | rfl | rfl | rfl
  · exact ⟨by show 1 ≤ c + 1; omega, by show c + 1 ≤ 9; omega, by show k ≤ 100; omega, h0⟩
  · exact ⟨by show 1 ≤ c + 1; omega, by show c + 1 ≤ 9; omega, by show k + 1 ≤ 100; omega, h1⟩
  · exact ⟨by show 1 ≤ c + 1; omega, by show c + 1 ≤ 9; omega, by show k + 2 ≤ 100; omega, h2⟩
  · exact ⟨by show 1 ≤ c + 1; omega, by show c + 1 ≤ 9; omega, by show k + 3 ≤ 100; omega, h3⟩
theorem newsOf_cells (c k : Nat) (l a1 a2 a3 : Value) : (newsOf c k l a1 a2 a3).flatMap Ent.cells =
    [.int .i64 ((c : Int) + 1), .int .i64 (k : Int), l, .slice none 0 0, .slice none 0 0, .int .i64 ((c : Int) + 1), .int .i64 ((k : Int) + 1), a1, .slice none 0 0, .slice none 0 0,
     .int .i64 ((c : Int) + 1), .int .i64 ((k : Int) + 2), a2, .slice none 0 0, .slice none 0 0, .int .i64 ((c : Int) + 1), .int .i64 ((k : Int) + 3), a3, .slice none 0 0, .slice none 0 0] := rfl
theorem many_cells (w : World) (t : TypeId) (news : List Value) (j : Nat) (u : Value) (h : news[j]? = some u) : (w.alloc (.cells news.toArray t)).drew.cell? ((⟨w.heap.size, 0, none⟩ : Addr).add j) = some u := by
  rw [Addr.add_lit, Nat.zero_add]
  exact (Blk.new w news.toArray t).cell_some (by simpa using h)

theorem St.after {w0 w w1 w2 : World} {B b c lb : Nat} {kv : Value} {es : List Ent} (h : St w0 w B b c lb kv es) (hb : Below w.heap.size w w1) (hg : w1.grownBy w2 kv.ownBlock) : Blk w2 b 25 [.int .i64 ((c : Int) + 1), kv] := by
  have h1 := h.to hb
  have e : w2.heap[b]? = w1.heap[b]? := by
    refine hg.block b h1.blk.lt (fun e => ?_)
    rcases h1.own.2 with ⟨rfl, _⟩ | ⟨g', cap, cur', rfl, _, hh, _⟩
    · simp [Value.ownBlock] at e
    · simp [Value.ownBlock] at e
      subst e
      have := h1.blk
      unfold Blk at this
      rw [this] at hh
      simp at hh
  unfold Blk; rw [e]; exact h1.blk
theorem owns_slice' {w : World} {base size : Nat} {e : TypeId} {v : Value} {n : Nat} {xs : List Value} (h : w.ownsRow base e size v n xs) : ∃ ao c, v = .slice ao n c := by
  rcases h.2 with ⟨rfl, rfl⟩ | ⟨g, cap, cur, rfl, _⟩
  · exact ⟨_, _, rfl⟩
  · exact ⟨_, _, rfl⟩

set_option maxRecDepth 100000 in
set_option maxHeartbeats 2000000 in
theorem texts_any (B b c lb n : Nat) (lo : Option Addr) (us : List Value) (w : World) (hbook : BookAt w B b c lb) (hc : c ≤ 8) (hn : n ≤ 90) (hlb : B ≤ lb) (hl : us.length = n) (hL : (n = 0 ∧ lo = none) ∨ (lo = some ⟨lb, 0, none⟩ ∧ Blk w lb 9 us)) :
    Calls Tryz.prog 31 #[.pointer (some ⟨b, 0, none⟩), .slice lo n n] w fun e w' => e = .returned (.tuple #[]) ∧ BookAt w' B b (c + 1) w'.heap.size ∧ Below B w w' := by
  obtain ⟨hB, kv, es, hel, hblk, hown, hes⟩ := hbook
  have c0 := hblk.cell_some (k := 0) rfl
  have f0 := hblk.free 0
  have hblt := hblk.lt
  have ST0 : Hid (St w (w.setCell ⟨b, 0, none⟩ (.int .i64 ((c : Int) + 1))) B b c lb kv es) := St.start hB hlb hblk hown hes
  have HL0 : Hid ((n = 0 ∧ lo = none) ∨ (lo = some ⟨lb, 0, none⟩ ∧ Blk (w.setCell ⟨b, 0, none⟩ (.int .i64 ((c : Int) + 1))) lb 9 us)) := by
    rcases hL with h | ⟨h1, h2⟩
    · exact .inl h
    · exact .inr ⟨h1, h2.other (by exact Ne.symm (hblk.type_ne h2 (by decide))) _⟩
  have hput : (w.setCell ⟨b, 0, none⟩ (.int .i64 ((c : Int) + 1))).cell? ⟨b, 0, none⟩ = some (.int .i64 ((c : Int) + 1)) := (hblk.set 0 _).cell_some rfl
  clear hblk hown hes hL
  have hmk := mark_any (c + 1) (by omega) (by omega) (w.setCell ⟨b, 0, none⟩ (.int .i64 ((c : Int) + 1)))
  rw [show ((c + 1 : Nat) : Int) = (c : Int) + 1 by omega] at hmk
  have HMK : Hid (Calls Tryz.prog 52 #[.int .i64 ((c : Int) + 1)] (w.setCell ⟨b, 0, none⟩ (.int .i64 ((c : Int) + 1))) fun e w' => e = .returned (.string (markS (c + 1))) ∧ Below (w.setCell ⟨b, 0, none⟩ (.int .i64 ((c : Int) + 1))).heap.size (w.setCell ⟨b, 0, none⟩ (.int .i64 ((c : Int) + 1))) w') := hmk
  obtain ⟨q, hq⟩ : ∃ q, q = markS (c + 1) := ⟨_, rfl⟩
  have HQ : Hid (q = markS (c + 1)) := hq
  clear hmk hq
  go_enter Tryz.func31, Tryz.ntmps31
  go_wp2_with fail
  refine Calls.mono HMK.out ?_
  rintro e w1 ⟨rfl, hw1⟩
  rw [← HQ.out]
  have hs1 := ST0.out.to hw1
  have hl1 : (n = 0 ∧ lo = none) ∨ (lo = some ⟨lb, 0, none⟩ ∧ Blk w1 lb 9 us) := HL0.out.imp id (fun h => ⟨h.1, h.2.to hw1⟩)
  have HL1 : Hid ((n = 0 ∧ lo = none) ∨ (lo = some ⟨lb, 0, none⟩ ∧ Blk w1 lb 9 us)) := hl1
  clear hl1
  clear c0 f0 hput
  go_wp2
  go_loopw [5] (fun i wr => ∃ k : Nat, k ≤ n ∧ i = .int .i64 k ∧ St w wr B b c lb kv es ∧ ((n = 0 ∧ lo = none) ∨ (lo = some ⟨lb, 0, none⟩ ∧ Blk wr lb 9 (mix (List.replicate n (.string q)) us k)))) (fun i _ => n - (intOf i).toNat)
  case atStart => exact ⟨0, Nat.zero_le _, rfl, hs1, by rw [mix_zero]; exact HL1.out⟩
  case round =>
    clear hs1
    obtain ⟨k, hk, rfl, hst, hLk⟩ := hrel
    by_cases hlt : k < n
    · obtain ⟨rfl, hLq⟩ : lo = some ⟨lb, 0, none⟩ ∧ Blk wr lb 9 (mix (List.replicate n (.string q)) us k) := by
        rcases hLk with h | h
        · omega
        · exact h
      have hc1 := hLq.cell_some (List.getElem?_eq_getElem (show k < (mix (List.replicate n (.string q)) us k).length by rw [marks_len n q us hl]; exact hlt))
      generalize (mix (List.replicate n (Value.string q)) us k)[k]'(by rw [marks_len n q us hl]; exact hlt) = old at hc1
      have hf1 := hLq.free k
      have HS : Hid (St w wr B b c lb kv es) := hst
      have HLK : Hid (Blk wr lb 9 (mix (List.replicate n (.string q)) us k)) := hLq
      clear hst hLk hLq
      go_wp2
      go_roundw
      case rel =>
        refine ⟨k + 1, by omega, by go_num, HS.out.set HLK.out k _, .inr ⟨by trivial, (HLK.out.set k _).eq ?_⟩⟩
        have e := mix_set (new := List.replicate n (Value.string q)) (old := us) (k := k) (by simp [hl]) (by omega)
        rw [← e]; simp
      case measure => simp [intOf]; omega
    · obtain rfl : k = n := by omega
      have e : mix (List.replicate k (.string q)) us k = List.replicate k (.string q) := by
        have := mix_all (new := List.replicate k (Value.string q)) (old := us) (by simp [hl])
        rw [hl] at this; exact this
      rw [e] at hLk
      obtain ⟨wo, rfl⟩ : ∃ wo, wo = wr := ⟨_, rfl⟩
      have hcl : ∀ b, lo = some b → ∀ j, j < k → wo.cell? (b.add j) = some (.string q) := fun b hb j hj => by
        rcases hLk with h | ⟨h1, h2⟩
        · omega
        · rw [h1] at hb; cases hb
          rw [Addr.add_lit, Nat.zero_add]; exact h2.cell_some (by simp [hj])
      have HNO : Hid (lo = none → k = 0) := fun h => by
        rcases hLk with h0 | ⟨h1, _⟩
        · exact h0.1
        · rw [h1] at h; cases h
      have hln : StrsIn wo wo.heap.size (.slice lo k k) (List.replicate k q) := by
        rcases hLk with ⟨h0, h1⟩ | ⟨h1, h2⟩
        · subst h0; exact ⟨lo, 0, rfl, .inl rfl⟩
        · rw [h1]; exact StrsIn.of_blk (by simpa using h2) k (by simp)
      have HCL : Hid (∀ b, lo = some b → ∀ j, j < k → wo.cell? (b.add j) = some (.string q)) := hcl
      have HS : Hid (St w wo B b c lb kv es) := hst
      have HLN : Hid (StrsIn wo wo.heap.size (.slice lo k k) (List.replicate k q)) := hln
      clear hst hLk hcl e hln
      go_wp2_with (first | (at_builtin; refine wpList_append_marks _ rfl (.tmp 34) (.tmp 36) 48 rfl Tryz.underlying48 infoStr lo k 1 q rfl (by omega) (by decide) (by decide) HNO.out (old_cells HCL.out (below_alloc _ _)) ⟨wo.heap.size, 0, none⟩ 1 rfl (by exact new_cells wo 1 q) ?_; intro a1 p1 w2 hone hb2; have HB2 : Hid (Below wo.heap.size wo w2) := (below_alloc wo _).trans (Below.mono hb2 (by simp)); have HONE : Hid (StrsIn w2 w2.heap.size (.slice a1 (k + 1) p1) (List.replicate (k + 1) q)) := hone; clear hb2 hone) | (at_builtin; refine wpList_append_marks _ rfl (.tmp 38) (.tmp 41) 48 rfl Tryz.underlying48 infoStr lo k 2 q rfl (by omega) (by decide) (by decide) HNO.out (old_cells HCL.out (HB2.out.trans ((below_alloc _ _).mono HB2.out.size))) ⟨w2.heap.size, 0, none⟩ 2 rfl (by exact new_cells w2 2 q) ?_; intro a2 p2 w3 htwo hb3; have HB3 : Hid (Below w2.heap.size w2 w3) := (below_alloc w2 _).trans (Below.mono hb3 (by simp)); have HTWO : Hid (StrsIn w3 w3.heap.size (.slice a2 (k + 2) p2) (List.replicate (k + 2) q)) := htwo; clear hb3 htwo) | (at_builtin; refine wpList_append_marks _ rfl (.tmp 43) (.tmp 47) 48 rfl Tryz.underlying48 infoStr lo k 3 q rfl (by omega) (by decide) (by decide) HNO.out (old_cells HCL.out ((HB2.out.trans (HB3.out.mono HB2.out.size)).trans ((below_alloc _ _).mono (Nat.le_trans HB2.out.size HB3.out.size)))) ⟨w3.heap.size, 0, none⟩ 3 rfl (by exact new_cells w3 3 q) ?_; intro a3 p3 w4 hthree hb4; have HB4 : Hid (Below w3.heap.size w3 w4) := (below_alloc w3 _).trans (Below.mono hb4 (by simp)); have HTHREE : Hid (StrsIn w4 w4.heap.size (.slice a3 (k + 3) p3) (List.replicate (k + 3) q)) := hthree; clear hb4 hthree))
      have S4 : St w w4 B b c lb kv es := HS.out.to (HB2.out.trans ((HB3.out.mono HB2.out.size).trans (HB4.out.mono (Nat.le_trans HB2.out.size HB3.out.size))))
      have hc0 := S4.blk.cell_some (k := 0) rfl
      have hc1 := S4.blk.cell_some (k := 1) rfl
      have hf1 := S4.blk.free 1
      rw [show ((c + 1 : Nat) : Int) = (c : Int) + 1 by omega] at hc0
      have HC0 : Hid (w4.drew.cell? ⟨b, 0, none⟩ = some (.int .i64 ((c : Int) + 1))) := hc0
      have hb4lt := S4.blk.lt
      have HS4 : Hid (St w w4 B b c lb kv es) := S4
      have hk1 : IntKind.i64.wrap ((k : Int) + 1) = (k : Int) + 1 := by rw [IntKind.wrap_i64]; omega
      have hk2 : IntKind.i64.wrap ((k : Int) + 2) = (k : Int) + 2 := by rw [IntKind.wrap_i64]; omega
      have hk3 : IntKind.i64.wrap ((k : Int) + 3) = (k : Int) + 3 := by rw [IntKind.wrap_i64]; omega
      obtain ⟨ka, kc, rfl⟩ : ∃ ao c', kv = .slice ao (4 * c) c' := by
        rcases S4.own.2 with ⟨rfl, h0⟩ | ⟨g, cap, cur, rfl, _⟩
        · rw [h0]; exact ⟨_, _, rfl⟩
        · exact ⟨_, _, rfl⟩
      have hnew : ∀ e, e ∈ newsOf c k (.slice lo k k) (.slice a1 (k + 1) p1) (.slice a2 (k + 2) p2) (.slice a3 (k + 3) p3) → e.ok w4 w4.heap.size := by
        have b24 := HB3.out.trans (HB4.out.mono HB3.out.size)
        have bo4 := HB2.out.trans (b24.mono HB2.out.size)
        exact newsOf_ok c k (by omega) (by omega) w4 q HQ.out (HLN.out.later bo4) (HONE.out.later b24) (HTWO.out.later HB4.out) HTHREE.out
      have HNEW : Hid (∀ e, e ∈ newsOf c k (.slice lo k k) (.slice a1 (k + 1) p1) (.slice a2 (k + 2) p2) (.slice a3 (k + 3) p3) → e.ok w4 w4.heap.size) := hnew
      clear S4 hc0 hnew
      refine wp_region_held (S := fun wx => wx.cell? ⟨b, 0, none⟩ = some (.int .i64 ((c : Int) + 1))) rfl ?_
      refine wpAnyH_take (i := 0) (v := (.pointer (some ⟨b, 0, none⟩))) rfl (by kernel_rfl) (by kernel_rfl) (by kernel_rfl) (fun _ _ _ h => h) (Or.inl ⟨by rfl, fun w hw => by go_simp⟩) HC0.out ?_
      refine wpAnyH_take (i := 1) (v := (.pointer (some ⟨b, 0, none⟩))) rfl (by kernel_rfl) (by kernel_rfl) (by kernel_rfl) (fun _ _ _ h => h) (Or.inl ⟨by rfl, fun w hw => by go_simp⟩) HC0.out ?_
      refine wpAnyH_take (i := 2) (v := (.pointer (some ⟨b, 0, none⟩))) rfl (by kernel_rfl) (by kernel_rfl) (by kernel_rfl) (fun _ _ _ h => h) (Or.inl ⟨by rfl, fun w hw => by go_simp⟩) HC0.out ?_
      refine wpAnyH_take (i := 3) (v := (.pointer (some ⟨b, 1, none⟩))) rfl (by kernel_rfl) (by kernel_rfl) (by kernel_rfl) (fun _ _ _ h => h) (Or.inl ⟨by rfl, fun w hw => by go_simp⟩) HC0.out ?_
      refine wpAnyH_take (i := 5) (v := (.pointer (some ⟨b, 0, none⟩))) rfl (by kernel_rfl) (by kernel_rfl) (by kernel_rfl) (fun _ _ _ h => h) (Or.inl ⟨by rfl, fun w hw => by go_simp⟩) HC0.out ?_
      simp only [Act.put]
      refine wpAnyH_take (i := 6) (v := (.pointer (some ⟨b, 0, none⟩))) rfl (by kernel_rfl) (by kernel_rfl) (by kernel_rfl) (fun _ _ _ h => h) (Or.inl ⟨by rfl, fun w hw => by go_simp⟩) HC0.out ?_
      refine wpAnyH_take (i := 7) (v := (.pointer (some ⟨b, 0, none⟩))) rfl (by kernel_rfl) (by kernel_rfl) (by kernel_rfl) (fun _ _ _ h => h) (Or.inl ⟨by rfl, fun w hw => by go_simp⟩) HC0.out ?_
      refine wpAnyH_take (i := 8) (v := (.int .i64 ((c : Int) + 1))) rfl (by kernel_rfl) (by kernel_rfl) (by kernel_rfl) (fun _ _ _ h => h) (Or.inl ⟨by rfl, fun w hw => by go_simp⟩) HC0.out ?_
      refine wpAnyH_take (i := 9) (v := (.int .i64 (k : Int))) rfl (by kernel_rfl) (by kernel_rfl) (by kernel_rfl) (fun _ _ _ h => h) (Or.inl ⟨by rfl, fun w hw => by go_simp⟩) HC0.out ?_
      refine wpAnyH_take (i := 10) (v := (.slice lo k k)) rfl (by kernel_rfl) (by kernel_rfl) (by kernel_rfl) (fun _ _ _ h => h) (Or.inl ⟨by rfl, fun w hw => by go_simp⟩) HC0.out ?_
      refine wpAnyH_take (i := 11) (v := (.agg #[.int .i64 ((c : Int) + 1), .int .i64 (k : Int), .slice lo k k, .slice none 0 0, .slice none 0 0])) rfl (by kernel_rfl) (by kernel_rfl) (by kernel_rfl) (fun _ _ _ h => h) (Or.inl ⟨by rfl, fun w hw => by go_simp⟩) HC0.out ?_
      simp only [Act.put]
      refine wpAnyH_take (i := 12) (v := (.pointer (some ⟨b, 0, none⟩))) rfl (by kernel_rfl) (by kernel_rfl) (by kernel_rfl) (fun _ _ _ h => h) (Or.inl ⟨by rfl, fun w hw => by go_simp⟩) HC0.out ?_
      refine wpAnyH_take (i := 13) (v := (.pointer (some ⟨b, 0, none⟩))) rfl (by kernel_rfl) (by kernel_rfl) (by kernel_rfl) (fun _ _ _ h => h) (Or.inl ⟨by rfl, fun w hw => by go_simp⟩) HC0.out ?_
      refine wpAnyH_take (i := 14) (v := (.pointer (some ⟨b, 0, none⟩))) rfl (by kernel_rfl) (by kernel_rfl) (by kernel_rfl) (fun _ _ _ h => h) (Or.inl ⟨by rfl, fun w hw => by go_simp⟩) HC0.out ?_
      refine wpAnyH_take (i := 15) (v := (.int .i64 ((c : Int) + 1))) rfl (by kernel_rfl) (by kernel_rfl) (by kernel_rfl) (fun _ _ _ h => h) (Or.inl ⟨by rfl, fun w hw => by go_simp⟩) HC0.out ?_
      refine wpAnyH_take (i := 16) (v := (.int .i64 (k : Int))) rfl (by kernel_rfl) (by kernel_rfl) (by kernel_rfl) (fun _ _ _ h => h) (Or.inl ⟨by rfl, fun w hw => by go_simp⟩) HC0.out ?_
      refine wpAnyH_take (i := 17) (v := (.int .i64 ((k : Int) + 1))) rfl (by kernel_rfl) (by kernel_rfl) (by kernel_rfl) (fun _ _ _ h => h) (Or.inl ⟨by rfl, fun w hw => by go_simp⟩) HC0.out ?_
      simp only [Act.put]
      refine wpAnyH_take (i := 18) (v := (.slice a1 (k + 1) p1)) rfl (by kernel_rfl) (by kernel_rfl) (by kernel_rfl) (fun _ _ _ h => h) (Or.inl ⟨by rfl, fun w hw => by go_simp⟩) HC0.out ?_
      refine wpAnyH_take (i := 19) (v := (.agg #[.int .i64 ((c : Int) + 1), .int .i64 ((k : Int) + 1), .slice a1 (k + 1) p1, .slice none 0 0, .slice none 0 0])) rfl (by kernel_rfl) (by kernel_rfl) (by kernel_rfl) (fun _ _ _ h => h) (Or.inl ⟨by rfl, fun w hw => by go_simp⟩) HC0.out ?_
      refine wpAnyH_take (i := 20) (v := (.pointer (some ⟨b, 0, none⟩))) rfl (by kernel_rfl) (by kernel_rfl) (by kernel_rfl) (fun _ _ _ h => h) (Or.inl ⟨by rfl, fun w hw => by go_simp⟩) HC0.out ?_
      refine wpAnyH_take (i := 21) (v := (.pointer (some ⟨b, 0, none⟩))) rfl (by kernel_rfl) (by kernel_rfl) (by kernel_rfl) (fun _ _ _ h => h) (Or.inl ⟨by rfl, fun w hw => by go_simp⟩) HC0.out ?_
      refine wpAnyH_take (i := 22) (v := (.pointer (some ⟨b, 0, none⟩))) rfl (by kernel_rfl) (by kernel_rfl) (by kernel_rfl) (fun _ _ _ h => h) (Or.inl ⟨by rfl, fun w hw => by go_simp⟩) HC0.out ?_
      refine wpAnyH_take (i := 23) (v := (.int .i64 ((c : Int) + 1))) rfl (by kernel_rfl) (by kernel_rfl) (by kernel_rfl) (fun _ _ _ h => h) (Or.inl ⟨by rfl, fun w hw => by go_simp⟩) HC0.out ?_
      simp only [Act.put]
      refine wpAnyH_take (i := 24) (v := (.int .i64 (k : Int))) rfl (by kernel_rfl) (by kernel_rfl) (by kernel_rfl) (fun _ _ _ h => h) (Or.inl ⟨by rfl, fun w hw => by go_simp⟩) HC0.out ?_
      refine wpAnyH_take (i := 25) (v := (.int .i64 ((k : Int) + 2))) rfl (by kernel_rfl) (by kernel_rfl) (by kernel_rfl) (fun _ _ _ h => h) (Or.inl ⟨by rfl, fun w hw => by go_simp⟩) HC0.out ?_
      refine wpAnyH_take (i := 26) (v := (.slice a2 (k + 2) p2)) rfl (by kernel_rfl) (by kernel_rfl) (by kernel_rfl) (fun _ _ _ h => h) (Or.inl ⟨by rfl, fun w hw => by go_simp⟩) HC0.out ?_
      refine wpAnyH_take (i := 27) (v := (.agg #[.int .i64 ((c : Int) + 1), .int .i64 ((k : Int) + 2), .slice a2 (k + 2) p2, .slice none 0 0, .slice none 0 0])) rfl (by kernel_rfl) (by kernel_rfl) (by kernel_rfl) (fun _ _ _ h => h) (Or.inl ⟨by rfl, fun w hw => by go_simp⟩) HC0.out ?_
      refine wpAnyH_take (i := 28) (v := (.pointer (some ⟨b, 0, none⟩))) rfl (by kernel_rfl) (by kernel_rfl) (by kernel_rfl) (fun _ _ _ h => h) (Or.inl ⟨by rfl, fun w hw => by go_simp⟩) HC0.out ?_
      refine wpAnyH_take (i := 29) (v := (.pointer (some ⟨b, 0, none⟩))) rfl (by kernel_rfl) (by kernel_rfl) (by kernel_rfl) (fun _ _ _ h => h) (Or.inl ⟨by rfl, fun w hw => by go_simp⟩) HC0.out ?_
      simp only [Act.put]
      refine wpAnyH_take (i := 30) (v := (.pointer (some ⟨b, 0, none⟩))) rfl (by kernel_rfl) (by kernel_rfl) (by kernel_rfl) (fun _ _ _ h => h) (Or.inl ⟨by rfl, fun w hw => by go_simp⟩) HC0.out ?_
      refine wpAnyH_take (i := 31) (v := (.int .i64 ((c : Int) + 1))) rfl (by kernel_rfl) (by kernel_rfl) (by kernel_rfl) (fun _ _ _ h => h) (Or.inl ⟨by rfl, fun w hw => by go_simp⟩) HC0.out ?_
      refine wpAnyH_take (i := 32) (v := (.int .i64 (k : Int))) rfl (by kernel_rfl) (by kernel_rfl) (by kernel_rfl) (fun _ _ _ h => h) (Or.inl ⟨by rfl, fun w hw => by go_simp⟩) HC0.out ?_
      refine wpAnyH_take (i := 33) (v := (.int .i64 ((k : Int) + 3))) rfl (by kernel_rfl) (by kernel_rfl) (by kernel_rfl) (fun _ _ _ h => h) (Or.inl ⟨by rfl, fun w hw => by go_simp⟩) HC0.out ?_
      refine wpAnyH_take (i := 34) (v := (.slice a3 (k + 3) p3)) rfl (by kernel_rfl) (by kernel_rfl) (by kernel_rfl) (fun _ _ _ h => h) (Or.inl ⟨by rfl, fun w hw => by go_simp⟩) HC0.out ?_
      refine wpAnyH_take (i := 35) (v := (.agg #[.int .i64 ((c : Int) + 1), .int .i64 ((k : Int) + 3), .slice a3 (k + 3) p3, .slice none 0 0, .slice none 0 0])) rfl (by kernel_rfl) (by kernel_rfl) (by kernel_rfl) (fun _ _ _ h => h) (Or.inl ⟨by rfl, fun w hw => by go_simp⟩) HC0.out ?_
      simp only [Act.put]
      refine wpAnyH_ready (rs := [4, 36]) (by kernel_rfl) (by simp) ?_
      refine AllReadyH.cons rfl (fun K hK => ?_) (AllReadyH.cons rfl (fun K hK => ?_) AllReadyH.nil)
      · go_simp
        refine hK.out _ _ HC0.out (fun _ => ?_)
        clear hK K
        refine wpAnyH_ready (rs := [36]) (by kernel_rfl) (by simp) ?_
        refine AllReadyH.cons rfl (fun K hK => ?_) AllReadyH.nil
        go_simp
        refine hK.out _ _ (by exact old_cell (w := w4) HC0.out _) (fun _ => ?_)
        clear hK K
        refine wpAnyH_ready (rs := [37]) (by kernel_rfl) (by simp) ?_
        refine AllReadyH.cons rfl (fun K hK => ?_) AllReadyH.nil
        refine step_append_many rfl (.tmp 53) (.tmp 85) 23 rfl B 61 _ 5 88 Tryz.underlying23 infoKept rfl (by decide) (.slice ka (4 * c) kc) (4 * c) (es.flatMap Ent.cells) rfl (by exact (HS4.out.own.alloc _).drew) ⟨w4.heap.size, 0, none⟩ 4 4 [.int .i64 ((c : Int) + 1), .int .i64 (k : Int), .slice lo k k, .slice none 0 0, .slice none 0 0, .int .i64 ((c : Int) + 1), .int .i64 ((k : Int) + 1), .slice a1 (k + 1) p1, .slice none 0 0, .slice none 0 0, .int .i64 ((c : Int) + 1), .int .i64 ((k : Int) + 2), .slice a2 (k + 2) p2, .slice none 0 0, .slice none 0 0, .int .i64 ((c : Int) + 1), .int .i64 ((k : Int) + 3), .slice a3 (k + 3) p3, .slice none 0 0, .slice none 0 0] rfl rfl (many_cells w4 61 _) (by intro u hu; simp only [List.mem_cons, List.not_mem_nil, or_false] at hu; rcases hu with h | h | h | h | h | h | h | h | h | h | h | h | h | h | h | h | h | h | h | h <;> (rw [h]; rfl)) (by unfold maxLen; omega) (by omega) (by simp; omega) ?_
        intro kv' w5 ho hg
        have hb41 : Below w4.heap.size w4 ((w4.alloc (.cells ([.int .i64 ((c : Int) + 1), .int .i64 (k : Int), .slice lo k k, .slice none 0 0, .slice none 0 0, .int .i64 ((c : Int) + 1), .int .i64 ((k : Int) + 1), .slice a1 (k + 1) p1, .slice none 0 0, .slice none 0 0, .int .i64 ((c : Int) + 1), .int .i64 ((k : Int) + 2), .slice a2 (k + 2) p2, .slice none 0 0, .slice none 0 0, .int .i64 ((c : Int) + 1), .int .i64 ((k : Int) + 3), .slice a3 (k + 3) p3, .slice none 0 0, .slice none 0 0] : List Value).toArray 61)).drew) := (below_alloc w4 _).drew
        have hblk5 := HS4.out.after hb41 hg
        obtain ⟨va, vc, rfl⟩ := owns_slice' ho
        have c05 := hblk5.cell_some (k := 0) rfl
        have c15 := hblk5.cell_some (k := 1) rfl
        have f15 := hblk5.free 1
        rw [← newsOf_cells] at ho
        have R := HS4.out.book hb41 hel rfl ho hg (fun e he => by
          obtain ⟨x1, x2, x3, x4⟩ := HNEW.out e he
          exact ⟨x1, x2, x3, x4.later hb41⟩)
        have HR : Hid _ := R
        have HC5 : Hid (w5.cell? ⟨b, 0, none⟩ = some (.int .i64 ((c : Int) + 1))) := c05
        have c06 : Hid ((w5.setCell ⟨b, 1, none⟩ (.slice va (4 * c + 4) vc)).cell? ⟨b, 0, none⟩ = some (.int .i64 ((c : Int) + 1))) := (hblk5.set 1 _).cell_some rfl
        clear R hblk5 hb41 hg ho c05
        refine hK.out _ _ HC5.out (fun _ => ?_)
        clear hK K
        refine wpAnyH_take (i := 38) (v := .pointer (some ⟨b, 0, none⟩)) rfl (by kernel_rfl) (by kernel_rfl) (by kernel_rfl) (fun _ _ _ h => h) (Or.inl ⟨by rfl, fun w hw => by go_simp⟩) HC5.out ?_
        refine wpAnyH_take (i := 39) (v := .pointer (some ⟨b, 1, none⟩)) rfl (by kernel_rfl) (by kernel_rfl) (by kernel_rfl) (fun _ _ _ h => h) (Or.inl ⟨by rfl, fun w hw => by go_simp⟩) HC5.out ?_
        simp only [Act.put]
        refine wpAnyH_ready (rs := [40]) (by kernel_rfl) (by simp) ?_
        refine AllReadyH.cons rfl (fun K hK => ?_) AllReadyH.nil
        go_simp
        refine hK.out _ _ c06.out (fun _ => ?_)
        clear hK K
        refine wpAnyH_done (by kernel_rfl) ?_ _
        go_wp2
        go_end0
        exact ⟨rfl, HR.out⟩
      · go_simp
        refine hK.out _ _ (by exact old_cell (w := w4) HC0.out _) (fun _ => ?_)
        clear hK K
        refine wpAnyH_ready (rs := [4]) (by kernel_rfl) (by simp) ?_
        refine AllReadyH.cons rfl (fun K hK => ?_) AllReadyH.nil
        go_simp
        refine hK.out _ _ (by exact old_cell (w := w4) HC0.out _) (fun _ => ?_)
        clear hK K
        refine wpAnyH_ready (rs := [37]) (by kernel_rfl) (by simp) ?_
        refine AllReadyH.cons rfl (fun K hK => ?_) AllReadyH.nil
        refine step_append_many rfl (.tmp 53) (.tmp 85) 23 rfl B 61 _ 5 88 Tryz.underlying23 infoKept rfl (by decide) (.slice ka (4 * c) kc) (4 * c) (es.flatMap Ent.cells) rfl (by exact (HS4.out.own.alloc _).drew) ⟨w4.heap.size, 0, none⟩ 4 4 [.int .i64 ((c : Int) + 1), .int .i64 (k : Int), .slice lo k k, .slice none 0 0, .slice none 0 0, .int .i64 ((c : Int) + 1), .int .i64 ((k : Int) + 1), .slice a1 (k + 1) p1, .slice none 0 0, .slice none 0 0, .int .i64 ((c : Int) + 1), .int .i64 ((k : Int) + 2), .slice a2 (k + 2) p2, .slice none 0 0, .slice none 0 0, .int .i64 ((c : Int) + 1), .int .i64 ((k : Int) + 3), .slice a3 (k + 3) p3, .slice none 0 0, .slice none 0 0] rfl rfl (many_cells w4 61 _) (by intro u hu; simp only [List.mem_cons, List.not_mem_nil, or_false] at hu; rcases hu with h | h | h | h | h | h | h | h | h | h | h | h | h | h | h | h | h | h | h | h <;> (rw [h]; rfl)) (by unfold maxLen; omega) (by omega) (by simp; omega) ?_
        intro kv' w5 ho hg
        have hb41 : Below w4.heap.size w4 ((w4.alloc (.cells ([.int .i64 ((c : Int) + 1), .int .i64 (k : Int), .slice lo k k, .slice none 0 0, .slice none 0 0, .int .i64 ((c : Int) + 1), .int .i64 ((k : Int) + 1), .slice a1 (k + 1) p1, .slice none 0 0, .slice none 0 0, .int .i64 ((c : Int) + 1), .int .i64 ((k : Int) + 2), .slice a2 (k + 2) p2, .slice none 0 0, .slice none 0 0, .int .i64 ((c : Int) + 1), .int .i64 ((k : Int) + 3), .slice a3 (k + 3) p3, .slice none 0 0, .slice none 0 0] : List Value).toArray 61)).drew) := (below_alloc w4 _).drew
        have hblk5 := HS4.out.after hb41 hg
        obtain ⟨va, vc, rfl⟩ := owns_slice' ho
        have c05 := hblk5.cell_some (k := 0) rfl
        have c15 := hblk5.cell_some (k := 1) rfl
        have f15 := hblk5.free 1
        rw [← newsOf_cells] at ho
        have R := HS4.out.book hb41 hel rfl ho hg (fun e he => by
          obtain ⟨x1, x2, x3, x4⟩ := HNEW.out e he
          exact ⟨x1, x2, x3, x4.later hb41⟩)
        have HR : Hid _ := R
        have HC5 : Hid (w5.cell? ⟨b, 0, none⟩ = some (.int .i64 ((c : Int) + 1))) := c05
        have c06 : Hid ((w5.setCell ⟨b, 1, none⟩ (.slice va (4 * c + 4) vc)).cell? ⟨b, 0, none⟩ = some (.int .i64 ((c : Int) + 1))) := (hblk5.set 1 _).cell_some rfl
        clear R hblk5 hb41 hg ho c05
        refine hK.out _ _ HC5.out (fun _ => ?_)
        clear hK K
        refine wpAnyH_take (i := 38) (v := .pointer (some ⟨b, 0, none⟩)) rfl (by kernel_rfl) (by kernel_rfl) (by kernel_rfl) (fun _ _ _ h => h) (Or.inl ⟨by rfl, fun w hw => by go_simp⟩) HC5.out ?_
        refine wpAnyH_take (i := 39) (v := .pointer (some ⟨b, 1, none⟩)) rfl (by kernel_rfl) (by kernel_rfl) (by kernel_rfl) (fun _ _ _ h => h) (Or.inl ⟨by rfl, fun w hw => by go_simp⟩) HC5.out ?_
        simp only [Act.put]
        refine wpAnyH_ready (rs := [40]) (by kernel_rfl) (by simp) ?_
        refine AllReadyH.cons rfl (fun K hK => ?_) AllReadyH.nil
        go_simp
        refine hK.out _ _ c06.out (fun _ => ?_)
        clear hK K
        refine wpAnyH_done (by kernel_rfl) ?_ _
        go_wp2
        go_end0
        exact ⟨rfl, HR.out⟩
end Go.Proofs.YtokmllopbfmadaaGreatDoor.Book
