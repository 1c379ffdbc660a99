import Derived.Test.YtokmllopbfmadaaGreatDoorGBookN2
/- Marks of numbers onto a list that may have room. -/
namespace Go.Proofs.YtokmllopbfmadaaGreatDoor.BookN
open Go.RowKit Mem FieldWalks Tab ByTab Parts Plans
open Book (StrsIn markS old_cell below_alloc many_cells owns_slice' step_append_many infoKept ownsRow_kept)

theorem addrI_add (B j : Nat) : (⟨B, 0, none⟩ : Addr).add j = ⟨B, j, none⟩ := by cases j <;> simp [Addr.add]
def marksI (m c : Nat) : List Value := List.replicate m (mN c)
theorem marksI_length (m c : Nat) : (marksI m c).length = m := by simp [marksI]
theorem marksI_get (c m k : Nat) (h : k < m) : (marksI m c)[k]? = some (mN c) := by simp [marksI, h]
theorem marksI_add (a b c : Nat) : marksI a c ++ marksI b c = marksI (a + b) c := by unfold marksI; rw [List.replicate_append_replicate]
/-- The first M elements are marks. -/
def MkI (us : List Value) (M c : Nat) : Prop := ∀ k, k < M → us[k]? = some (mN c)
theorem MkI.take {us : List Value} {M c n : Nat} (h : MkI us M c) (hn : n ≤ M) (hl : n ≤ us.length) : us.take n = marksI n c := by
  apply List.ext_getElem?
  intro i
  by_cases hi : i < n
  · rw [List.getElem?_take_of_lt hi, h i (by omega), marksI_get c n i hi]
  · rw [List.getElem?_eq_none (by simp; omega), List.getElem?_eq_none (by rw [marksI_length]; omega)]
/-- The list that is being marked. -/
def LStI (w : World) (v : Value) (n cap c : Nat) : Prop :=
  (n = 0 ∧ cap = 0 ∧ v = .slice none 0 0) ∨ ∃ g us M, v = .slice (some ⟨g, 0, none⟩) n cap ∧ Blk w g 3 us ∧ us.length = cap ∧ n ≤ M ∧ n ≤ cap ∧ cap ≤ maxLen ∧ MkI us M c
theorem LStI.to {w w' : World} {v : Value} {n cap c : Nat} (h : LStI w v n cap c) (hb : Below w.heap.size w w') : LStI w' v n cap c := by
  rcases h with h | ⟨g, us, M, h1, h2, r⟩
  · exact .inl h
  · exact .inr ⟨g, us, M, h1, h2.to hb, r⟩
theorem LStI.nIn {w : World} {v : Value} {n cap c : Nat} (h : LStI w v n cap c) : NIn w w.heap.size v n c := by
  rcases h with ⟨rfl, rfl, rfl⟩ | ⟨g, us, M, rfl, h2, h3, h4, _, _, h5⟩
  · exact ⟨_, _, rfl, .inl rfl⟩
  · exact ⟨_, _, rfl, .inr ⟨g, us.toArray, rfl, h2.lt, h2, fun k hk => by simpa using h5 k (by omega)⟩⟩
theorem mkI_room {us : List Value} {M c n m : Nat} (h : MkI us M c) (hn : n ≤ M) (hl : n + m ≤ us.length) : ∀ K, MkI us K c → MkI (us.take n ++ marksI m c ++ us.drop (n + (marksI m c).length)) (max K (n + m)) c := by
  intro K hK k hk
  rw [h.take hn (by omega), marksI_add]
  by_cases h1 : k < n + m
  · rw [List.getElem?_append_left (by rw [marksI_length]; omega)]; exact marksI_get c _ k h1
  · rw [List.getElem?_append_right (by rw [marksI_length]; omega), List.getElem?_drop, marksI_length, marksI_length, show n + m + (k - (n + m)) = k by omega]
    exact hK k (by omega)
theorem nIn_new (w : World) (A : Array Value) (rest : List Value) {k c : Nat} (hA : A.toList = marksI k c ++ rest) (cap : Nat) : NIn (w.drew.alloc (.cells A 3)) (w.drew.alloc (.cells A 3)).heap.size (.slice (some ⟨w.heap.size, 0, none⟩) k cap) k c :=
  ⟨_, _, rfl, .inr ⟨w.heap.size, A, rfl, by simp, heap_alloc_new w.drew _, fun j hj => by
    have e : A[j]? = A.toList[j]? := by simp
    rw [e, hA, List.getElem?_append_left (by rw [marksI_length]; omega)]; exact marksI_get c k j hj⟩⟩
set_option maxRecDepth 100000 in
/-- append of marks onto the list: what it reads as, and what stays. -/
theorem run_marksI (w : World) (v : Value) (n cap c m : Nat) (h : LStI w v n cap c) (ad : Addr) (cc : Nat) (hm : 0 < m) (hm2 : m ≤ 10) (hn : n ≤ 1000000) (hnews : ∀ (j : Nat) (u : Value), (marksI m c)[j]? = some u → w.cell? (ad.add j) = some u) (ty : TypeId) :
    ∃ v' w', (Builtin.append_ #[32, 32] ty #[v, .slice (some ad) m cc]).run Tryz.prog w = .ok v' w' ∧ NIn w' w'.heap.size v' (n + m) c ∧ (∃ ao' c', v' = .slice ao' (n + m) c') ∧ LStI w' v n cap c ∧ (∀ N v2 n2, NIn w N v2 n2 c → NIn w' N v2 n2 c) ∧ w.grownBy w' v.ownBlock := by
  obtain ⟨i0, hi, hz0, hz1, hz2⟩ := info_parts infoInt
  have hone : ∀ u ∈ marksI m c, u.oneCell' = true := by
    intro u hu
    have := List.eq_of_mem_replicate hu; subst this; rfl
  have hnl : (marksI m c).length = m * i0.size := by rw [marksI_length, hz1, Nat.mul_one]
  have h63 : ((n + m : Nat) : Int) ≤ 9223372036854775807 := by omega
  rcases h with ⟨rfl, rfl, rfl⟩ | ⟨g, us, M, rfl, hg, hul, hM, hnc, hcm, hmk⟩
  · have hr := run_append_nil (P := Tryz.prog) w 32 ty 3 i0 _ Tryz.underlying32 hi hz0 ad m cc (marksI m c) hnl hnews hm (by omega) (by rw [hz2]; omega)
    have hb : Below w.heap.size w (w.drew.alloc (.cells ((marksI m c).toArray ++ Builtin.zeroCells (Value.int .i64 0).cells (grownCap w m 0 3 - m)) 3)) := (Below.refl _ _).drew.alloc (Nat.le_refl _) _
    refine ⟨_, _, hr, ?_, ⟨_, _, by rw [Nat.zero_add]⟩, .inl ⟨rfl, rfl, rfl⟩, fun N v2 n2 h2 => h2.keep fun g cur _ hg => hb.block g (lt_of_block hg), ⟨hb.os, hb.tape, hb.output, hb.size, fun k hk _ => hb.block k hk⟩⟩
    rw [Nat.zero_add]
    exact nIn_new w _ _ (by rw [Array.toList_append, List.toList_toArray]) _
  · by_cases hroom : n + m ≤ cap
    · have hg' : w.heap[g]? = some (.cells us.toArray 3 (0, 0)) := hg
      have hr := run_append_room (P := Tryz.prog) w 32 ty 3 i0 Tryz.underlying32 hi g n cap us.toArray hg' ad m cc (marksI m c) hnl hnews hone hroom (by rw [marksI_length, hz1]; simp; omega)
      rw [hz1, List.toList_toArray, Nat.mul_one] at hr
      have hb2 := hg.row (us.take n ++ marksI m c ++ us.drop (n + (marksI m c).length)).toArray
      rw [List.toList_toArray] at hb2
      have hmm := mkI_room hmk hM (m := m) (by omega)
      have hlen : (us.take n ++ marksI m c ++ us.drop (n + (marksI m c).length)).length = cap := by
        simp only [List.length_append, List.length_take, List.length_drop, marksI_length]; omega
      have hgr : w.grownBy (w.setRow g (us.take n ++ marksI m c ++ us.drop (n + (marksI m c).length)).toArray) (some g) := ⟨rfl, rfl, rfl, by simp [World.setRow], fun k _ hk => setRow_other w g k _ (fun e => hk (by rw [e]))⟩
      have hst : LStI (w.setRow g (us.take n ++ marksI m c ++ us.drop (n + (marksI m c).length)).toArray) (.slice (some ⟨g, 0, none⟩) n cap) n cap c := .inr ⟨g, _, _, rfl, hb2, hlen, by omega, hnc, hcm, hmm M hmk⟩
      refine ⟨_, _, hr, ?_, ⟨_, _, rfl⟩, hst, fun N v2 n2 h2 => ?_, hgr⟩
      · exact ⟨_, _, rfl, .inr ⟨g, _, rfl, hb2.lt, hb2, fun k hk => by simpa using hmm M hmk k (by omega)⟩⟩
      · obtain ⟨ao, cap2, rfl, hx⟩ := h2
        refine ⟨ao, cap2, rfl, ?_⟩
        rcases hx with hx | ⟨g2, cur2, rfl, hN, hg2, hc2⟩
        · exact .inl hx
        · by_cases e : g2 = g
          · subst e
            rw [hg'] at hg2
            have e2 : cur2 = us.toArray := by injection hg2 with hg2; injection hg2 with hg2; exact hg2.symm
            refine .inr ⟨g2, _, rfl, hN, hb2, fun k hk => ?_⟩
            have := hmm n2 (fun k hk => by have := hc2 k hk; rw [e2] at this; simpa using this) k (by omega)
            simpa using this
          · exact .inr ⟨g2, cur2, rfl, hN, by rw [setRow_other w g g2 _ e]; exact hg2, hc2⟩
    · have hxs : us.take n = marksI n c := hmk.take hM (by omega)
      have holds : ∀ (j : Nat) (u : Value), (marksI n c)[j]? = some u → w.cell? ((⟨g, 0, none⟩ : Addr).add j) = some u := fun j u hu => by
        rw [addrI_add, hg.cell]
        have hj : j < n := by have := (List.getElem?_eq_some_iff.1 hu).1; rwa [marksI_length] at this
        rw [← hxs, List.getElem?_take_of_lt hj] at hu; exact hu
      have hr := run_append_grow (P := Tryz.prog) w 32 ty 3 i0 _ Tryz.underlying32 hi hz0 ⟨g, 0, none⟩ n cap (marksI n c) (by rw [marksI_length, hz1, Nat.mul_one]) holds ad m cc (marksI m c) hnl hnews (by omega) h63 (growslice_fits (by omega) (by rw [hz2]; omega))
      have hb : Below w.heap.size w (w.drew.alloc (.cells ((marksI n c).toArray ++ (marksI m c).toArray ++ Builtin.zeroCells (Value.int .i64 0).cells (grownCap w (n + m) cap 3 - (n + m))) 3)) := (Below.refl _ _).drew.alloc (Nat.le_refl _) _
      have hst : LStI w (.slice (some ⟨g, 0, none⟩) n cap) n cap c := .inr ⟨g, us, M, rfl, hg, hul, hM, hnc, hcm, hmk⟩
      exact ⟨_, _, hr, nIn_new w _ _ (by rw [Array.toList_append, Array.toList_append, List.toList_toArray, List.toList_toArray, marksI_add]) _, ⟨_, _, rfl⟩, hst.to hb, fun N v2 n2 h2 => h2.keep fun g cur _ hg => hb.block g (lt_of_block hg), ⟨hb.os, hb.tape, hb.output, hb.size, fun k hk _ => hb.block k hk⟩⟩
/-- The book with its number raised and its lists as they were, while the numbers of v are written. -/
structure StI (w0 w : World) (B b c N lb : Nat) (kv : Value) (es : List Ent) (v : Value) : Prop where
  rest : ∀ g us, Blk w0 g 3 us → v.ownBlock ≠ some g → w.heap[g]? = w0.heap[g]?
  st : St 3 w0 w B b c N lb kv es
theorem StI.to {w0 w w' : World} {B b c N lb : Nat} {kv v : Value} {es : List Ent} (h : StI w0 w B b c N lb kv es v) (hb : Below w.heap.size w w') : StI w0 w' B b c N lb kv es v :=
  ⟨fun g us hg hne => by
    have h1 := h.rest g us hg hne
    have h2 : Blk w g 3 us := by unfold Blk; rw [h1]; exact hg
    rw [hb.block g h2.lt]; exact h1, h.st.to hb⟩
theorem StI.start {w : World} {B b c N lb : Nat} {kv v : Value} {es : List Ent} (hB : B ≤ b) (hN : B ≤ N) (hlb : B ≤ lb) (hblk : Blk w b 25 [.int .i64 c, kv]) (hown : w.ownsRow B 61 5 kv (4 * c) (es.flatMap Ent.cells)) (hes : ∀ e, e ∈ es → e.ok w N lb) :
    StI w (w.setCell ⟨b, 0, none⟩ (.int .i64 ((c : Int) + 1))) B b c N lb kv es v :=
  ⟨fun g us hg _ => Below.heap_setCell _ _ _ _ (by exact hg.type_ne hblk (by decide)), St.start hB hN hlb hblk hown hes⟩
/-- Behind the append and the store the book holds four more. -/
theorem StI.book {w0 w w1 w2 : World} {B b c N lb : Nat} {kv kv' v : Value} {es news : List Ent} (h : StI w0 w B b c N lb kv es v) (hb : Below w.heap.size w w1) (hel : es.length = 4 * c) (hnl : news.length = 4)
    (ho : w2.ownsRow B 61 5 kv' (4 * c + 4) (es.flatMap Ent.cells ++ news.flatMap Ent.cells)) (hg : w1.grownBy w2 kv.ownBlock)
    (hnew : ∀ e, e ∈ news → e.ok w1 N w1.heap.size) : BookAt (w2.setCell ⟨b, 1, none⟩ kv') B b (c + 1) N (w2.setCell ⟨b, 1, none⟩ kv').heap.size ∧ Below B w0 (w2.setCell ⟨b, 1, none⟩ kv') ∧ (∀ g us, Blk w0 g 3 us → v.ownBlock ≠ some g → (w2.setCell ⟨b, 1, none⟩ kv').heap[g]? = w0.heap[g]?) ∧ ∀ g t us, t ≠ 3 → t ≠ 25 → t ≠ 61 → Blk w0 g t us → (w2.setCell ⟨b, 1, none⟩ kv').heap[g]? = w0.heap[g]? := by
  obtain ⟨r1, r2, r3⟩ := h.st.book hb hel hnl ho hg (fun e he => Ent.hereI he) hnew
  refine ⟨r1.mono (Nat.le_refl _) (by rw [size_setCell]; exact hg.size), r2, fun g us hg0 hne => ?_, r3⟩
  have h1 := h.to hb
  have h2 := h1.rest g us hg0 hne
  have h3 : Blk w1 g 3 us := by unfold Blk; rw [h2]; exact hg0
  have hblk := h1.st.blk
  rw [Below.heap_setCell _ _ _ _ (by exact h3.type_ne hblk (by decide))]
  rw [hg.block g h3.lt (fun e => ?_)]
  · exact h2
  · rcases h1.st.own.2 with ⟨rfl, _⟩ | ⟨g', cap, cur', rfl, _, hh, _⟩
    · simp [Value.ownBlock] at e
    · simp [Value.ownBlock] at e
      subst e
      unfold Blk at h3
      rw [h3] at hh
      simp at hh
/-- One row of numbers above lb is written. -/
theorem StI.grown {w0 w w' : World} {B b c N lb : Nat} {kv v : Value} {es : List Ent} (h : StI w0 w B b c N lb kv es v) (hg : w.grownBy w' v.ownBlock) (hv : ∀ g, v.ownBlock = some g → lb ≤ g ∧ ∃ us, Blk w g 3 us) : StI w0 w' B b c N lb kv es v := by
  have keep : ∀ (g : Nat) (t : TypeId) (us : List Value), t ≠ 3 → Blk w g t us → w'.heap[g]? = w.heap[g]? := fun g t us ht hb => hg.block g hb.lt (fun e => by
    obtain ⟨_, vs, hvs⟩ := hv g e.symm
    exact hb.type_ne hvs ht rfl)
  refine ⟨fun g us hg0 hne => by
    have h1 := h.rest g us hg0 hne
    have h2 : Blk w g 3 us := by unfold Blk; rw [h1]; exact hg0
    rw [hg.block g h2.lt (fun e => hne e.symm)]; exact h1, h.st.low, h.st.high, h.st.highI, by unfold Blk; rw [keep _ _ _ (by decide) h.st.blk]; exact h.st.blk, ownsRow_kept h.st.own fun g cur hgg => keep g 61 cur.toList (by decide) (by unfold Blk; rw [hgg]), fun e he => ?_, h.st.below.grown hg (by have := h.st.blk.lt; have := h.st.low; omega) (fun k hk => Nat.le_trans h.st.highI (hv k hk).1), fun g t us h1 h2 h3 hg0 => by
    have h4 := h.st.side g t us h1 h2 h3 hg0
    have h5 : Blk w g t us := by unfold Blk; rw [h4]; exact hg0
    rw [keep g t us h1 h5]; exact h4⟩
  exact Ent.keep (h.st.ok e he) (fun g cur _ hgg => keep g 9 cur.toList (by decide) (by unfold Blk; rw [hgg])) (fun g cur hlt hgg => hg.block g (lt_of_block hgg) (fun e => by have := (hv g e.symm).1; omega))
theorem LStI.block {w : World} {v : Value} {n cap c lb : Nat} (h : LStI w v n cap c) (hl : ∀ g, v.ownBlock = some g → lb ≤ g) : ∀ g, v.ownBlock = some g → lb ≤ g ∧ ∃ us, Blk w g 3 us := by
  intro g hg
  rcases h with ⟨_, _, rfl⟩ | ⟨g', us, M, rfl, hb, _⟩
  · cases hg
  · obtain rfl := Option.some.inj hg; exact ⟨hl _ rfl, us, hb⟩
theorem wpList_append_marksI (w : World) {ops : Array Oper} {rest : List Oper} {o : Oper} {a : Act} {Q : Exit → Act → World → Prop}
    (hgd : o.guard = none) (s x : Operand) (hop : o.op = Op.call { callee := Callee.builtin Builtin.append, args := #[s, x], argTypes := #[32, 32] })
    (v : Value) (n cap c m : Nat) (hs : a.eval s = v) (h : LStI w v n cap c) (ad : Addr) (cc : Nat) (hx : a.eval x = .slice (some ad) m cc) (hm : 0 < m) (hm2 : m ≤ 10) (hn : n ≤ 1000000) (hnews : ∀ (j : Nat) (u : Value), (marksI m c)[j]? = some u → w.cell? (ad.add j) = some u)
    (hK : ∀ ao' c' w', NIn w' w'.heap.size (.slice ao' (n + m) c') (n + m) c → LStI w' v n cap c → (∀ N v2 n2, NIn w N v2 n2 c → NIn w' N v2 n2 c) → w.grownBy w' v.ownBlock → wpList Tryz.prog ops Q rest (a.put o.dst (.slice ao' (n + m) c')) w') :
    wpList Tryz.prog ops Q (o :: rest) a w := by
  refine wpList_plain hgd fun K hK' => ?_
  obtain ⟨v', w', hrun, h1, ⟨ao', c', rfl⟩, h2, h3, h4⟩ := run_marksI w v n cap c m h ad cc hm hm2 hn hnews o.type
  have := hK ao' c' w' h1 h2 h3 h4
  unfold Oper.wp
  simp [execOp, hop, resolve, invoke, builtin, hs, hx, hrun, Result.andThen]
  exact hK' _ _ this
theorem mkI_set {us : List Value} {k c : Nat} (h : MkI us k c) (hk : k < us.length) : MkI (us.set k (mN c)) (k + 1) c := by
  intro q hq
  by_cases e : q = k
  · subst e; rw [List.getElem?_set_self hk]
  · rw [List.getElem?_set_ne (by omega)]; exact h q (by omega)
theorem markI_cells {W : World} {g m c : Nat} (h : Blk W g 3 (marksI m c)) (j : Nat) (u : Value) (hu : (marksI m c)[j]? = some u) : W.cell? ((⟨g, 0, none⟩ : Addr).add j) = some u := by
  rw [addrI_add]; exact h.cell_some hu
/-- The four that come into the book with a list of k numbers. -/
def newsI (c k : Nat) (l a1 a2 a3 : Value) : List Ent := [⟨c + 1, k, .slice none 0 0, l⟩, ⟨c + 1, k + 1, .slice none 0 0, a1⟩, ⟨c + 1, k + 2, .slice none 0 0, a2⟩, ⟨c + 1, k + 3, .slice none 0 0, a3⟩]
theorem newsI_ok (N c k : Nat) (hc : c ≤ 8) (hk : k ≤ 90) (w : World) {l a1 a2 a3 : Value} (h0 : NIn w w.heap.size l k (c + 1)) (h1 : NIn w w.heap.size a1 (k + 1) (c + 1))
    (h2 : NIn w w.heap.size a2 (k + 2) (c + 1)) (h3 : NIn w w.heap.size a3 (k + 3) (c + 1)) : ∀ e, e ∈ newsI c k l a1 a2 a3 → e.ok w N w.heap.size := by
  intro e he
  simp only [newsI, List.mem_cons, List.not_mem_nil, or_false] at he
  rcases he with rfl | rfl | rfl | rfl
  · exact ⟨by show 1 ≤ c + 1; omega, by show c + 1 ≤ 9; omega, by show k ≤ 100; omega, .inr ⟨rfl, h0⟩⟩
  · exact ⟨by show 1 ≤ c + 1; omega, by show c + 1 ≤ 9; omega, by show k + 1 ≤ 100; omega, .inr ⟨rfl, h1⟩⟩
  · exact ⟨by show 1 ≤ c + 1; omega, by show c + 1 ≤ 9; omega, by show k + 2 ≤ 100; omega, .inr ⟨rfl, h2⟩⟩
  · exact ⟨by show 1 ≤ c + 1; omega, by show c + 1 ≤ 9; omega, by show k + 3 ≤ 100; omega, .inr ⟨rfl, h3⟩⟩
theorem newsI_cells (c k : Nat) (l a1 a2 a3 : Value) : (newsI c k l a1 a2 a3).flatMap Ent.cells =
    [.int .i64 ((c : Int) + 1), .int .i64 (k : Int), .slice none 0 0, l, .slice none 0 0, .int .i64 ((c : Int) + 1), .int .i64 ((k : Int) + 1), .slice none 0 0, a1, .slice none 0 0,
     .int .i64 ((c : Int) + 1), .int .i64 ((k : Int) + 2), .slice none 0 0, a2, .slice none 0 0, .int .i64 ((c : Int) + 1), .int .i64 ((k : Int) + 3), .slice none 0 0, a3, .slice none 0 0] := rfl
end Go.Proofs.YtokmllopbfmadaaGreatDoor.BookN
