import Derived.Handy
import Derived.Test.YtokmllopbfmadaaDoorGChangeMem
namespace Go.Proofs.YtokmllopbfmadaaDoor.Ref
open Go.RowKit Mem FieldWalks Tab ByTab Parts
open Gf (Bytes wide0 swapR)
open Plans (But rowF)

theorem nodup_swap {l : List Nat} (hn : l.Nodup) (i j : Nat) (hi : i < l.length) (hj : j < l.length) : ((l.set i l[j]).set j l[i]).Nodup := by
  rw [List.Nodup, List.pairwise_iff_getElem] at *
  have inj : ∀ a b, (ha : a < l.length) → (hb : b < l.length) → l[a] = l[b] → a = b := fun a b ha hb e => by
    rcases Nat.lt_trichotomy a b with h | h | h
    · exact absurd e (hn a b ha hb h)
    · exact h
    · exact absurd e.symm (hn b a hb ha h)
  have key : ∀ a, (ha : a < l.length) → ∃ q, ∃ hq : q < l.length, ((l.set i l[j]).set j l[i])[a]'(by simpa using ha) = l[q] ∧ ((a = j ∧ q = i) ∨ (a ≠ j ∧ a = i ∧ q = j) ∨ (a ≠ j ∧ a ≠ i ∧ q = a)) := fun a ha => by
    by_cases e1 : a = j
    · subst e1; exact ⟨i, hi, by simp, .inl ⟨rfl, rfl⟩⟩
    · by_cases e2 : a = i
      · subst e2; exact ⟨j, hj, by rw [List.getElem_set_ne (Ne.symm e1)]; simp, .inr (.inl ⟨e1, rfl, rfl⟩)⟩
      · exact ⟨a, ha, by rw [List.getElem_set_ne (Ne.symm e1), List.getElem_set_ne (Ne.symm e2)], .inr (.inr ⟨e1, e2, rfl⟩)⟩
  intro a b ha hb hab e
  simp only [List.length_set] at ha hb
  obtain ⟨q1, h1, e1, c1⟩ := key a ha
  obtain ⟨q2, h2, e2, c2⟩ := key b hb
  rw [e1, e2] at e
  have := inj _ _ _ _ e
  omega
/-- Two rows change their places in the list. -/
theorem Outs.swap {base : Nat} {w : World} {g n L : Nat} {M : Nat → Nat → Nat} {c r : Nat} {bs : List Nat} {us : List Value} {uc ur : Value} (h : OutAt w g n L bs us (fun q => rowF L (M q))) (hl : ∀ b, b ∈ bs → base ≤ b) (hcap : ∀ q, (h : q < bs.length) → us[q]? = some (.slice (some ⟨bs[q], 0, none⟩) L L)) (hc : c < n) (hr : r < n) (huc : us[c]? = some uc) (hur : us[r]? = some ur) :
    Outs base ((w.setCell ⟨g, c, none⟩ ur).setCell ⟨g, r, none⟩ uc) g n L (fun q => rowF L (swapR M c r q)) := by
  have hlen := h.len
  have hcb : c < bs.length := by omega
  have hrb : r < bs.length := by omega
  have hcc := hcap c hcb
  have hcr := hcap r hrb
  rw [huc] at hcc; injection hcc with hcc
  rw [hur] at hcr; injection hcr with hcr
  have hcu : c < us.length := (List.getElem?_eq_some_iff.1 huc).1
  have hru : r < us.length := (List.getElem?_eq_some_iff.1 hur).1
  have hcap2 : ∀ p, (hp : p < ((bs.set c bs[r]).set r bs[c]).length) → ((us.set c ur).set r uc)[p]? = some (.slice (some ⟨((bs.set c bs[r]).set r bs[c])[p], 0, none⟩) L L) := fun p hp => by
    have hp' : p < bs.length := by simpa using hp
    by_cases e1 : p = r
    · subst e1; simp [hru, hcc]
    · by_cases e2 : p = c
      · subst e2; rw [List.getElem?_set_ne (Ne.symm e1)]; simp [hcu, hcr, List.getElem_set_ne (Ne.symm e1)]
      · have hc' := hcap p hp'
        rw [List.getElem?_set_ne (Ne.symm e1), List.getElem?_set_ne (Ne.symm e2)]; simpa [List.getElem_set_ne (Ne.symm e1), List.getElem_set_ne (Ne.symm e2)] using hc'
  refine ⟨(bs.set c bs[r]).set r bs[c], (us.set c ur).set r uc, ⟨(h.list.set c ur).set r uc, by simp [hlen], nodup_swap h.nodup c r hcb hrb, fun p _ => by simp, fun p hp => ⟨L, hcap2 p hp⟩, fun p hp => ?_⟩, fun b hb => ?_, hcap2⟩
  · have hp' : p < bs.length := by simpa using hp
    have keep : ∀ q, (hq : q < bs.length) → Row8 ((w.setCell ⟨g, c, none⟩ ur).setCell ⟨g, r, none⟩ uc) bs[q] (rowF L (M q)) := fun q hq => by
      have hne : bs[q] ≠ g := (h.row q hq).type_ne h.list (by decide)
      exact ((h.row q hq).other (a := ⟨g, c, none⟩) hne _).other (a := ⟨g, r, none⟩) hne _
    by_cases e1 : p = r
    · subst e1
      have : swapR M c p p = M c := by unfold swapR; split <;> simp_all
      simp only [this]
      simpa using keep c hcb
    · by_cases e2 : p = c
      · subst e2
        have : swapR M p r p = M r := by simp [swapR]
        simp only [this]
        rw [List.getElem_set_ne (Ne.symm e1)]
        simpa using keep r hrb
      · have : swapR M c r p = M p := by simp [swapR, e1, e2]
        simp only [this]
        rw [List.getElem_set_ne (Ne.symm e1), List.getElem_set_ne (Ne.symm e2)]
        exact keep p hp'
  · rcases List.mem_or_eq_of_mem_set hb with hb | rfl
    · rcases List.mem_or_eq_of_mem_set hb with hb | rfl
      · exact hl b hb
      · exact hl _ (List.getElem_mem _)
    · exact hl _ (List.getElem_mem _)

set_option maxRecDepth 100000 in
set_option maxHeartbeats 2000000 in
theorem bringUp_any (base g n L c cap : Nat) (M : Nat → Nat → Nat) (w : World) (hn : n ≤ 100) (_hL : L ≤ 1000) (hc : c < n) (hcL : c < L) (hbg : base ≤ g) (ho : Outs base w g n L (fun q => rowF L (M q))) (hpiv : ∃ r, c ≤ r ∧ r < n ∧ M r c ≠ 0) :
    Calls Tryd.prog 152 #[.slice (some ⟨g, 0, none⟩) n cap, .int .i64 c] w fun e w' => e = .returned (.tuple #[]) ∧ ∃ r, c ≤ r ∧ r < n ∧ M r c ≠ 0 ∧ Outs base w' g n L (fun q => rowF L (swapR M c r q)) ∧ Below base w w' := by
  obtain ⟨bs, us, hout, hlow, hcap⟩ := ho
  have HCAP : Hid (∀ q, (h : q < bs.length) → us[q]? = some (.slice (some ⟨bs[q], 0, none⟩) L L)) := hcap
  have HOUT : Hid (OutAt w g n L bs us (fun q => rowF L (M q))) := hout
  have HLOW : Hid (∀ b, b ∈ bs → base ≤ b) := hlow
  have HPIV : Hid (∃ r, c ≤ r ∧ r < n ∧ M r c ≠ 0) := hpiv
  clear hout hlow hpiv hcap
  go_enter Tryd.func152, Tryd.ntmps152
  go_wp2
  go_loop [4] (fun i => ∃ r : Nat, c ≤ r ∧ r ≤ n ∧ i = .int .i64 r ∧ ∀ q, c ≤ q → q < r → M q c = 0) (fun i => n - (intOf i).toNat)
  case atStart => exact ⟨c, Nat.le_refl _, by omega, rfl, fun q h1 h2 => by omega⟩
  case round =>
    obtain ⟨r, hcr, hrn, rfl, hz⟩ := hrel
    have HZ : Hid (∀ q, c ≤ q → q < r → M q c = 0) := hz
    clear hz
    by_cases hlt : r < n
    · obtain ⟨b1, c1, hb1, g1, hbg1, hb1l, hcell⟩ := HOUT.out.read r hlt
      obtain ⟨g2, g3⟩ := hcell c hcL
      rw [show (rowF L (M r)).getD c 0 = M r c by simp [rowF, hcL]] at g2
      obtain ⟨b2, c2, hb2, k1, hz1, hz2, hz3⟩ := HOUT.out.read c hc
      clear hz1 hz2 hz3
      obtain ⟨x, hx⟩ : ∃ x, x = M r c := ⟨_, rfl⟩
      rw [← hx] at g2
      have HX : Hid (x = M r c) := hx
      have k3 := HOUT.out.list.free c
      have k4 := HOUT.out.list.free r
      clear hcell hx
      by_cases h0 : x = 0
      · have e0 : ((x : Int) != 0) = false := by simp [h0]
        have e1 : ((x : Int) == 0) = true := by simp [h0]
        have HZ2 : Hid (∀ q, c ≤ q → q < r + 1 → M q c = 0) := fun q h1 h2 => by
          by_cases e : q = r
          · rw [e, ← HX.out, h0]
          · exact HZ.out q h1 (by omega)
        clear h0
        go_wp2
        go_round
        case rel => exact ⟨r + 1, by omega, by omega, by go_num, HZ2.out⟩
        case measure => simp [intOf]; omega
      · have e0 : ((x : Int) != 0) = true := by simp; omega
        have h0' : ¬ (x : Int) = 0 := by omega
        have HXN : Hid (M r c ≠ 0) := by rw [← HX.out]; exact h0
        by_cases erc : r = c
        · have HSW : Hid (Outs base ((w.setCell ⟨g, c, none⟩ (.slice (some ⟨b1, 0, none⟩) L c1)).setCell ⟨g, r, none⟩ (.slice (some ⟨b2, 0, none⟩) L c2)) g n L (fun q => rowF L (swapR M c r q))) :=
            Outs.swap HOUT.out HLOW.out HCAP.out hc hlt (by rw [← HOUT.out.list.cell c]; exact k1) (by rw [← HOUT.out.list.cell r]; exact g1)
          have erc2 : c = r := erc.symm
          clear erc
          subst erc2
          obtain ⟨e1, e2⟩ : b2 = b1 ∧ c2 = c1 := by
            rw [k1] at g1
            simpa using g1
          subst e1 e2
          clear k4
          go_wp2
          go_region
          all_goals
            go_wp2
            go_returns
            exact ⟨rfl, c, Nat.le_refl _, hlt, HXN.out, HSW.out.to (Below.refl _ _).drew, (((Below.refl _ _).setCell hbg _).setCell hbg _).drew⟩
        · have HSW : Hid (Outs base ((w.setCell ⟨g, c, none⟩ (.slice (some ⟨b1, 0, none⟩) L c1)).setCell ⟨g, r, none⟩ (.slice (some ⟨b2, 0, none⟩) L c2)) g n L (fun q => rowF L (swapR M c r q))) :=
            Outs.swap HOUT.out HLOW.out HCAP.out hc hlt (by rw [← HOUT.out.list.cell c]; exact k1) (by rw [← HOUT.out.list.cell r]; exact g1)
          go_wp2
          go_region
          all_goals
            go_wp2
            go_returns
            exact ⟨rfl, r, hcr, hlt, HXN.out, HSW.out.to (Below.refl _ _).drew, (((Below.refl _ _).setCell hbg _).setCell hbg _).drew⟩
    · obtain rfl : n = r := by omega
      obtain ⟨q, h1, h2, h3⟩ := HPIV.out
      exact absurd (HZ.out q h1 h2) h3
end Go.Proofs.YtokmllopbfmadaaDoor.Ref
