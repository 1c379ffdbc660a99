import Derived.Test.YtokmllopbfmadaaGreatDoorGSpread
import Derived.Deep.RegionHeld3
import Derived.Deep.QuietTactic
import Derived.BigQuiet
namespace Go.Proofs.YtokmllopbfmadaaGreatDoor.Ref
open Go.RowKit Mem FieldWalks Tab ByTab Parts
open Gf (Bytes)

theorem run_next (s : ByteArray) (i : Nat) (h : i < s.size) : Crc.run 4294967295 ((nums s).take (i + 1)) = Crc.stpTo (Crc.run 4294967295 ((nums s).take i) ^^^ (s[i]'h).toNat) 8 := by
  have hl : i < (nums s).length := by rw [nums_length]; exact h
  rw [List.take_add_one, List.getElem?_eq_getElem hl, Crc.run_append]
  simp only [Option.toList_some, Crc.run, List.foldl_cons, List.foldl_nil, Crc.crcB]
  congr 2
  simp only [nums, List.getElem_map, Array.getElem_toList]; rfl
theorem nums_bytes' (s : ByteArray) : Bytes (nums s) := by
  intro x hx
  simp only [nums, List.mem_map] at hx
  obtain ⟨b, _, rfl⟩ := hx
  exact b.toNat_lt
theorem i64_xor62 (a b : Nat) (ha : a < 4611686018427387904) (hb : b < 4611686018427387904) : bits .xor .i64 (a : Int) (b : Int) = ((a ^^^ b : Nat) : Int) := by
  have hx : a ^^^ b < 2 ^ 62 := Nat.xor_lt_two_pow (by omega) (by omega)
  show IntKind.i64.wrap ((BitVec.ofInt 64 (a : Int) ^^^ BitVec.ofInt 64 (b : Int)).toNat : Int) = _
  rw [BitVec.toNat_xor, ofInt_u64 a (by omega), ofInt_u64 b (by omega)]
  simp [IntKind.wrap, IntKind.bits, IntKind.signed]
  omega
theorem stp_yes (v : Nat) (hv : v < 4294967296) (h : ((v : Int) % 2 == 1) = true) : bits .xor .i64 ((v : Int) / 2) 3988292384 = ((Crc.stp v : Nat) : Int) := by
  have h1 : v % 2 = 1 := by
    simp at h; omega
  rw [show (v : Int) / 2 = ((v / 2 : Nat) : Int) by omega, show (3988292384 : Int) = ((3988292384 : Nat) : Int) from rfl, i64_xor62 _ _ (by omega) (by omega), Crc.stp, if_pos h1]; rfl
theorem stp_no (v : Nat) (h : ((v : Int) % 2 == 1) = false) : (v : Int) / 2 = ((Crc.stp v : Nat) : Int) := by
  have h1 : ¬ v % 2 = 1 := by
    simp at h; omega
  rw [Crc.stp, if_neg h1]; omega
theorem four_at (w : World) (v : Nat) (hv : v < 4294967296) : BsAt (w.alloc (.cells #[.int .u8 ((4294967295 - (v : Int)) / 16777216), .int .u8 ((4294967295 - (v : Int)) / 65536 % 256), .int .u8 ((4294967295 - (v : Int)) / 256 % 256), .int .u8 ((4294967295 - (v : Int)) % 256)] 5)) (.slice (some ⟨w.heap.size, 0, none⟩) 4 4) (Crc.four (4294967295 - v)) := by
  refine BsAt.of_blk ((Blk.new w _ 5).eq ?_) 4 4 rfl
  have e : (4294967295 : Int) - (v : Int) = ((4294967295 - v : Nat) : Int) := by omega
  have e1 : ((4294967295 - v : Nat) : Int) / 16777216 = ((4294967295 - v : Nat) / 16777216 % 256 : Nat) := by omega
  simp only [bytesV, Crc.four, List.map_cons, List.map_nil, e, e1]
  congr 1
theorem one_at (w : World) (n : Nat) : BsAt (w.alloc (.cells #[.int .u8 ((n : Int) % 256)] 5)) (.slice (some ⟨w.heap.size, 0, none⟩) 1 1) [n % 256] := by
  refine BsAt.of_blk ((Blk.new w _ 5).eq ?_) 1 1 rfl
  simp only [bytesV, List.map_cons, List.map_nil]
  congr 1
set_option maxRecDepth 100000 in
set_option maxHeartbeats 1000000 in
theorem check_any (s : ByteArray) (hs : s.size ≤ 1000000) (w : World) :
    Calls Tryz.prog 42 #[.string s] w fun e w' => e = .returned (.string (checkS s)) ∧ Below w.heap.size w w' := by
  go_enter Tryz.func42, Tryz.ntmps42
  go_wp2
  go_loop [3, 4] (fun v i => ∃ k : Nat, k ≤ s.size ∧ i = .int .i64 k ∧ v = .int .i64 (Crc.run 4294967295 ((nums s).take k) : Nat)) (fun _ i => s.size - (intOf i).toNat)
  case atStart => exact ⟨0, Nat.zero_le _, rfl, rfl⟩
  case round =>
    obtain ⟨k, hk, rfl, rfl⟩ := hrel
    have hlt32 : Crc.run 4294967295 ((nums s).take k) < 4294967296 := Crc.run_lt (fun x hx => nums_bytes' s x (List.mem_of_mem_take hx)) (by decide)
    by_cases hlt : k < s.size
    · have E : Hid (Crc.run 4294967295 ((nums s).take (k + 1)) = Crc.stpTo (Crc.run 4294967295 ((nums s).take k) ^^^ (s[k]'hlt).toNat) 8) := run_next s k hlt
      have hb : (s[k]'hlt).toNat < 256 := (s[k]'hlt).toNat_lt
      generalize Crc.run 4294967295 ((nums s).take k) = v at hlt32 E ⊢
      have HX : Hid (bits .xor .i64 (v : Int) ((s[k]'hlt).toNat : Int) = ((v ^^^ (s[k]'hlt).toNat : Nat) : Int)) := i64_xor62 _ _ (by omega) (by omega)
      have hu : v ^^^ (s[k]'hlt).toNat < 4294967296 := Crc.xlt hlt32 (by omega)
      go_wp2
      go_loop [3, 5] (fun x j => ∃ n : Nat, n ≤ 8 ∧ j = .int .i64 n ∧ x = .int .i64 (Crc.stpTo (v ^^^ (s[k]'hlt).toNat) n : Nat)) (fun _ j => 8 - (intOf j).toNat)
      case atStart => exact ⟨0, Nat.zero_le _, rfl, by rw [HX.out]; rfl⟩
      case round =>
        obtain ⟨n, hn, rfl, rfl⟩ := hrel
        have hv := Crc.stpTo_lt hu n
        by_cases h8 : n < 8
        · have HS : Hid (Crc.stpTo (v ^^^ (s[k]'hlt).toNat) (n + 1) = Crc.stp (Crc.stpTo (v ^^^ (s[k]'hlt).toNat) n)) := rfl
          generalize Crc.stpTo (v ^^^ (s[k]'hlt).toNat) n = x at hv HS ⊢
          cases hq : ((x : Int) % 2 == 1)
          · have HQ : Hid ((x : Int) / 2 = ((Crc.stp x : Nat) : Int)) := stp_no x hq
            go_wp2
            go_round
            case rel => exact ⟨n + 1, by omega, by go_num, by rw [HQ.out, HS.out]⟩
            case measure => simp [intOf]; omega
          · have HQ : Hid (bits .xor .i64 ((x : Int) / 2) 3988292384 = ((Crc.stp x : Nat) : Int)) := stp_yes x hv hq
            go_wp2
            go_round
            case rel => exact ⟨n + 1, by omega, by go_num, by rw [HQ.out, HS.out]⟩
            case measure => simp [intOf]; omega
        · obtain rfl : n = 8 := by omega
          go_wp2
          go_round
          case rel => exact ⟨k + 1, by omega, by go_num, by rw [E.out]⟩
          case measure => simp [intOf]; omega
    · obtain rfl : k = s.size := by omega
      have hE : Hid (Crc.check (nums s) = Crc.four (4294967295 - Crc.run 4294967295 ((nums s).take s.size))) := by
        show _ = _
        rw [List.take_of_length_le (by rw [nums_length]; exact Nat.le_refl _)]; rfl
      generalize Crc.run 4294967295 ((nums s).take s.size) = v at hlt32 hE ⊢
      go_wp2_with (refine wpList_convert _ rfl 85 9 _ rfl _ (.string (mkS (Crc.four (4294967295 - v)))) rfl (conv_str _ _ _ (four_at _ v hlt32)) ?_)
      go_ret
      exact ⟨by unfold checkS; rw [hE.out]; rfl, (Below.refl _ _).alloc (Nat.le_refl _) _⟩
set_option maxRecDepth 100000 in
theorem one_any (n : Nat) (w : World) :
    Calls Tryz.prog 43 #[.int .i64 n] w fun e w' => e = .returned (.string (oneS n)) ∧ Below w.heap.size w w' := by
  go_enter Tryz.func43, Tryz.ntmps43
  go_wp2_with (refine wpList_convert _ rfl 85 9 _ rfl _ (.string (mkS [n % 256])) rfl (conv_str _ _ _ (one_at _ n)) ?_)
  go_ret
  exact ⟨rfl, (Below.refl _ _).alloc (Nat.le_refl _) _⟩
theorem mkS_app (a b : List Nat) : mkS a ++ mkS b = mkS (a ++ b) := ByteArray.ext (by simp [mkS, ByteArray.data_append])
set_option maxRecDepth 100000 in
set_option maxHeartbeats 1000000 in
theorem head_any (d s n : Nat) (hn : n < 4611686018427387904) (w : World) :
    Calls Tryz.prog 41 #[.int .i64 d, .int .i64 s, .int .i64 n] w fun e w' => e = .returned (.string (headS d s n)) ∧ Below w.heap.size w w' := by
  have en : Hid ((n : Int) / 256 = ((n / 256 : Nat) : Int)) := by show _ = _; omega
  go_enter Tryz.func41, Tryz.ntmps41
  go_wp2_with fail
  refine (one_any 119 _).mono ?_
  rintro e w1 ⟨rfl, hb1⟩
  go_wp2_with fail
  refine (one_any 1 _).mono ?_
  rintro e w2 ⟨rfl, hb2⟩
  have z : ∀ n, (oneS n).size = 1 := oneS_size
  have z1 := z 119
  have z2 := z 1
  have z3 := z d
  have z4 := z s
  have z5 := z (n / 256)
  have z6 := z n
  have E : Hid (oneS 119 ++ oneS 1 ++ oneS d ++ oneS s ++ oneS (n / 256) ++ oneS n = headS d s n) := by
    show _ = _
    simp only [oneS, headS, mkS_app, List.cons_append, List.nil_append]
  have B2 := hb1.trans (hb2.mono hb1.size)
  go_wp2_with fail
  refine (one_any d _).mono ?_
  rintro e w3 ⟨rfl, hb3⟩
  have B3 := B2.trans (hb3.mono B2.size)
  go_wp2_with fail
  refine (one_any s _).mono ?_
  rintro e w4 ⟨rfl, hb4⟩
  have B4 := B3.trans (hb4.mono B3.size)
  go_wp2_with fail
  rw [en.out]
  refine (one_any (n / 256) _).mono ?_
  rintro e w5 ⟨rfl, hb5⟩
  have B5 := B4.trans (hb5.mono B4.size)
  go_wp2_with fail
  refine (one_any n _).mono ?_
  rintro e w6 ⟨rfl, hb6⟩
  have B6 := B5.trans (hb6.mono B5.size)
  go_wp2
  go_ret
  exact ⟨by rw [← E.out]; rfl, B6⟩
end Go.Proofs.YtokmllopbfmadaaGreatDoor.Ref

/- The program's check of bytes is the document's. -/
namespace Go.Proofs.YtokmllopbfmadaaGreatDoor.Pk
open Go.RowKit Mem FieldWalks Tab ByTab Parts Ref
open Gf (Bytes)

theorem ofInt_u32 (a : Nat) (h : a < 4294967296) : (BitVec.ofInt 32 (a : Int)).toNat = a := by
  rw [BitVec.toNat_ofInt]; omega
theorem u32_xor (a b : Nat) (ha : a < 4294967296) (hb : b < 4294967296) : bits .xor .u32 (a : Int) (b : Int) = ((a ^^^ b : Nat) : Int) := by
  have hx : a ^^^ b < 4294967296 := Crc.xlt ha hb
  show IntKind.u32.wrap ((BitVec.ofInt 32 (a : Int) ^^^ BitVec.ofInt 32 (b : Int)).toNat : Int) = _
  rw [BitVec.toNat_xor, ofInt_u32 a ha, ofInt_u32 b hb]
  simp [IntKind.wrap, IntKind.bits, IntKind.signed]
  omega
theorem u32_and1 (a : Nat) (ha : a < 4294967296) : bits .and .u32 (a : Int) 1 = ((a % 2 : Nat) : Int) := by
  show IntKind.u32.wrap ((BitVec.ofInt 32 (a : Int) &&& BitVec.ofInt 32 ((1 : Nat) : Int)).toNat : Int) = _
  rw [BitVec.toNat_and, ofInt_u32 a ha, ofInt_u32 1 (by decide), Nat.and_one_is_mod]
  simp [IntKind.wrap, IntKind.bits, IntKind.signed]
  omega
theorem u32_not (v : Nat) (hv : v < 4294967296) : bits .xor .u32 IntKind.u32.max (v : Int) = ((4294967295 - v : Nat) : Int) := by
  have h : (4294967295 : Nat) ^^^ v = 4294967295 - v := by
    apply Nat.eq_of_testBit_eq
    intro i
    have h1 := Nat.testBit_two_pow_sub_succ (n := 32) (x := v) (by omega) i
    have h2 := Nat.testBit_two_pow_sub_one 32 i
    rw [Nat.testBit_xor, show (4294967295 : Nat) - v = 2 ^ 32 - (v + 1) by omega, h1, show (4294967295 : Nat) = 2 ^ 32 - 1 from rfl, h2]
    by_cases hi : i < 32
    · simp [hi]
    · have : v.testBit i = false := Nat.testBit_lt_two_pow (Nat.lt_of_lt_of_le (show v < 2 ^ 32 by omega) (Nat.pow_le_pow_right (by decide) (by omega)))
      simp [hi, this]
  rw [show IntKind.u32.max = ((4294967295 : Nat) : Int) from rfl, u32_xor _ _ (by decide) hv, h]
theorem four_at' (w : World) (v : Nat) (hv : v < 4294967296) : BsAt (w.alloc (.cells #[.int .u8 ((v : Int) / 16777216), .int .u8 ((v : Int) / 65536 % 256), .int .u8 ((v : Int) / 256 % 256), .int .u8 ((v : Int) % 256)] 5)) (.slice (some ⟨w.heap.size, 0, none⟩) 4 4) (Crc.four v) := by
  refine BsAt.of_blk ((Blk.new w _ 5).eq ?_) 4 4 rfl
  have e1 : (v : Int) / 16777216 = (v / 16777216 % 256 : Nat) := by omega
  simp only [bytesV, Crc.four, List.map_cons, List.map_nil, e1]
  congr 1
set_option maxRecDepth 100000 in
set_option maxHeartbeats 1000000 in
theorem moveDown_any (v : Nat) (hv : v < 4294967296) (w : World) :
    Calls Tryz.prog 67 #[.int .u32 v] w fun e w' => e = .returned (.int .u32 (Crc.stpTo v 8 : Nat)) ∧ w' = w := by
  go_enter Tryz.func67, Tryz.ntmps67
  go_wp2
  go_loop [0, 4] (fun x j => ∃ n : Nat, n ≤ 8 ∧ j = .int .i64 n ∧ x = .int .u32 (Crc.stpTo v n : Nat)) (fun _ j => 8 - (intOf j).toNat)
  case atStart => exact ⟨0, Nat.zero_le _, rfl, rfl⟩
  case round =>
    obtain ⟨n, hn, rfl, rfl⟩ := hrel
    have hx := Crc.stpTo_lt hv n
    by_cases h8 : n < 8
    · have HS : Hid (Crc.stpTo v (n + 1) = Crc.stp (Crc.stpTo v n)) := rfl
      generalize Crc.stpTo v n = x at hx HS ⊢
      have HA : Hid (bits .and .u32 (x : Int) 1 = ((x % 2 : Nat) : Int)) := u32_and1 x hx
      by_cases hq : x % 2 = 1
      · have e1 : (bits .and .u32 (x : Int) 1 == 1) = true := by rw [HA.out, hq]; rfl
        have HQ : Hid (bits .xor .u32 ((x : Int) / 2) 3988292384 = ((Crc.stp x : Nat) : Int)) := by
          show _ = _
          rw [show (x : Int) / 2 = ((x / 2 : Nat) : Int) by omega, show (3988292384 : Int) = ((3988292384 : Nat) : Int) from rfl, u32_xor _ _ (by omega) (by omega), Crc.stp, if_pos hq]; rfl
        clear hq
        go_wp2
        go_round
        case rel => exact ⟨n + 1, by omega, by go_num, by rw [HQ.out, HS.out]⟩
        case measure => simp [intOf]; omega
      · have e1 : (bits .and .u32 (x : Int) 1 == 1) = false := by
          rw [HA.out, show x % 2 = 0 by omega]; rfl
        have HQ : Hid ((x : Int) / 2 = ((Crc.stp x : Nat) : Int)) := by
          show _ = _
          rw [Crc.stp, if_neg hq]; omega
        clear hq
        go_wp2
        go_round
        case rel => exact ⟨n + 1, by omega, by go_num, by rw [HQ.out, HS.out]⟩
        case measure => simp [intOf]; omega
    · obtain rfl : n = 8 := by omega
      go_wp2
      go_ret
      exact ⟨rfl, rfl⟩
set_option maxRecDepth 100000 in
set_option maxHeartbeats 1000000 in
theorem written_any (v : Nat) (hv : v < 4294967296) (w : World) :
    Calls Tryz.prog 68 #[.int .u32 v] w fun e w' => e = .returned (.string (mkS (Crc.four v))) ∧ Below w.heap.size w w' := by
  go_enter Tryz.func68, Tryz.ntmps68
  go_wp2_with (refine wpList_convert _ rfl 85 9 _ rfl _ (.string (mkS (Crc.four v))) rfl (conv_str _ _ _ (four_at' _ v hv)) ?_)
  go_ret
  exact ⟨rfl, (Below.refl _ _).alloc (Nat.le_refl _) _⟩
set_option maxRecDepth 100000 in
set_option maxHeartbeats 1000000 in
theorem checkOf_any (s : ByteArray) (hs : s.size ≤ 1000000) (w : World) :
    Calls Tryz.prog 40 #[.string s] w fun e w' => e = .returned (.string (checkS s)) ∧ Below w.heap.size w w' := by
  go_enter Tryz.func40, Tryz.ntmps40
  go_wp2
  go_loop [3, 7] (fun v i => ∃ k : Nat, k ≤ s.size ∧ i = .int .i64 k ∧ v = .int .u32 (Crc.run 4294967295 ((nums s).take k) : Nat)) (fun _ i => s.size - (intOf i).toNat)
  case atStart => exact ⟨0, Nat.zero_le _, rfl, rfl⟩
  case round =>
    obtain ⟨k, hk, rfl, rfl⟩ := hrel
    have hlt32 : Crc.run 4294967295 ((nums s).take k) < 4294967296 := Crc.run_lt (fun x hx => nums_bytes' s x (List.mem_of_mem_take hx)) (by decide)
    by_cases hlt : k < s.size
    · have E : Hid (Crc.run 4294967295 ((nums s).take (k + 1)) = Crc.stpTo (Crc.run 4294967295 ((nums s).take k) ^^^ (s[k]'hlt).toNat) 8) := run_next s k hlt
      have hb : (s[k]'hlt).toNat < 256 := (s[k]'hlt).toNat_lt
      generalize Crc.run 4294967295 ((nums s).take k) = v at hlt32 E ⊢
      have HX : Hid (bits .xor .u32 (v : Int) ((s[k]'hlt).toNat : Int) = ((v ^^^ (s[k]'hlt).toNat : Nat) : Int)) := u32_xor _ _ (by omega) (by omega)
      have hu : v ^^^ (s[k]'hlt).toNat < 4294967296 := Crc.xlt hlt32 (by omega)
      go_wp2_with fail
      rw [HX.out]
      refine (moveDown_any _ hu _).mono ?_
      rintro e w' ⟨rfl, rfl⟩
      go_wp2
      go_round
      case rel => exact ⟨k + 1, by omega, by go_num, by rw [E.out]⟩
      case measure => simp [intOf]; omega
    · obtain rfl : k = s.size := by omega
      have hE : Hid (Crc.check (nums s) = Crc.four (4294967295 - Crc.run 4294967295 ((nums s).take s.size))) := by
        show _ = _
        rw [List.take_of_length_le (by rw [nums_length]; exact Nat.le_refl _)]; rfl
      generalize Crc.run 4294967295 ((nums s).take s.size) = v at hlt32 hE ⊢
      have HX : Hid (bits .xor .u32 IntKind.u32.max (v : Int) = ((4294967295 - v : Nat) : Int)) := u32_not v hlt32
      go_wp2_with fail
      rw [HX.out]
      refine (written_any _ (by omega) _).mono ?_
      rintro e w' ⟨rfl, hb⟩
      go_wp2
      go_ret
      exact ⟨by unfold checkS; rw [hE.out]; rfl, hb⟩
end Go.Proofs.YtokmllopbfmadaaGreatDoor.Pk

namespace Go.Proofs.YtokmllopbfmadaaGreatDoor.Ref
open Go.RowKit Mem FieldWalks Tab ByTab Parts
open Gf (Bytes)

theorem packTo_size (h : ByteArray) (ps : List ByteArray) (L : Nat) (hp : ∀ p, (h : p < ps.length) → ps[p].size = L) : ∀ k, k ≤ ps.length → (packTo h ps k).size = h.size + 4 + k * (L + 5)
  | 0, _ => by unfold packTo; rw [ByteArray.size_append, checkS_size]; omega
  | k + 1, hk => by
    unfold packTo frameS
    rw [ByteArray.size_append, ByteArray.size_append, ByteArray.size_append, checkS_size, oneS_size, packTo_size h ps L hp k (by omega), List.getD_eq_getElem?_getD, List.getElem?_eq_getElem (by omega), Option.getD_some, hp k (by omega), Nat.add_mul]
    omega
theorem packTo_le (h : ByteArray) (ps : List ByteArray) (hp : ∀ p, (h : p < ps.length) → ps[p].size ≤ 1000) : ∀ k, k ≤ ps.length → (packTo h ps k).size ≤ h.size + 4 + k * 1005
  | 0, _ => by unfold packTo; rw [ByteArray.size_append, checkS_size]; omega
  | k + 1, hk => by
    unfold packTo frameS
    have := packTo_le h ps hp k (by omega)
    have h2 := hp k (by omega)
    rw [ByteArray.size_append, ByteArray.size_append, ByteArray.size_append, checkS_size, oneS_size, List.getD_eq_getElem?_getD, List.getElem?_eq_getElem (by omega), Option.getD_some, Nat.add_mul]
    omega
set_option maxRecDepth 100000 in
set_option maxHeartbeats 2000000 in
theorem packed_any (d s n : Nat) (ps : List ByteArray) (v : Value) (hn : n < 4611686018427387904) (hl : ps.length ≤ 100) (hp : ∀ p, (h : p < ps.length) → ps[p].size ≤ 1000) (w : World) (hv : StrsAt w v ps) :
    Calls Tryz.prog 21 #[.int .i64 d, .int .i64 s, .int .i64 n, v] w fun e w' => e = .returned (.string (packS d s n ps)) ∧ Below w.heap.size w w' := by
  obtain ⟨ao, cap, rfl, hx⟩ := hv
  have HX : Hid (ps = [] ∨ ∃ b off, ao = some ⟨b, off, none⟩ ∧ b < w.heap.size ∧ ∀ k, (h : k < ps.length) → w.cell? ⟨b, off + k, none⟩ = some (.string ps[k])) := hx
  have HP : Hid (∀ p, (h : p < ps.length) → ps[p].size ≤ 1000) := hp
  obtain ⟨h, hh⟩ : ∃ h, h = headS d s n := ⟨_, rfl⟩
  have hz : h.size = 6 := by rw [hh]; rfl
  have HH : Hid (packS d s n ps = packTo h ps ps.length) := by rw [hh]; rfl
  have HEAD : Hid (Calls Tryz.prog 41 #[.int .i64 d, .int .i64 s, .int .i64 n] w fun e w' => e = .returned (.string h) ∧ Below w.heap.size w w') := by
    rw [hh]; exact head_any d s n hn w
  clear hx hp hh
  go_enter Tryz.func21, Tryz.ntmps21
  go_wp2_with fail
  refine Calls.mono HEAD.out ?_
  rintro e w1 ⟨rfl, hb1⟩
  go_wp2_with fail
  refine (check_any h (by omega) _).mono ?_
  rintro e w2 ⟨rfl, hb2⟩
  have B2 := hb1.trans (hb2.mono hb1.size)
  have zc := checkS_size h
  clear hb1 hb2 HEAD
  go_wp2
  go_loopw [10, 11] (fun o i wr => ∃ k : Nat, k ≤ ps.length ∧ i = .int .i64 k ∧ o = .string (packTo h ps k) ∧ Below w.heap.size w wr) (fun _ i _ => ps.length - (intOf i).toNat)
  case atStart => exact ⟨0, Nat.zero_le _, rfl, rfl, B2⟩
  case round =>
    obtain ⟨k, hk, rfl, rfl, hbel⟩ := hrel
    have hA := packTo_le h ps HP.out k hk
    have hA2 : (packTo h ps k).size ≤ 1000000 := by
      have := Nat.mul_le_mul_right 1005 (Nat.le_trans hk hl); omega
    clear hA
    by_cases hlt : k < ps.length
    · obtain ⟨b, off, rfl, hb, hc⟩ : ∃ b off, ao = some ⟨b, off, none⟩ ∧ b < w.heap.size ∧ ∀ k, (h : k < ps.length) → w.cell? ⟨b, off + k, none⟩ = some (.string ps[k]) := by
        rcases HX.out with h | h
        · rw [h] at hlt; simp at hlt
        · exact h
      have c1 := (hbel.cell (p := ⟨b, off + k, none⟩) hb).trans (hc k hlt)
      have E : Hid (packTo h ps (k + 1) = packTo h ps k ++ frameS h k ps[k]) := by
        show _ = _
        rw [packTo, List.getD_eq_getElem?_getD, List.getElem?_eq_getElem hlt, Option.getD_some]
      have hzx := HP.out k hlt
      generalize ps[k] = x at c1 E hzx
      generalize packTo h ps k = A at hA2 E ⊢
      have z1 := oneS_size k
      have z2 := checkS_size (h ++ oneS k ++ x)
      have hki : (k : Int) < (ps.length : Int) := by omega
      clear hc
      have hsz := hbel.size
      have q1 : ¬ 9223372036854775807 < A.size + 1 := by omega
      have q2 : ¬ 9223372036854775807 < A.size + 1 + x.size := by omega
      have q3 : ¬ 9223372036854775807 < 7 + x.size := by omega
      have q4 : ¬ 9223372036854775807 < A.size + 1 + x.size + 4 := by omega
      go_wp2
      have B3 : Below w.heap.size w wr.drew := hbel.drew
      have c3 : wr.drew.cell? ⟨b, off + k, none⟩ = some (.string x) := c1
      go_region_held3 (fun wx => wx.cell? ⟨b, off + k, none⟩ = some (.string x)) (go_keep) (first | (go_at_call 43; refine (one_any k _).mono ?_; rintro e w3 ⟨rfl, hb3⟩; replace c3 := (hb3.cell (p := ⟨b, off + k, none⟩) (Nat.lt_of_lt_of_le hb B3.size)).trans c3; replace B3 : Below w.heap.size w w3 := B3.trans (hb3.mono B3.size)) | (go_at_call 42; refine (check_any (h ++ oneS k ++ x) (by rw [ByteArray.size_append, ByteArray.size_append]; omega) _).mono ?_; rintro e w4 ⟨rfl, hb4⟩; have c4 := (hb4.cell (p := ⟨b, off + k, none⟩) (Nat.lt_of_lt_of_le hb B3.size)).trans c3; have B4 : Below w.heap.size w w4 := B3.trans (hb4.mono B3.size)))
      go_wp2
      go_roundw
      case rel => exact ⟨k + 1, by omega, by go_num, by rw [E.out]; unfold frameS; simp only [ByteArray.append_assoc], B4⟩
      case measure => simp [intOf]; omega
    · obtain rfl : k = ps.length := by omega
      go_wp2
      go_ret
      exact ⟨by rw [HH.out]; rfl, hbel⟩
end Go.Proofs.YtokmllopbfmadaaGreatDoor.Ref

namespace Go.Proofs.YtokmllopbfmadaaGreatDoor.Ref
open Go.RowKit Mem FieldWalks Tab ByTab Parts
open Gf (Bytes sumTo addTo)

def Drew (w w' : World) : Prop := ∃ m, w' = w.drewN m
theorem Drew.below {w w' : World} (h : Drew w w') : Below w.heap.size w w' := by
  obtain ⟨m, rfl⟩ := h
  exact below_drewN (Below.refl _ _) _
theorem Drew.cell {w w' : World} (h : Drew w w') (p : Addr) : w'.cell? p = w.cell? p := by
  obtain ⟨m, rfl⟩ := h; rfl
theorem Drew.more {w w' : World} (h : Drew w w') (n : Nat) : Drew w (w'.drewN n) := by
  obtain ⟨m, rfl⟩ := h; exact ⟨m + n, World.drewN_drewN _ _ _⟩
theorem Drew.isC {w w' : World} (h : Drew w w') {v : Value} {l : List Int} (k : IsC w v l) : IsC w' v l := k.to h.below
/-- The call says whether it is so. -/
def Says (P : Prop) (e : Ending) : Prop := ∃ b : Bool, e = .returned (.bool b) ∧ (b = true ↔ P)
theorem Says.yes {P : Prop} {e : Ending} (he : e = .returned (.bool true)) (h : P) : Says P e := ⟨true, he, fun _ => h, fun _ => rfl⟩
theorem Says.no {P : Prop} {e : Ending} (he : e = .returned (.bool false)) (h : ¬ P) : Says P e := ⟨false, he, fun h => (by cases h), fun k => absurd k h⟩
/-- The first k lost numbers are as they must be. -/
def NumsTo (d s : Nat) (lost : List Int) (k : Nat) : Prop := ∀ j, (h : j < lost.length) → j < k → 0 ≤ lost[j] ∧ lost[j] < (d + s : Nat) ∧ lost[j] ∉ lost.take j
def SizesTo (L : Nat) (pieces : List ByteArray) (lost : List Int) (k : Nat) : Prop := ∀ p, (h : p < pieces.length) → p < k → (p : Int) ∉ lost → pieces[p].size = L

set_option maxRecDepth 100000 in
set_option maxHeartbeats 4000000 in
theorem shaped_any (d s n L : Nat) (pieces : List ByteArray) (lost : List Int) (pv lv : Value) (w : World) (hp : StrsAt w pv pieces) (hl : IsC w lv lost) (hll : lost.length < 2 ^ 62) (hpl : pieces.length < 2 ^ 62)
    (hd : 1 ≤ d) (hd2 : d ≤ 10) (hs : s ≤ 6) (hn : n ≤ 400) (hL : L = (n + d - 1) / d) (hsz : ∀ p, (h : p < pieces.length) → pieces[p].size < 2 ^ 62) :
    Calls Tryz.prog 48 #[.int .i64 d, .int .i64 s, .int .i64 n, pv, lv] w fun e w' => Says (ShapeOk d s L pieces lost) e ∧ Drew w w' := by
  obtain ⟨pao, pcap, rfl, hpc⟩ := hp
  have HL : Hid (IsC w lv lost) := hl
  obtain ⟨lao, lex, rfl, hlc⟩ := hl
  have HPC : Hid (pieces = [] ∨ ∃ b off, pao = some ⟨b, off, none⟩ ∧ b < w.heap.size ∧ ∀ k, (h : k < pieces.length) → w.cell? ⟨b, off + k, none⟩ = some (.string pieces[k])) := hpc
  have HLC : Hid (lost = [] ∨ ∃ b off, lao = some ⟨b, off, none⟩ ∧ b < w.heap.size ∧ ∀ k, (h : k < lost.length) → w.cell? ⟨b, off + k, none⟩ = some (.int .i64 lost[k])) := hlc
  have HEL : Hid (L = (n + d - 1) / d) := hL
  have HSZ : Hid (∀ p, (h : p < pieces.length) → pieces[p].size < 2 ^ 62) := hsz
  clear hpc hlc hL hsz
  by_cases hcnt : pieces.length = d + s
  · have hne : ((pieces.length : Int) != (d : Int) + (s : Int)) = false := by simp; omega
    have HCN : Hid (pieces.length = d + s) := hcnt
    clear hcnt
    go_enter Tryz.func48, Tryz.ntmps48
    go_wp2
    go_loopw [11] (fun i wr => ∃ k : Nat, k ≤ lost.length ∧ i = .int .i64 k ∧ Drew w wr ∧ NumsTo d s lost k) (fun i _ => lost.length - (intOf i).toNat)
    case atStart => exact ⟨0, Nat.zero_le _, rfl, ⟨0, rfl⟩, fun j _ hj => by omega⟩
    case round =>
      obtain ⟨k, hk, rfl, ⟨m, rfl⟩, hdone⟩ := hrel
      by_cases hlt : k < lost.length
      · obtain ⟨b, off, rfl, hb, hc⟩ : ∃ b off, lao = some ⟨b, off, none⟩ ∧ b < w.heap.size ∧ ∀ k, (h : k < lost.length) → w.cell? ⟨b, off + k, none⟩ = some (.int .i64 lost[k]) := by
          rcases HLC.out with h | h
          · rw [h] at hlt; simp at hlt
          · exact h
        have c1 := hc k hlt
        have HD : Hid (NumsTo d s lost k) := hdone
        have HT : Hid (IsC w (.slice (some ⟨b, off, none⟩) k (lost.length + lex)) (lost.take k)) := HL.out.take (by omega)
        have HLK : Hid ((lost.take k).length < 2 ^ 62) := by show _ < _; rw [List.length_take]; omega
        obtain ⟨x, hx⟩ : ∃ x, x = lost[k] := ⟨_, rfl⟩
        rw [← hx] at c1
        have HX : Hid (x = lost[k]) := hx
        obtain ⟨tw, htw⟩ : ∃ tw : Bool, tw = decide (x ∈ lost.take k) := ⟨_, rfl⟩
        have HTW : Hid (tw = decide (x ∈ lost.take k)) := htw
        have z1 : (0 : Int) ≤ (k : Int) := by omega
        have z2 : (k : Int) ≤ ((lost.length + lex : Nat) : Int) := by omega
        have z2' : (k : Int) ≤ (lost.length : Int) + (lex : Int) := by omega
        have z3 : ¬ lost.length + lex = 0 := by omega
        have z4 : (0 : Int) ≤ max (k : Int) 0 := by omega
        clear hc hdone htw hx
        go_wp2_with fail
        go_region_with (go_at_call 72; refine (within_any (lost.take k) x _ _ (by exact HT.out) HLK.out).mono ?_; rintro e w2 ⟨rfl, rfl⟩; rw [← HTW.out])
        all_goals
          by_cases h1 : x < 0
          · have h1' : decide (x < 0) = true := by simp [h1]
            go_wp2
            go_ret
            refine ⟨Says.no rfl fun h => absurd (h.nums k hlt).1 ?_, _, rfl⟩
            rw [← HX.out]; omega
          · have h1' : decide (x < 0) = false := by simp [h1]
            by_cases h2 : x < (d : Int) + (s : Int)
            · have h2' : decide ((d : Int) + (s : Int) ≤ x) = false := by simp; omega
              cases tw
              · have HN : Hid (NumsTo d s lost (k + 1)) := by
                  intro j h hj
                  by_cases e : j = k
                  · subst e
                    rw [← HX.out]
                    refine ⟨by omega, by omega, ?_⟩
                    have := HTW.out
                    simpa using this
                  · exact HD.out j h (by omega)
                go_wp2
                go_roundw
                case rel => exact ⟨k + 1, by omega, by go_num, ⟨_, rfl⟩, HN.out⟩
                case measure => simp [intOf]; omega
              · go_wp2
                go_ret
                refine ⟨Says.no rfl fun h => absurd ?_ (h.nums k hlt).2.2, _, rfl⟩
                rw [← HX.out]
                have := HTW.out
                simpa using this.symm
            · have h2' : decide ((d : Int) + (s : Int) ≤ x) = true := by simp; omega
              go_wp2
              go_ret
              refine ⟨Says.no rfl fun h => absurd (h.nums k hlt).2.1 ?_, _, rfl⟩
              rw [← HX.out]; omega
      · obtain rfl : k = lost.length := by omega
        have HD : Hid (NumsTo d s lost lost.length) := hdone
        clear hdone
        go_wp2
        go_loopw [13] (fun i wr => ∃ k : Nat, k ≤ d + s ∧ i = .int .i64 k ∧ Drew w wr ∧ SizesTo L pieces lost k) (fun i _ => d + s - (intOf i).toNat)
        case atStart => exact ⟨0, Nat.zero_le _, rfl, ⟨m, rfl⟩, fun j _ hj => by omega⟩
        case round =>
          obtain ⟨k, hk, rfl, hdr, hdone⟩ := hrel
          by_cases hlt : k < d + s
          · obtain ⟨b, off, rfl, hb, hc⟩ : ∃ b off, pao = some ⟨b, off, none⟩ ∧ b < w.heap.size ∧ ∀ k, (h : k < pieces.length) → w.cell? ⟨b, off + k, none⟩ = some (.string pieces[k]) := by
              rcases HPC.out with h | h
              · have := HCN.out; rw [h] at this; simp at this; omega
              · exact h
            have hkp : k < pieces.length := by have := HCN.out; omega
            have c1 := hc k hkp
            rw [← hdr.cell] at c1
            have HDR : Hid (Drew w wr) := hdr
            have HLW : Hid (IsC wr (.slice lao lost.length (lost.length + lex)) lost) := hdr.isC HL.out
            have hzz := HSZ.out k hkp
            have HPS : Hid (SizesTo L pieces lost k) := hdone
            obtain ⟨x, hx⟩ : ∃ x, x = pieces[k]'hkp := ⟨_, rfl⟩
            rw [← hx] at c1 hzz
            have HX : Hid (x = pieces[k]'hkp) := hx
            obtain ⟨gn, hgn⟩ : ∃ gn : Bool, gn = decide ((k : Int) ∈ lost) := ⟨_, rfl⟩
            have HGN : Hid (gn = decide ((k : Int) ∈ lost)) := hgn
            clear hc hx hgn hdone hdr
            go_wp2_with fail
            refine (within_any lost k _ _ (by exact HLW.out) hll).mono ?_
            rintro e w2 ⟨rfl, rfl⟩
            rw [← HGN.out]
            cases gn
            · obtain ⟨nb, hnb⟩ : ∃ nb : Bool, ((x.size : Int) != ((L : Nat) : Int)) = nb := ⟨_, rfl⟩
              have HSI : Hid (∀ W : World, Calls Tryz.prog 49 #[.int .i64 d, .int .i64 n] W fun e w' => e = .returned (.int .i64 (L : Nat)) ∧ w' = W) := by
                intro W
                rw [HEL.out]
                exact size_any d n (by omega) (by omega) (by omega) W
              have hki : (k : Int) < (pieces.length : Int) := by omega
              go_wp2_with fail
              go_quiet ((go_at_call 49; exact Calls.quiet_of_same (HSI.out _)))
              all_goals
                have HNB : Hid (((x.size : Int) != ((L : Nat) : Int)) = nb) := hnb
                clear hnb
                cases nb
                · have HN : Hid (SizesTo L pieces lost (k + 1)) := by
                    intro p h hp hno
                    by_cases e : p = k
                    · subst e; rw [← HX.out]; have := HNB.out; simp at this; omega
                    · exact HPS.out p h (by omega) hno
                  go_wp2
                  go_roundw
                  case rel => exact ⟨k + 1, by omega, by go_num, HDR.out.more _, HN.out⟩
                  case measure => simp [intOf]; omega
                · go_wp2
                  go_ret
                  refine ⟨Says.no rfl fun h => absurd (h.sizes k hkp ?_) ?_, HDR.out.more _⟩
                  · have := HGN.out; simpa using this
                  · rw [← HX.out]; have := HNB.out; simp at this; omega
            · have HN : Hid (SizesTo L pieces lost (k + 1)) := by
                intro p h hp hno
                by_cases e : p = k
                · subst e
                  have := HGN.out
                  exact absurd (by simpa using this) hno
                · exact HPS.out p h (by omega) hno
              go_wp2_with fail
              go_quiet (fail)
              all_goals
                go_wp2
                go_roundw
                case rel => exact ⟨k + 1, by omega, by go_num, HDR.out.more _, HN.out⟩
                case measure => simp [intOf]; omega
          · obtain rfl : k = d + s := by omega
            go_wp2
            go_ret
            exact ⟨Says.yes rfl ⟨HCN.out, fun j h => HD.out j h h, fun p h hno => hdone p h (by have := HCN.out; omega) hno⟩, hdr⟩
  · have hne : ((pieces.length : Int) != (d : Int) + (s : Int)) = true := by simp; omega
    go_enter Tryz.func48, Tryz.ntmps48
    go_wp2
    go_ret
    exact ⟨Says.no rfl fun h => absurd h.count hcnt, 0, rfl⟩
end Go.Proofs.YtokmllopbfmadaaGreatDoor.Ref
