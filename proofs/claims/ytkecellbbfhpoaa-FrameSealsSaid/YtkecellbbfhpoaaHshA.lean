/-
  Contracts of the sums: FNV-1a and CRC-32.
-/
import Derived.Test.YtkecellbbfhpoaaGrw
import Derived.Test.YtkecellbbfhpoaaHshN
import Derived.Lib.Hide
import Derived.Laws.BitsAllLaws
import Derived.Laws.Bits64
namespace Go.Proofs.Ytkecellbbfhpoaa
open Go.RowKit
namespace Hsh

theorem fnvS_walk (a : Nat) (c : UInt8) (ha : a < 18446744073709551616) :
    IntKind.u64.wrap (bits BinOp.xor IntKind.u64 (a : Int) (IntKind.u64.wrap (c.toNat : Int)) * 1099511628211) = (fnvS a c : Int) := by
  have hc : c.toNat < 256 := c.toNat_lt
  rw [show IntKind.u64.wrap (c.toNat : Int) = (c.toNat : Int) by rw [IntKind.wrap_u64]; omega, bits_xor_u64_nat a c.toNat ha (by omega), IntKind.wrap_u64]
  unfold fnvS
  omega
theorem toL (s : ByteArray) : s.toList = s.data.toList := Go.ByteArray.toList_eq s
theorem toL_len (s : ByteArray) : s.toList.length = s.size := by rw [toL]; simp
theorem toL_get (s : ByteArray) (k : Nat) (h : k < s.size) : s.toList[k]'(by rw [toL_len]; exact h) = s[k] := by simp only [toL]; rfl
theorem fold_snoc {α : Type} (f : α → UInt8 → α) (x : α) (s : ByteArray) (k : Nat) (h : k < s.size) : (s.toList.take (k + 1)).foldl f x = f ((s.toList.take k).foldl f x) s[k] := by
  rw [List.take_succ_eq_append_getElem (by rw [toL_len]; exact h), List.foldl_append, toL_get s k h]
  rfl
theorem fold_all {α : Type} (f : α → UInt8 → α) (x : α) (s : ByteArray) : (s.toList.take s.size).foldl f x = s.toList.foldl f x := by
  rw [List.take_of_length_le (by rw [toL_len]; exact Nat.le_refl _)]

theorem crc_step1 {b : Nat} (hb : b < 4294967296) (ho : b % 2 = 1) : bits BinOp.and IntKind.u32 (b : Int) 1 = 1 := by
  have := u32_and_nat b 1 hb (by omega)
  rw [Nat.and_one_is_mod, ho] at this
  exact this
theorem crc_step0 {b : Nat} (hb : b < 4294967296) (ho : ¬ b % 2 = 1) : bits BinOp.and IntKind.u32 (b : Int) 1 = 0 := by
  have := u32_and_nat b 1 hb (by omega)
  rw [Nat.and_one_is_mod, show b % 2 = 0 by omega] at this
  exact this
set_option maxHeartbeats 1000000 in
theorem crc_any (s : ByteArray) (hs : s.size ≤ maxLen) (w : World) :
    Calls Try.prog 26 #[.string s] w fun e w' => e = .returned (.int .u32 (crc s.toList : Int)) ∧ w = w' := by
  unfold maxLen at hs
  go_enter Try.func26, Try.ntmps26
  go_wp2
  go_loop [3, 8] (fun h i => ∃ (a k : Nat), k ≤ s.size ∧ a < 4294967296 ∧ h = .int .u32 (a : Int) ∧ i = .int .i64 (k : Int) ∧ Hid ((s.toList.take k).foldl crcS 4294967295 = a)) (fun _ i => s.size - (intOf i).toNat)
  case atStart => exact ⟨4294967295, 0, Nat.zero_le _, by omega, rfl, rfl, Lib.hid rfl⟩
  case round =>
    obtain ⟨a, k, hk, ha, rfl, rfl, hr⟩ := hrel
    by_cases hlt : k < s.size
    · obtain ⟨x, hx⟩ : ∃ x, a ^^^ s[k].toNat = x := ⟨_, rfl⟩
      have hxl : x < 4294967296 := by rw [← hx]; exact crcX_lt _ ha
      have hw : bits BinOp.xor IntKind.u32 (a : Int) ((s[k].toNat : Int) % 4294967296) = (x : Int) := by
        have hc := s[k].toNat_lt
        rw [show (s[k].toNat : Int) % 4294967296 = (s[k].toNat : Int) by omega, u32_xor_nat a s[k].toNat ha (by omega), hx]
      have hn := Lib.hid ((fold_snoc crcS 4294967295 s k hlt).trans (by rw [hr.out]))
      have Hx := Lib.hid hx
      clear hx hr
      go_wp2
      clear hw
      go_loop [3, 17] (fun h i => ∃ (b j : Nat), j ≤ 8 ∧ b < 4294967296 ∧ h = .int .u32 (b : Int) ∧ i = .int .i64 (j : Int) ∧ Hid (crcK j x = b)) (fun _ i => 8 - (intOf i).toNat)
      case atStart => exact ⟨x, 0, Nat.zero_le _, hxl, rfl, rfl, Lib.hid rfl⟩
      case round =>
        obtain ⟨b, j, hj, hb, rfl, rfl, hcb⟩ := hrel
        by_cases hjl : j < 8
        · by_cases ho : b % 2 = 1
          · have e1 := crc_step1 hb ho
            have e2 := Lib.hid (show bits BinOp.xor IntKind.u32 ((b : Int) / 2) 3988292384 = (crcB b : Int) by
              unfold crcB
              rw [if_pos ho]
              exact u32_xor_nat (b / 2) 3988292384 (by omega) (by omega))
            go_wp2
            go_round
            case rel => exact ⟨crcB b, j + 1, by omega, crcB_lt hb, by rw [e2.out], by go_num, Lib.hid (by rw [crcK, hcb.out])⟩
            case measure => simp [intOf]; omega
          · have e1 := crc_step0 hb ho
            have e2 := Lib.hid (show ((b : Int) / 2) = (crcB b : Int) by
              unfold crcB
              rw [if_neg ho]
              omega)
            go_wp2
            go_round
            case rel => exact ⟨crcB b, j + 1, by omega, crcB_lt hb, by rw [e2.out], by go_num, Lib.hid (by rw [crcK, hcb.out])⟩
            case measure => simp [intOf]; omega
        · obtain rfl : j = 8 := by omega
          have hz : Hid (crcS a s[k] = b) := Lib.hid (by unfold crcS; rw [Hx.out, hcb.out])
          go_wp2
          go_round
          case rel => exact ⟨b, k + 1, by omega, hb, rfl, by go_num, Lib.hid (by rw [hn.out, hz.out])⟩
          case measure => simp [intOf]; omega
    · obtain rfl : k = s.size := by omega
      have hz := Lib.hid ((fold_all crcS 4294967295 s).symm.trans hr.out)
      have e3 := Lib.hid (show bits BinOp.xor IntKind.u32 IntKind.u32.max (a : Int) = (crc s.toList : Int) by
        unfold crc
        rw [hz.out]
        exact u32_xor_nat 4294967295 a (by omega) ha)
      clear hr
      go_wp2
      go_ret
      exact ⟨congrArg (fun x => Ending.returned (Value.int .u32 x)) e3.out, rfl⟩
set_option maxHeartbeats 1000000 in
theorem rcrc_any (s : ByteArray) (hs : s.size ≤ maxLen) (w : World) :
    Calls Try.prog 28 #[.string s] w fun e w' => e = .returned (.int .u32 (crc s.toList : Int)) ∧ w = w' := by
  unfold maxLen at hs
  go_enter Try.func28, Try.ntmps28
  go_wp2
  go_loop [3, 4] (fun h i => ∃ (a k : Nat), k ≤ s.size ∧ a < 4294967296 ∧ h = .int .u32 (a : Int) ∧ i = .int .i64 (k : Int) ∧ Hid ((s.toList.take k).foldl crcS 4294967295 = a)) (fun _ i => s.size - (intOf i).toNat)
  case atStart => exact ⟨4294967295, 0, Nat.zero_le _, by omega, rfl, rfl, Lib.hid rfl⟩
  case round =>
    obtain ⟨a, k, hk, ha, rfl, rfl, hr⟩ := hrel
    by_cases hlt : k < s.size
    · obtain ⟨x, hx⟩ : ∃ x, a ^^^ s[k].toNat = x := ⟨_, rfl⟩
      have hxl : x < 4294967296 := by rw [← hx]; exact crcX_lt _ ha
      have hw : bits BinOp.xor IntKind.u32 (a : Int) ((s[k].toNat : Int) % 4294967296) = (x : Int) := by
        have hc := s[k].toNat_lt
        rw [show (s[k].toNat : Int) % 4294967296 = (s[k].toNat : Int) by omega, u32_xor_nat a s[k].toNat ha (by omega), hx]
      have hn := Lib.hid ((fold_snoc crcS 4294967295 s k hlt).trans (by rw [hr.out]))
      have Hx := Lib.hid hx
      clear hx hr
      go_wp2
      clear hw
      go_loop [3, 5] (fun h i => ∃ (b j : Nat), j ≤ 8 ∧ b < 4294967296 ∧ h = .int .u32 (b : Int) ∧ i = .int .i64 (j : Int) ∧ Hid (crcK j x = b)) (fun _ i => 8 - (intOf i).toNat)
      case atStart => exact ⟨x, 0, Nat.zero_le _, hxl, rfl, rfl, Lib.hid rfl⟩
      case round =>
        obtain ⟨b, j, hj, hb, rfl, rfl, hcb⟩ := hrel
        by_cases hjl : j < 8
        · by_cases ho : b % 2 = 1
          · have e1 : bits BinOp.and IntKind.u32 (b : Int) 1 = 1 := by
              have := u32_and_nat b 1 hb (by omega)
              rw [Nat.and_one_is_mod, ho] at this
              exact this
            have e2 := Lib.hid (show bits BinOp.xor IntKind.u32 ((b : Int) / 2) 3988292384 = (crcB b : Int) by
              unfold crcB
              rw [if_pos ho]
              exact u32_xor_nat (b / 2) 3988292384 (by omega) (by omega))
            go_wp2
            go_round
            case rel => exact ⟨crcB b, j + 1, by omega, crcB_lt hb, by rw [e2.out], by go_num, Lib.hid (by rw [crcK, hcb.out])⟩
            case measure => simp [intOf]; omega
          · have e1 : bits BinOp.and IntKind.u32 (b : Int) 1 = 0 := by
              have := u32_and_nat b 1 hb (by omega)
              rw [Nat.and_one_is_mod, show b % 2 = 0 by omega] at this
              exact this
            have e2 := Lib.hid (show ((b : Int) / 2) = (crcB b : Int) by
              unfold crcB
              rw [if_neg ho]
              omega)
            go_wp2
            go_round
            case rel => exact ⟨crcB b, j + 1, by omega, crcB_lt hb, by rw [e2.out], by go_num, Lib.hid (by rw [crcK, hcb.out])⟩
            case measure => simp [intOf]; omega
        · obtain rfl : j = 8 := by omega
          have hz : Hid (crcS a s[k] = b) := Lib.hid (by unfold crcS; rw [Hx.out, hcb.out])
          go_wp2
          go_round
          case rel => exact ⟨b, k + 1, by omega, hb, rfl, by go_num, Lib.hid (by rw [hn.out, hz.out])⟩
          case measure => simp [intOf]; omega
    · obtain rfl : k = s.size := by omega
      have hz := Lib.hid ((fold_all crcS 4294967295 s).symm.trans hr.out)
      have e3 := Lib.hid (show bits BinOp.xor IntKind.u32 IntKind.u32.max (a : Int) = (crc s.toList : Int) by
        unfold crc
        rw [hz.out]
        exact u32_xor_nat 4294967295 a (by omega) ha)
      clear hr
      go_wp2
      go_ret
      exact ⟨congrArg (fun x => Ending.returned (Value.int .u32 x)) e3.out, rfl⟩
end Hsh
end Go.Proofs.Ytkecellbbfhpoaa
