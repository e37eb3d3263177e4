/-
  Contracts of the reference's hexadecimal form.
-/
import Derived.Test.YtkdahjaflgebiaaDoorHshA
namespace Go.Proofs.YtkdahjaflgebiaaDoor
open Go.RowKit
namespace Hsh

/-- The value of a hexadecimal digit, or -1. -/
def digV (c : Nat) : Int := if 48 ≤ c ∧ c ≤ 57 then (c : Int) - 48 else if 97 ≤ c ∧ c ≤ 102 then (c : Int) - 87 else -1
/-- The digit of a value. -/
def hexC (i : Nat) : Nat := if i < 10 then 48 + i else 87 + i
theorem hexC_get : ∀ i : Fin 16, ((⟨#[48, 49, 50, 51, 52, 53, 54, 55, 56, 57, 97, 98, 99, 100, 101, 102]⟩ : ByteArray)[i.val]'(by have := i.isLt; exact this)).toNat = hexC i.val := by decide +kernel
theorem rdigit_any (c : Nat) (hc : c < 256) (w : World) :
    Calls Tryd.prog 33 #[.int .u8 (c : Int)] w fun e w' => e = .returned (.int .i64 (digV c)) ∧ w' = w := by
  go_enter Tryd.func33, Tryd.ntmps33
  go_wp2
  go_loop [3] (fun i => ∃ k : Nat, k ≤ 16 ∧ i = .int .i64 (k : Int) ∧ Hid (∀ j, j < k → hexC j ≠ c)) (fun i => 16 - (intOf i).toNat)
  case atStart => exact ⟨0, Nat.zero_le _, rfl, Lib.hid (fun j h => absurd h (Nat.not_lt_zero j))⟩
  case round =>
    obtain ⟨k, hk, rfl, hn⟩ := hrel
    by_cases hlt : k < 16
    · have hg := hexC_get ⟨k, hlt⟩
      simp only at hg
      by_cases he : hexC k = c
      · have hd := Lib.hid (show digV c = (k : Int) by
          rw [← he]
          unfold digV hexC
          by_cases h10 : k < 10
          · rw [if_pos h10, if_pos (by omega)]; omega
          · rw [if_neg h10, if_neg (by omega), if_pos (by omega)]; omega)
        go_wp2
        go_ret
        exact ⟨congrArg (fun x => Ending.returned (Value.int .i64 x)) hd.out.symm, rfl⟩
      · have e0 : ((hexC k : Int) == (c : Int)) = false := by simp; omega
        have Hn := Lib.hid he
        clear he
        go_wp2
        go_round
        case rel => exact ⟨k + 1, by omega, by go_num, Lib.hid fun j hj => by
          by_cases e : j = k
          · rw [e]; exact Hn.out
          · exact hn.out j (by omega)⟩
        case measure => simp [intOf]; omega
    · obtain rfl : k = 16 := by omega
      have hd := Lib.hid (show digV c = -1 by
        unfold digV
        have hj := hn.out
        by_cases h1 : 48 ≤ c ∧ c ≤ 57
        · exact absurd (show hexC (c - 48) = c by unfold hexC; rw [if_pos (by omega)]; omega) (hj _ (by omega))
        · by_cases h2 : 97 ≤ c ∧ c ≤ 102
          · exact absurd (show hexC (c - 87) = c by unfold hexC; rw [if_neg (by omega)]; omega) (hj _ (by omega))
          · rw [if_neg h1, if_neg h2])
      clear hn
      go_wp2
      go_ret
      exact ⟨congrArg (fun x => Ending.returned (Value.int .i64 x)) hd.out.symm, rfl⟩

/-- The number that hexadecimal digits make behind a, if all are digits. -/
def unF : Nat → List UInt8 → Option Nat
  | a, [] => some a
  | a, c :: r => if digV c.toNat < 0 then none else unF (a * 16 + (digV c.toNat).toNat) r
def unh (l : List UInt8) : Option Nat := if l.length = 16 then unF 0 l else none
def unhV (l : List UInt8) : Nat := (unh l).getD 0
def unhE (l : List UInt8) : Int := if (unh l).isSome then 0 else 1
theorem digV_bd (c : Nat) : -1 ≤ digV c ∧ digV c ≤ 15 := by
  unfold digV
  split
  · omega
  · split <;> omega
theorem unF_drop {s : ByteArray} {k a : Nat} (h : k < s.size) : unF a (s.toList.drop k) = if digV s[k].toNat < 0 then none else unF (a * 16 + (digV s[k].toNat).toNat) (s.toList.drop (k + 1)) := by
  rw [List.drop_eq_getElem_cons (by rw [toL_len]; exact h), toL_get s k h, unF]
theorem unh_none {s : ByteArray} (h : s.size = 16 → unF 0 s.toList = none) : unhV s.toList = 0 ∧ unhE s.toList = 1 := by
  have : unh s.toList = none := by
    unfold unh
    rw [toL_len]
    split
    · exact h (by assumption)
    · rfl
  unfold unhV unhE
  rw [this]
  exact ⟨rfl, rfl⟩
theorem unh_some {s : ByteArray} {a : Nat} (hs : s.size = 16) (h : unF 0 s.toList = some a) : unhV s.toList = a ∧ unhE s.toList = 0 := by
  have : unh s.toList = some a := by
    unfold unh
    rw [toL_len, if_pos hs, h]
  unfold unhV unhE
  rw [this]
  exact ⟨rfl, rfl⟩
theorem or16 (a d : Nat) (ha : a < 1152921504606846976) (hd : d < 16) : bits BinOp.or IntKind.u64 (IntKind.u64.wrap ((a : Int) * 16)) (d : Int) = ((a * 16 + d : Nat) : Int) := by
  have e : IntKind.u64.wrap ((a : Int) * 16) = ((a * 16 : Nat) : Int) := by rw [IntKind.wrap_u64]; omega
  rw [e, u64_or_nat (a * 16) d (by omega) (by omega)]
  have := Nat.shiftLeft_add_eq_or_of_lt (i := 4) (b := d) (by omega) a
  rw [Nat.shiftLeft_eq] at this
  rw [← this]
theorem pow16 {a k : Nat} (hk : k < 16) (h : a < 16 ^ k) : a < 1152921504606846976 := by
  have : 16 ^ k ≤ 16 ^ 15 := Nat.pow_le_pow_right (by omega) (by omega)
  omega
theorem pow16s {a d k : Nat} (h : a < 16 ^ k) (hd : d < 16) : a * 16 + d < 16 ^ (k + 1) := by rw [Nat.pow_succ]; omega
set_option maxHeartbeats 1000000 in
theorem runhex_any (s : ByteArray) (w : World) :
    Calls Tryd.prog 19 #[.string s] w fun e w' => e = .returned (.tuple #[.int .u64 (unhV s.toList : Int), .int .i64 (unhE s.toList)]) ∧ w' = w := by
  by_cases hs : s.size = 16
  · go_enter Tryd.func19, Tryd.ntmps19
    go_wp2
    go_loop [4, 5] (fun h i => ∃ (a k : Nat), k ≤ 16 ∧ Hid (a < 16 ^ k) ∧ h = .int .u64 (a : Int) ∧ i = .int .i64 (k : Int) ∧ Hid (unF 0 s.toList = unF a (s.toList.drop k))) (fun _ i => 16 - (intOf i).toNat)
    case atStart => exact ⟨0, 0, Nat.zero_le _, Lib.hid (by omega), rfl, rfl, Lib.hid rfl⟩
    case round =>
      obtain ⟨a, k, hk, ha, rfl, rfl, hr⟩ := hrel
      by_cases hlt : k < 16
      · have hks : k < s.size := by omega
        have hc := s[k].toNat_lt
        have hdv := digV_bd s[k].toNat
        have hdr := unF_drop (a := a) hks
        by_cases hneg : digV s[k].toNat < 0
        · rw [if_pos hneg] at hdr
          obtain ⟨d, hd⟩ : ∃ d, digV s[k].toNat = d := ⟨_, rfl⟩
          rw [hd] at hdv hneg
          have HD := Lib.hid (fun W => hd ▸ rdigit_any s[k].toNat hc W)
          have hz := Lib.hid (unh_none (s := s) (fun _ => hr.out.trans hdr))
          clear hd hdr hr
          go_wp2_with (go_at_call 33; refine (HD.out _).mono ?_; rintro e w' ⟨rfl, rfl⟩)
          go_ret2
          exact ⟨by rw [hz.out.1, hz.out.2]; rfl, rfl⟩
        · rw [if_neg hneg] at hdr
          obtain ⟨d, hd⟩ : ∃ d : Nat, digV s[k].toNat = (d : Int) := ⟨(digV s[k].toNat).toNat, by omega⟩
          rw [hd] at hdv hdr
          have hd16 : d < 16 := by omega
          have HD := Lib.hid (fun W => hd ▸ rdigit_any s[k].toNat hc W)
          have hor := Lib.hid (or16 a d (pow16 hlt ha.out) hd16)
          have hz := Lib.hid (hr.out.trans hdr)
          have hpw := Lib.hid (pow16s ha.out hd16)
          clear hd hdr hneg hdv
          go_wp2_with (go_at_call 33; refine (HD.out _).mono ?_; rintro e w' ⟨rfl, rfl⟩)
          go_round
          case rel => exact ⟨a * 16 + d, k + 1, by omega, hpw, by rw [hor.out], by go_num, Lib.hid (by rw [hz.out, Int.toNat_natCast])⟩
          case measure => simp [intOf]; omega
      · obtain rfl : k = 16 := by omega
        have hz := Lib.hid (unh_some hs (show unF 0 s.toList = some a by rw [hr.out, List.drop_eq_nil_of_le (by rw [toL_len]; omega), unF]))
        clear hr
        go_wp2
        go_ret2
        exact ⟨by rw [hz.out.1, hz.out.2]; rfl, rfl⟩
  · have hz := Lib.hid (unh_none (s := s) (fun e => absurd e hs))
    have hn : ((s.size : Int) != 16) = true := by simp; omega
    clear hs
    go_enter Tryd.func19, Tryd.ntmps19
    go_wp2
    go_ret2
    exact ⟨by rw [hz.out.1, hz.out.2]; rfl, rfl⟩
end Hsh
end Go.Proofs.YtkdahjaflgebiaaDoor
