/-
  Layer 8, texts merged: NumA, NumE, NumF, NumG, NumH, NumI, NumJ, NumK. For every argument within the bounds that each theorem names.
-/
import Derived.Test.YtcapkeaedpabjaaGreatDoorRows
import Derived.WalkKit
import Derived.Lib.Hide
import Derived.Deep.QuietTactic
import Derived.BigQuiet
import Derived.RowKit3
import Derived.Laws.IdiomStrings
import Derived.ShutString
import Derived.Deep.OwnRows
import Derived.Below
import Derived.Test.YtcapkeaedpabjaaGreatDoorShelf

/-
 Contracts of the plain functions of package num and of its reference: which integer or error each one returns.
-/
namespace Go.Proofs.YtcapkeaedpabjaaGreatDoor
open Go.RowKit
namespace Num

/-- A valid integer. -/
def vld (n : Int) : Bool := decide (-1000000000000 ≤ n ∧ n ≤ 1000000000000)
theorem vld_of {n : Int} (h1 : -1000000000000 ≤ n) (h2 : n ≤ 1000000000000) : vld n = true := decide_eq_true ⟨h1, h2⟩
theorem vld_not {n : Int} (h : ¬ (-1000000000000 ≤ n ∧ n ≤ 1000000000000)) : vld n = false := decide_eq_false h

theorem valid_any (n : Int) (w : World) :
  Calls Tryz.prog 231 #[.int .i64 n] w fun e w' => e = .returned (.bool (vld n)) ∧ w = w' := by
 unfold vld
 by_cases h1 : -1000000000000 ≤ n
 ·go_enter Tryz.func231, Tryz.ntmps231
  go_wp2
  go_ret
  exact ⟨by simp [h1], rfl⟩
 ·have h1' : n < -1000000000000 := by omega
  go_enter Tryz.func231, Tryz.ntmps231
  go_wp2
  go_ret
  exact ⟨by simp; omega, rfl⟩
theorem rvalid_any (n : Int) (w : World) :
  Calls Tryz.prog 195 #[.int .i64 n] w fun e w' => e = .returned (.bool (vld n)) ∧ w = w' := by
 unfold vld
 by_cases h1 : -1000000000000 ≤ n
 ·go_enter Tryz.func195, Tryz.ntmps195
  go_wp2
  go_ret
  exact ⟨by simp [h1], rfl⟩
 ·have h1' : n < -1000000000000 := by omega
  go_enter Tryz.func195, Tryz.ntmps195
  go_wp2
  go_ret
  exact ⟨by simp; omega, rfl⟩
/-- A pair of an integer and an error. -/
def pair (n e : Int) : Ending := .returned (.tuple #[.int .i64 n, .int .i64 e])
def chkE (n : Int) : Int := if vld n then 0 else 8
/-- The amount of an integer. -/
def abz (n : Int) : Int := if n < 0 then -n else n
theorem abz_neg {n : Int} (h : n < 0) : abz n = -n := if_pos h
theorem abz_pos {n : Int} (h : ¬ n < 0) : abz n = n := if_neg h
theorem amount_any (n : Int) (h1 : -9223372036854775808 ≤ n) (h2 : n ≤ 9223372036854775807) (w : World) :
  Calls Tryz.prog 273 #[.int .i64 n] w fun e w' => e = .returned (.int .u64 (abz n)) ∧ w = w' := by
 by_cases h : n < 0
 ·rw [abz_neg h]
  go_enter Tryz.func273, Tryz.ntmps273
  go_wp2
  go_ret
  refine ⟨?_, rfl⟩
  have e : IntKind.u64.wrap (-IntKind.u64.wrap n) = -n := by rw [IntKind.wrap_u64, IntKind.wrap_u64]; omega
  simp [e]
 ·rw [abz_pos h]
  go_enter Tryz.func273, Tryz.ntmps273
  go_wp2
  go_ret
  exact ⟨by simp, rfl⟩
end Num
end Go.Proofs.YtcapkeaedpabjaaGreatDoor

/-
 Decimal digits, and the contracts of what writes them.
-/
namespace Go.Proofs.YtcapkeaedpabjaaGreatDoor
open Go.RowKit
namespace Num

/-- How many digits, with at most f + 1 of them. -/
def ndF : Nat → Nat → Nat
 | 0, _ => 1
 | f + 1, n => if n < 10 then 1 else ndF f (n / 10) + 1
def dgt (d : Nat) : UInt8 := UInt8.ofNat (48 + d)
/-- The last k digits of n. -/
def digs : Nat → Nat → List UInt8
 | 0, _ => []
 | k + 1, n => digs k (n / 10) ++ [dgt (n % 10)]
theorem digs_len : ∀ k n, (digs k n).length = k
 | 0, _ => rfl
 | k + 1, n => by simp [digs, digs_len k]
theorem ndF_pos : ∀ f n, 1 ≤ ndF f n
 | 0, _ => Nat.le_refl _
 | f + 1, n => by unfold ndF; split <;> omega
theorem ndF_le : ∀ f n, ndF f n ≤ f + 1
 | 0, _ => Nat.le_refl _
 | f + 1, n => by have := ndF_le f (n / 10); unfold ndF; split <;> omega

theorem countDigits_any (N : Nat) (hN : N < 18446744073709551616) (w : World) :
  Calls Tryz.prog 274 #[.int .u64 (N : Int)] w fun e w' => e = .returned (.int .i64 (ndF 18 N : Int)) ∧ w = w' := by
 go_enter Tryz.func274, Tryz.ntmps274
 go_wp2
 go_loop [0, 4] (fun m i => ∃ (a k f : Nat), m = .int .u64 (a : Int) ∧ i = .int .i64 (k : Int) ∧ k ≤ 18 ∧ a < 18446744073709551616 ∧ k + f = 18 ∧ Hid (ndF 18 N = k + ndF f a)) (fun _ i => 18 - (intOf i).toNat)
 case atStart => exact ⟨N, 0, 18, rfl, rfl, by omega, hN, rfl, Lib.hid (by omega)⟩
 case round =>
  obtain ⟨a, k, f, rfl, rfl, hk, ha, hf, hr⟩ := hrel
  by_cases g : k < 18
  ·obtain ⟨f, rfl⟩ : ∃ f', f = f' + 1 := ⟨f - 1, by omega⟩
   have hf' : k + f + 1 = 18 := by omega
   clear hf
   have Hf := Lib.hid hf'
   clear hf'
   by_cases g2 : a < 10
   ·have hr' : Hid (ndF 18 N = k + 1) := Lib.hid (by rw [hr.out, ndF, if_pos g2])
    go_wp2
    go_ret
    exact ⟨by rw [hr'.out]; rfl, rfl⟩
   ·have hr' : Hid (ndF 18 N = (k + 1) + ndF f (a / 10)) := Lib.hid (by rw [hr.out, ndF, if_neg g2]; omega)
    go_wp2
    go_round
    case rel => exact ⟨a / 10, k + 1, f, by go_num, by go_num, by omega, by omega, by have := Hf.out; omega, hr'⟩
    case measure => simp [intOf]; omega
  ·obtain rfl : k = 18 := by omega
   obtain rfl : f = 0 := by omega
   clear hf
   have hr' : Hid (ndF 18 N = 19) := Lib.hid (by rw [hr.out]; rfl)
   go_wp2
   go_ret
   exact ⟨by rw [hr'.out]; rfl, rfl⟩

theorem digs_get : ∀ (k n i : Nat), i < k → (digs k n).getD (k - 1 - i) 0 = dgt (n / 10 ^ i % 10)
 | 0, _, _, h => by omega
 | k + 1, n, 0, _ => by simp [digs, digs_len]
 | k + 1, n, i + 1, h => by
  have e : k + 1 - 1 - (i + 1) = k - 1 - i := by omega
  have hl : k - 1 - i < (digs k (n / 10)).length := by rw [digs_len]; omega
  rw [e, digs, List.getD_eq_getElem?_getD, List.getElem?_append_left hl, ← List.getD_eq_getElem?_getD, digs_get k (n / 10) i (by omega), Nat.div_div_eq_div_mul, ← Nat.pow_succ']
/-- The cells of the digits behind i rounds. -/
def rowF (K N i : Nat) (j : Nat) : Value := if j < K - i then .int .u8 0 else .int .u8 (((digs K N).getD j 0).toNat : Int)

theorem info8 : (Tryz.prog.info? 5).map (fun i => (i.zero, i.size, i.bytes)) = some (some (.int .u8 0), 1, 1) := by kernel_rfl

/-- The decimal form. -/
def fmtL (n : Int) : List UInt8 := (if n < 0 then [45] else []) ++ digs (ndF 18 (abz n).toNat) (abz n).toNat
end Num
end Go.Proofs.YtcapkeaedpabjaaGreatDoor

/-
 The reference's Format, and what Parse and its reference read.
-/
namespace Go.Proofs.YtcapkeaedpabjaaGreatDoor
open Go.RowKit
namespace Num

/-- What is left to write, and what is written. -/
def Left (D : List UInt8) (a : Nat) (s : List UInt8) : Prop :=
 (a = 0 ∧ s ≠ [] ∧ s = D) ∨ (∃ f, (a ≠ 0 ∨ s = []) ∧ a < 10 ^ (f + 1) ∧ digs (ndF f a) a ++ s = D)
theorem Left.start {N : Nat} (h : N < 10 ^ 19) : Left (digs (ndF 18 N) N) N [] := Or.inr ⟨18, Or.inr rfl, h, by simp⟩
theorem Left.step {D s : List UInt8} {a : Nat} (h : Left D a s) (g : a ≠ 0 ∨ s = []) : Left D (a / 10) (dgt (a % 10) :: s) := by
 rcases h with ⟨h1, h2, h3⟩ | ⟨f, h1, h2, h3⟩
 ·rcases g with g | g
  ·exact absurd h1 g
  ·exact absurd g h2
 ·by_cases ha : a < 10
  ·refine Or.inl ⟨by omega, by simp, ?_⟩
   have e : digs (ndF f a) a = [dgt (a % 10)] := by
    cases f with
    | zero => simp [ndF, digs]
    | succ f => simp [ndF, ha, digs]
   rw [e] at h3
   exact h3
  ·cases f with
   | zero => simp at h2; omega
   | succ f =>
    refine Or.inr ⟨f, Or.inl (by omega), ?_, ?_⟩
    ·rw [Nat.pow_succ] at h2; omega
    ·rw [ndF, if_neg ha, digs, List.append_assoc] at h3
     exact h3
theorem Left.done {D s : List UInt8} {a : Nat} (h : Left D a s) (g : ¬ (a ≠ 0 ∨ s = [])) : s = D := by
 rcases h with ⟨h1, h2, h3⟩ | ⟨f, h1, h2, h3⟩
 ·exact h3
 ·exact absurd h1 g
theorem Left.len {D s : List UInt8} {a : Nat} (h : Left D a s) : s.length ≤ D.length := by
 rcases h with ⟨h1, h2, h3⟩ | ⟨f, h1, h2, h3⟩
 ·rw [h3]; exact Nat.le_refl _
 ·rw [← h3]; simp

theorem extract_dig : ∀ d : Fin 10, (ByteArray.extract ⟨#[48, 49, 50, 51, 52, 53, 54, 55, 56, 57]⟩ d.val (d.val + 1)) = ⟨#[dgt d.val]⟩ := by decide +kernel
theorem slice_dig (d : Nat) (h : d < 10) (W : World) : (Instr.slice 9 (.string ⟨#[48, 49, 50, 51, 52, 53, 54, 55, 56, 57]⟩) (some (.int .i64 (d : Int))) (some (.int .i64 ((d : Int) + 1))) none).run Tryz.prog W = .ok (.string ⟨#[dgt d]⟩) W := by
 have := run_slice_string (P := Tryz.prog) W 9 ⟨#[48, 49, 50, 51, 52, 53, 54, 55, 56, 57]⟩ .i64 .i64 (d : Int) ((d : Int) + 1) Tryz.underlying9 (by omega) (by omega) (by show (d : Int) + 1 ≤ ((10 : Nat) : Int); omega)
 rw [this]
 have e : ((d : Int) + 1).toNat = d + 1 := by omega
 rw [Int.toNat_natCast, e, extract_dig ⟨d, h⟩]
/-- 1 for the empty string. -/
def emp : Value → Nat
 | .string s => 1 - s.size
 | _ => 0

set_option maxHeartbeats 1000000 in
theorem rformat_pos (N : Nat) (h2 : N ≤ 9223372036854775807) (w : World) :
  Calls Tryz.prog 196 #[.int .i64 (N : Int)] w fun e w' => e = .returned (.string ⟨(digs (ndF 18 N) N).toArray⟩) ∧ w = w' := by
 have hst := Lib.hid (Left.start (N := N) (by omega))
 have hD : (digs (ndF 18 N) N).length ≤ 19 := by rw [digs_len]; exact ndF_le 18 N
 generalize digs (ndF 18 N) N = D at *
 go_enter Tryz.func196, Tryz.ntmps196
 go_wp2
 go_loop [4, 5] (fun s m => ∃ (a : Nat) (t : List UInt8), s = .string ⟨t.toArray⟩ ∧ m = .int .i64 (a : Int) ∧ a ≤ 9223372036854775807 ∧ Hid (Left D a t)) (fun s m => (intOf m).toNat + emp s)
 case atStart => exact ⟨N, [], rfl, rfl, h2, hst⟩
 case round =>
  obtain ⟨a, t, rfl, rfl, ha, hl⟩ := hrel
  have hlen := hl.out.len
  have hlen' : t.length ≤ 19 := by omega
  have hsl := slice_dig (a % 10) (by omega)
  rw [show ((a % 10 : Nat) : Int) = (a : Int) % 10 from by omega] at hsl
  by_cases g : a = 0
  ·subst g
   by_cases g2 : t = []
   ·subst g2
    have hn := Lib.hid (hl.out.step (Or.inr rfl))
    go_wp2
    go_round
    case rel => exact ⟨0, [dgt 0], congrArg Value.string (ByteArray.ext (by simp [dgt])), rfl, by omega, hn⟩
    case measure => simp [intOf, emp]; decide
   ·have hd := Lib.hid (hl.out.done (by simp [g2]))
    have g3 : t.isEmpty = false := by simp [g2]
    go_wp2
    go_ret
    exact ⟨by rw [hd.out]; rfl, rfl⟩
  ·have g1 : 1 ≤ a := by omega
   have hn := Lib.hid (hl.out.step (Or.inl g))
   go_wp2
   go_round
   case rel => exact ⟨a / 10, dgt (a % 10) :: t, congrArg Value.string (ByteArray.ext (by simp)), by go_num, by omega, hn⟩
   case measure => simp [intOf, emp]; omega

theorem neg_div (a : Nat) : (-(a : Int)).tdiv 10 = -((a / 10 : Nat) : Int) := by rw [Int.neg_tdiv, Int.tdiv_eq_ediv_of_nonneg (by omega)]; omega
theorem neg_mod (a : Nat) : (-(a : Int)).tmod 10 = -((a % 10 : Nat) : Int) := by rw [Int.neg_tmod, Int.tmod_eq_emod_of_nonneg (by omega)]; omega

set_option maxHeartbeats 1000000 in
theorem rformat_neg (N : Nat) (h1 : 1 ≤ N) (h2 : N ≤ 9223372036854775808) (n : Int) (hn : Hid (n = -(N : Int))) (w : World) :
  Calls Tryz.prog 196 #[.int .i64 n] w fun e w' => e = .returned (.string ⟨(45 :: digs (ndF 18 N) N).toArray⟩) ∧ w = w' := by
 have hst := Lib.hid (Left.start (N := N) (by omega))
 have hD : (digs (ndF 18 N) N).length ≤ 19 := by rw [digs_len]; exact ndF_le 18 N
 generalize digs (ndF 18 N) N = D at *
 have hneg : n < 0 := by have := hn.out; omega
 have hlow : -9223372036854775808 ≤ n := by have := hn.out; omega
 go_enter Tryz.func196, Tryz.ntmps196
 go_wp2
 go_loop [4, 5] (fun s m => ∃ (a : Nat) (k : Int) (t : List UInt8), s = .string ⟨t.toArray⟩ ∧ m = .int .i64 k ∧ a ≤ 9223372036854775808 ∧ k ≤ 0 ∧ -9223372036854775808 ≤ k ∧ Hid (k = -(a : Int)) ∧ Hid (Left D a t)) (fun s m => (-intOf m).toNat + emp s)
 case atStart => exact ⟨N, n, [], rfl, rfl, h2, by omega, by omega, hn, hst⟩
 case round =>
  obtain ⟨a, k, t, rfl, rfl, ha, hk0, hk1, hk, hl⟩ := hrel
  have hlen := hl.out.len
  have hlen' : t.length ≤ 19 := by omega
  by_cases g : a = 0
  ·subst g
   have hkz : k = 0 := by have := hk.out; omega
   subst hkz
   have hsl := slice_dig 0 (by omega)
   by_cases g2 : t = []
   ·subst g2
    have hn := Lib.hid (hl.out.step (Or.inr rfl))
    go_wp2
    go_round
    case rel => exact ⟨0, 0, [dgt 0], congrArg Value.string (ByteArray.ext (by simp [dgt])), rfl, by omega, by omega, by omega, Lib.hid rfl, hn⟩
    case measure => simp [intOf, emp]; decide
   ·have hd := Lib.hid (hl.out.done (by simp [g2]))
    have g3 : t.isEmpty = false := by simp [g2]
    go_wp2
    go_ret
    exact ⟨by rw [← hd.out]; exact congrArg (Ending.returned ∘ Value.string) (ByteArray.ext (by simp)), rfl⟩
  ·have g1 : 1 ≤ a := by omega
   have hn' := Lib.hid (hl.out.step (Or.inl g))
   have hkn : k < 0 := by have := hk.out; omega
   have hkb : (k != 0) = true := by simp; omega
   have em : k.tmod 10 = -((a % 10 : Nat) : Int) := by rw [hk.out]; exact neg_mod a
   have ed : k.tdiv 10 = -((a / 10 : Nat) : Int) := by rw [hk.out]; exact neg_div a
   have hsl := slice_dig (a % 10) (by omega)
   obtain ⟨d, hd⟩ : ∃ d, d = a % 10 := ⟨_, rfl⟩
   obtain ⟨q, hq⟩ : ∃ q, q = a / 10 := ⟨_, rfl⟩
   rw [← hd] at em hsl hn'
   rw [← hq] at ed hn'
   have hd10 : d ≤ 9 := by omega
   have hqb : q ≤ 922337203685477580 := by omega
   have hqa : q < a := by omega
   have Hd := Lib.hid hd
   have Hq := Lib.hid hq
   clear hd hq
   by_cases hz : d = 0
   ·subst hz
    go_wp2
    go_round
    case rel => exact ⟨q, -(q : Int), dgt 0 :: t, congrArg Value.string (ByteArray.ext (by simp [dgt])), rfl, by omega, by omega, by omega, Lib.hid rfl, hn'⟩
    case measure => have := hk.out; simp [intOf, emp]; omega
   ·have hdp : -(d : Int) < 0 := by omega
    go_wp2
    go_round
    case rel => exact ⟨q, -(q : Int), dgt d :: t, congrArg Value.string (ByteArray.ext (by simp)), rfl, by omega, by omega, by omega, Lib.hid rfl, hn'⟩
    case measure => have := hk.out; simp [intOf, emp]; omega

theorem rformat_any (n : Int) (h1 : -9223372036854775808 ≤ n) (h2 : n ≤ 9223372036854775807) (w : World) :
  Calls Tryz.prog 196 #[.int .i64 n] w fun e w' => e = .returned (.string ⟨(fmtL n).toArray⟩) ∧ w = w' := by
 unfold fmtL
 by_cases h : n < 0
 ·rw [abz_neg h, if_pos h]
  obtain ⟨N, hN⟩ := Int.eq_ofNat_of_zero_le (a := -n) (by omega)
  rw [hN, Int.toNat_natCast]
  exact rformat_neg N (by omega) (by omega) n (Lib.hid (by omega)) w
 ·rw [abz_pos h, if_neg h]
  obtain ⟨N, rfl⟩ := Int.eq_ofNat_of_zero_le (a := n) (by omega)
  rw [Int.toNat_natCast]
  exact rformat_pos N (by omega) w

end Num
end Go.Proofs.YtcapkeaedpabjaaGreatDoor

/-
 What Parse and its reference read.
-/
namespace Go.Proofs.YtcapkeaedpabjaaGreatDoor
open Go.RowKit
namespace Num

def isDig (c : UInt8) : Bool := decide (48 ≤ c.toNat) && decide (c.toNat ≤ 57)
/-- The decimal form of a number that is not negative. -/
def decB (l : List UInt8) : Bool := l.all isDig && (l == [48] || (!l.isEmpty && l.head? != some 48))

theorem all_take {l : List UInt8} {k : Nat} (h : k < l.length) : (l.take (k + 1)).all isDig = ((l.take k).all isDig && isDig l[k]) := by
 rw [List.take_succ_eq_append_getElem h, List.all_append, List.all_cons, List.all_nil, Bool.and_true]
theorem dig_of {c : UInt8} (h1 : 48 ≤ (c.toNat : Int)) (h2 : (c.toNat : Int) ≤ 57) : isDig c = true := by
 simp only [isDig, Bool.and_eq_true, decide_eq_true_eq]; omega
theorem dig_bd {c : UInt8} (h : isDig c = true) : 48 ≤ (c.toNat : Int) ∧ (c.toNat : Int) ≤ 57 := by
 simp only [isDig, Bool.and_eq_true, decide_eq_true_eq] at h; omega
theorem all_get {l : List UInt8} (h : l.all isDig = true) {k : Nat} (hk : k < l.length) : isDig l[k] = true := List.all_eq_true.1 h _ (List.getElem_mem hk)
set_option maxHeartbeats 1000000 in
theorem isDecimal_any (s : ByteArray) (hs : s.size ≤ maxLen) (w : World) :
  Calls Tryz.prog 230 #[.string s] w fun e w' => e = .returned (.bool (decB s.data.toList)) ∧ w = w' := by
 unfold maxLen at hs
 have hll : s.data.toList.length = s.size := by simp
 by_cases hall : s.data.toList.all isDig = true
 ·have hx : s.toList = s.data.toList := Go.ByteArray.toList_eq s
  have H := Lib.hid hall
  have HL := Lib.hid hll
  by_cases g1 : s.toList = [48]
  ·have hd := Lib.hid (show decB s.data.toList = true by rw [← hx, g1]; rfl)
   rw [hd.out]
   clear hx hall hll
   go_enter Tryz.func230, Tryz.ntmps230
   go_wp2
   go_loop [6] (fun i => ∃ k : Nat, k ≤ s.size ∧ i = .int .i64 (k : Int)) (fun i => s.size - (intOf i).toNat)
   case atStart => exact ⟨0, Nat.zero_le _, rfl⟩
   case round =>
    obtain ⟨k, hk, rfl⟩ := hrel
    by_cases hlt : k < s.size
    ·obtain ⟨c1, c2⟩ := dig_bd (all_get H.out (k := k) (by rw [HL.out]; exact hlt))
     have c1' : 48 ≤ (s[k].toNat : Int) := c1
     have c2' : (s[k].toNat : Int) ≤ 57 := c2
     clear c1 c2
     go_wp2
     go_round
     case rel => exact ⟨k + 1, by omega, by go_num⟩
     case measure => simp [intOf]; omega
    ·go_wp2
     go_ret
     exact ⟨rfl, rfl⟩
  by_cases g2 : s.toList = []
  ·have hd := Lib.hid (show decB s.data.toList = false by rw [← hx, g2]; rfl)
   rw [hd.out]
   clear hx hall hll
   go_enter Tryz.func230, Tryz.ntmps230
   go_wp2
   go_loop [6] (fun i => ∃ k : Nat, k ≤ s.size ∧ i = .int .i64 (k : Int)) (fun i => s.size - (intOf i).toNat)
   case atStart => exact ⟨0, Nat.zero_le _, rfl⟩
   case round =>
    obtain ⟨k, hk, rfl⟩ := hrel
    by_cases hlt : k < s.size
    ·obtain ⟨c1, c2⟩ := dig_bd (all_get H.out (k := k) (by rw [HL.out]; exact hlt))
     have c1' : 48 ≤ (s[k].toNat : Int) := c1
     have c2' : (s[k].toNat : Int) ≤ 57 := c2
     clear c1 c2
     go_wp2
     go_round
     case rel => exact ⟨k + 1, by omega, by go_num⟩
     case measure => simp [intOf]; omega
    ·go_wp2
     go_ret
     exact ⟨rfl, rfl⟩
  have hpos : 0 < s.size := by
   rw [← hll]; rw [hx] at g2; exact List.length_pos_iff.2 g2
  have hd : decB s.data.toList = ((s[0].toNat : Int) != 48) := by
   have e1 : s.data.toList.head? = some s[0] := by
    rw [List.head?_eq_getElem?, List.getElem?_eq_getElem (by omega)]; rfl
   rw [hx] at g1 g2
   simp only [decB, hall, e1, Bool.true_and]
   have : (s.data.toList == [48]) = false := by simpa using g1
   have e2 : s.data.toList.isEmpty = false := by simpa using g2
   rw [this, e2]
   by_cases h : s[0] = 48
   ·simp [h]
   ·have h0 : s[0].toNat ≠ 48 := fun e => h (UInt8.toNat_inj.1 (e.trans rfl))
    have h1 : (some s[0] != some (48 : UInt8)) = true := by simpa using h
    have h2 : ((s[0].toNat : Int) != 48) = true := by rw [bne_iff_ne]; omega
    rw [h1, h2]
    rfl
  rw [hd]
  have hgb : Hid ((s.toList == [48]) = false ∧ s.toList.isEmpty = false) := Lib.hid ⟨by simpa using g1, by simpa using g2⟩
  clear hd hx hall hll
  go_enter Tryz.func230, Tryz.ntmps230
  go_wp2
  go_loop [6] (fun i => ∃ k : Nat, k ≤ s.size ∧ i = .int .i64 (k : Int)) (fun i => s.size - (intOf i).toNat)
  case atStart => exact ⟨0, Nat.zero_le _, rfl⟩
  case round =>
   obtain ⟨k, hk, rfl⟩ := hrel
   by_cases hlt : k < s.size
   ·obtain ⟨c1, c2⟩ := dig_bd (all_get H.out (k := k) (by rw [HL.out]; exact hlt))
    have c1' : 48 ≤ (s[k].toNat : Int) := c1
    have c2' : (s[k].toNat : Int) ≤ 57 := c2
    clear c1 c2
    go_wp2
    go_round
    case rel => exact ⟨k + 1, by omega, by go_num⟩
    case measure => simp [intOf]; omega
   ·go_wp2
    go_ret
    exact ⟨by simp [hgb.out.1, hgb.out.2], rfl⟩
 ·have hall' : s.data.toList.all isDig = false := by simpa using hall
  have hd : decB s.data.toList = false := by simp [decB, hall']
  rw [hd]
  have H := Lib.hid hall'
  have HL := Lib.hid hll
  clear hall hall' hd hll
  go_enter Tryz.func230, Tryz.ntmps230
  go_wp2
  go_loop [6] (fun i => ∃ k : Nat, k ≤ s.size ∧ i = .int .i64 (k : Int) ∧ Hid ((s.data.toList.take k).all isDig = true)) (fun i => s.size - (intOf i).toNat)
  case atStart => exact ⟨0, Nat.zero_le _, rfl, Lib.hid (by simp)⟩
  case round =>
   obtain ⟨k, hk, rfl, ha⟩ := hrel
   by_cases hlt : k < s.size
   ·have hst := Lib.hid (all_take (l := s.data.toList) (k := k) (by rw [HL.out]; exact hlt))
    by_cases c1 : (s[k].toNat : Int) < 48
    ·go_wp2
     go_ret
     exact ⟨rfl, rfl⟩
    by_cases c2 : 57 < (s[k].toNat : Int)
    ·have c1' : 48 ≤ (s[k].toNat : Int) := by omega
     go_wp2
     go_ret
     exact ⟨rfl, rfl⟩
    ·have c1' : 48 ≤ (s[k].toNat : Int) := by omega
     have c2' : (s[k].toNat : Int) ≤ 57 := by omega
     go_wp2
     go_round
     case rel => exact ⟨k + 1, by omega, by go_num, Lib.hid (by rw [hst.out, ha.out]; exact dig_of c1' c2')⟩
     case measure => simp [intOf]; omega
   ·have he : k = s.size := by omega
    have hc := ha.out
    rw [he, ← HL.out, List.take_length, H.out] at hc
    exact absurd hc (by simp)

end Num
end Go.Proofs.YtcapkeaedpabjaaGreatDoor

/-
 The contract of Parse.
-/
namespace Go.Proofs.YtcapkeaedpabjaaGreatDoor
open Go.RowKit
namespace Num

/-- The number that digits make behind a, unless it is too great. -/
def scan : Nat → List UInt8 → Option Nat
 | a, [] => some a
 | a, c :: r => if a * 10 + (c.toNat - 48) ≤ 1000000000000 then scan (a * 10 + (c.toNat - 48)) r else none
def negL (l : List UInt8) : Bool := Lib.hasPrefix l [45]
def bodyL (l : List UInt8) : List UInt8 := Lib.trimPrefix l [45]
def okL (l : List UInt8) : Bool := decB (bodyL l) && !(negL l && bodyL l == [48])
def finV (neg : Bool) : Option Nat → Int
 | some n => if neg then -(n : Int) else n
 | none => 0
def finE : Option Nat → Int
 | some _ => 0
 | none => 2
def parV (l : List UInt8) : Int := if okL l then finV (negL l) (scan 0 (bodyL l)) else 0
def parE (l : List UInt8) : Int := if okL l then finE (scan 0 (bodyL l)) else 1
theorem scan_drop {l : List UInt8} {k a : Nat} (h : k < l.length) : scan a (l.drop k) = if a * 10 + (l[k].toNat - 48) ≤ 1000000000000 then scan (a * 10 + (l[k].toNat - 48)) (l.drop (k + 1)) else none := by
 rw [List.drop_eq_getElem_cons h, scan]

/-- The loop of Parse, whatever stands ahead of it. -/
theorem bodyL_len (l : List UInt8) : (bodyL l).length ≤ l.length := by
 unfold bodyL Lib.trimPrefix
 split
 ·simp
 ·exact Nat.le_refl _

def isDecimalOk (d : ByteArray) : Prop := ∀ w : World, Calls Tryz.prog 230 #[.string d] w fun e w' => e = .returned (.bool true) ∧ w = w'
set_option maxHeartbeats 1000000 in
theorem parse_core (s d : ByteArray) (neg : Bool) (hs : d.size ≤ maxLen) (w : World)
  (hcut : Hid (∀ w, Calls Tryz.prog 229 #[.string s, .string ⟨#[45]⟩] w fun e w' => e = .returned (.tuple #[.string d, .bool neg]) ∧ w' = w))
  (hd : Hid (decB d.toList = true)) (hn : Hid ((neg && d.toList == [48]) = false)) :
  Calls Tryz.prog 176 #[.string s] w fun e w' => e = pair (finV neg (scan 0 d.toList)) (finE (scan 0 d.toList)) ∧ w = w' := by
 unfold maxLen at hs
 have hx : d.toList = d.data.toList := Go.ByteArray.toList_eq d
 have HL : Hid (d.toList.length = d.size) := Lib.hid (by rw [hx]; simp)
 have HA : Hid (d.toList.all isDig = true) := by
  refine Lib.hid ?_
  have := hd.out
  simp only [decB, Bool.and_eq_true] at this
  exact this.1
 have HI : Hid (isDecimalOk d) := by
  refine Lib.hid fun w => ?_
  have := isDecimal_any d hs w
  rw [← hx, hd.out] at this
  exact this
 have HX := Lib.hid hx
 clear hx
 have hn' := hn.out
 cases neg
 ·clear hn'
  go_enter Tryz.func176, Tryz.ntmps176
  go_wp2_with (first | (go_at_call 229; refine (hcut.out _).mono ?_; rintro e w' ⟨rfl, rfl⟩) | (go_at_call 230; refine (HI.out _).mono ?_; rintro e w' ⟨rfl, rfl⟩))
  go_loop [6, 25] (fun n i => ∃ (a k : Nat), k ≤ d.size ∧ i = .int .i64 (k : Int) ∧ n = .int .i64 (a : Int) ∧ a ≤ 1000000000000 ∧ Hid (scan 0 d.toList = scan a (d.toList.drop k))) (fun _ i => d.size - (intOf i).toNat)
  case atStart => exact ⟨0, 0, Nat.zero_le _, rfl, rfl, by omega, Lib.hid rfl⟩
  case round =>
   obtain ⟨a, k, hk, rfl, rfl, ha, hr⟩ := hrel
   by_cases hlt : k < d.size
   ·have hlt' : k < d.toList.length := by rw [HL.out]; exact hlt
    have hg : d.toList[k] = d[k] := by simp only [HX.out]; rfl
    obtain ⟨c1, c2⟩ := dig_bd (all_get HA.out hlt')
    rw [hg] at c1 c2
    have hsd := scan_drop (a := a) hlt'
    rw [hg] at hsd
    have HS := Lib.hid hsd
    clear hsd hg hlt'
    by_cases hm : (a : Int) * 10 + ((d[k].toNat : Int) - 48) ≤ 1000000000000
    ·have hv := Lib.hid (vld_of (n := (a : Int) * 10 + ((d[k].toNat : Int) - 48)) (by omega) hm)
     go_wp2_with (go_at_call 231; refine (valid_any _ _).mono ?_; rintro e w' ⟨rfl, rfl⟩; rw [hv.out])
     go_round
     case rel => exact ⟨a * 10 + (d[k].toNat - 48), k + 1, by omega, by go_num, congrArg (Value.int .i64) (by omega), by omega, Lib.hid (by rw [hr.out, HS.out, if_pos (by omega)])⟩
     case measure => simp [intOf]; omega
    ·have hv := Lib.hid (vld_not (n := (a : Int) * 10 + ((d[k].toNat : Int) - 48)) (by omega))
     have hz := Lib.hid (show scan 0 d.toList = none by rw [hr.out, HS.out, if_neg (by omega)])
     go_wp2_with (go_at_call 231; refine (valid_any _ _).mono ?_; rintro e w' ⟨rfl, rfl⟩; rw [hv.out])
     go_ret2
     exact ⟨by rw [hz.out]; rfl, rfl⟩
   ·have hz := Lib.hid (show scan 0 d.toList = some a by rw [hr.out, List.drop_eq_nil_of_le (by rw [HL.out]; omega)]; rfl)
    go_wp2
    go_ret2
    exact ⟨by rw [hz.out]; rfl, rfl⟩
 ·have hz0 : (d.toList == [48]) = false := by simpa using hn'
  clear hn'
  go_enter Tryz.func176, Tryz.ntmps176
  go_wp2_with (first | (go_at_call 229; refine (hcut.out _).mono ?_; rintro e w' ⟨rfl, rfl⟩) | (go_at_call 230; refine (HI.out _).mono ?_; rintro e w' ⟨rfl, rfl⟩))
  go_loop [6, 25] (fun n i => ∃ (a k : Nat), k ≤ d.size ∧ i = .int .i64 (k : Int) ∧ n = .int .i64 (a : Int) ∧ a ≤ 1000000000000 ∧ Hid (scan 0 d.toList = scan a (d.toList.drop k))) (fun _ i => d.size - (intOf i).toNat)
  case atStart => exact ⟨0, 0, Nat.zero_le _, rfl, rfl, by omega, Lib.hid rfl⟩
  case round =>
   obtain ⟨a, k, hk, rfl, rfl, ha, hr⟩ := hrel
   by_cases hlt : k < d.size
   ·have hlt' : k < d.toList.length := by rw [HL.out]; exact hlt
    have hg : d.toList[k] = d[k] := by simp only [HX.out]; rfl
    obtain ⟨c1, c2⟩ := dig_bd (all_get HA.out hlt')
    rw [hg] at c1 c2
    have hsd := scan_drop (a := a) hlt'
    rw [hg] at hsd
    have HS := Lib.hid hsd
    clear hsd hg hlt'
    by_cases hm : (a : Int) * 10 + ((d[k].toNat : Int) - 48) ≤ 1000000000000
    ·have hv := Lib.hid (vld_of (n := (a : Int) * 10 + ((d[k].toNat : Int) - 48)) (by omega) hm)
     go_wp2_with (go_at_call 231; refine (valid_any _ _).mono ?_; rintro e w' ⟨rfl, rfl⟩; rw [hv.out])
     go_round
     case rel => exact ⟨a * 10 + (d[k].toNat - 48), k + 1, by omega, by go_num, congrArg (Value.int .i64) (by omega), by omega, Lib.hid (by rw [hr.out, HS.out, if_pos (by omega)])⟩
     case measure => simp [intOf]; omega
    ·have hv := Lib.hid (vld_not (n := (a : Int) * 10 + ((d[k].toNat : Int) - 48)) (by omega))
     have hz := Lib.hid (show scan 0 d.toList = none by rw [hr.out, HS.out, if_neg (by omega)])
     go_wp2_with (go_at_call 231; refine (valid_any _ _).mono ?_; rintro e w' ⟨rfl, rfl⟩; rw [hv.out])
     go_ret2
     exact ⟨by rw [hz.out]; rfl, rfl⟩
   ·have hz := Lib.hid (show scan 0 d.toList = some a by rw [hr.out, List.drop_eq_nil_of_le (by rw [HL.out]; omega)]; rfl)
    go_wp2
    go_ret2
    exact ⟨by rw [hz.out]; rfl, rfl⟩

theorem parse_no (s d : ByteArray) (neg b : Bool) (w : World)
  (hcut : Hid (∀ w, Calls Tryz.prog 229 #[.string s, .string ⟨#[45]⟩] w fun e w' => e = .returned (.tuple #[.string d, .bool neg]) ∧ w' = w))
  (hd : Hid (∀ w : World, Calls Tryz.prog 230 #[.string d] w fun e w' => e = .returned (.bool b) ∧ w = w')) (hn : (b && !(neg && d.toList == [48])) = false) :
  Calls Tryz.prog 176 #[.string s] w fun e w' => e = pair 0 1 ∧ w = w' := by
 unfold pair
 cases b
 ·clear hn
  go_enter Tryz.func176, Tryz.ntmps176
  go_wp2_with (first | (go_at_call 229; refine (hcut.out _).mono ?_; rintro e w' ⟨rfl, rfl⟩) | (go_at_call 230; refine (hd.out _).mono ?_; rintro e w' ⟨rfl, rfl⟩))
  go_ret2
  exact ⟨rfl, rfl⟩
 ·cases neg
  ·simp at hn
  ·have hz : d.toList = [48] := by simpa using hn
   clear hn
   go_enter Tryz.func176, Tryz.ntmps176
   go_wp2_with (first | (go_at_call 229; refine (hcut.out _).mono ?_; rintro e w' ⟨rfl, rfl⟩) | (go_at_call 230; refine (hd.out _).mono ?_; rintro e w' ⟨rfl, rfl⟩))
   go_ret2
   exact ⟨rfl, rfl⟩
theorem parse_any (s : ByteArray) (hs : s.size ≤ maxLen) (w : World) :
  Calls Tryz.prog 176 #[.string s] w fun e w' => e = pair (parV s.toList) (parE s.toList) ∧ w = w' := by
 have hx : s.toList = s.data.toList := Go.ByteArray.toList_eq s
 have hcut := Lib.hid (fun w => Tryz.strings_CutPrefix s ⟨#[45]⟩ w)
 have h45 : (⟨#[45]⟩ : ByteArray).data.toList = [45] := rfl
 rw [h45, ← hx] at hcut
 have hb : bodyL s.toList = Lib.trimPrefix s.toList [45] := rfl
 have hn : negL s.toList = Lib.hasPrefix s.toList [45] := rfl
 rw [← hb, ← hn] at hcut
 clear hb hn h45
 have hdl : (⟨(bodyL s.toList).toArray⟩ : ByteArray).toList = bodyL s.toList := Go.ByteArray.toList_mk _
 have hds : (⟨(bodyL s.toList).toArray⟩ : ByteArray).size ≤ maxLen := by
  have h1 := bodyL_len s.toList
  have h2 : s.toList.length = s.size := by rw [hx]; simp
  show (bodyL s.toList).toArray.size ≤ maxLen
  simp only [List.size_toArray]
  omega
 unfold parV parE okL
 generalize hd : (⟨(bodyL s.toList).toArray⟩ : ByteArray) = d at *
 rw [← hdl]
 generalize negL s.toList = neg at *
 cases hok : (decB d.toList && !(neg && d.toList == [48]))
 ·have hI : Hid (∀ w : World, Calls Tryz.prog 230 #[.string d] w fun e w' => e = .returned (.bool (decB d.toList)) ∧ w = w') := Lib.hid fun w => by
   have := isDecimal_any d hds w
   rw [← Go.ByteArray.toList_eq d] at this
   exact this
  exact parse_no s d neg _ w hcut hI hok
 ·obtain ⟨h1, h2⟩ : decB d.toList = true ∧ (neg && d.toList == [48]) = false := by
   rw [Bool.and_eq_true, Bool.not_eq_true'] at hok
   exact hok
  exact parse_core s d neg hds w hcut (Lib.hid h1) (Lib.hid h2)

end Num
end Go.Proofs.YtcapkeaedpabjaaGreatDoor

/-
 The contracts of the reference's form and Parse.
-/
namespace Go.Proofs.YtcapkeaedpabjaaGreatDoor
open Go.RowKit
namespace Num

def okT (l : List UInt8) : Bool := decB l

end Num
end Go.Proofs.YtcapkeaedpabjaaGreatDoor

/-
 The contract of the reference's Parse.
-/
namespace Go.Proofs.YtcapkeaedpabjaaGreatDoor
open Go.RowKit
namespace Num

theorem prefix45 (a : UInt8) (r : List UInt8) : Lib.hasPrefix (a :: r) [45] = (a == 45) := by
 show ((45 : UInt8) == a && true) = (a == 45)
 rw [Bool.and_true, BEq.comm]
end Num
end Go.Proofs.YtcapkeaedpabjaaGreatDoor

/-
 The decimal form of an integer is read back as that integer, and what is read is a decimal form. No program is walked here.
-/
namespace Go.Proofs.YtcapkeaedpabjaaGreatDoor
open Go.RowKit
namespace Num

def stepF (a : Nat) (c : UInt8) : Nat := a * 10 + (c.toNat - 48)
def valF : Nat → List UInt8 → Nat
 | a, [] => a
 | a, c :: r => valF (stepF a c) r
theorem valF_nil (a : Nat) : valF a [] = a := rfl
theorem valF_cons (a : Nat) (c : UInt8) (r : List UInt8) : valF a (c :: r) = valF (a * 10 + (c.toNat - 48)) r := by
 have h : stepF a c = a * 10 + (c.toNat - 48) := by unfold stepF; rfl
 rw [← h]
 rfl
theorem fold_ge : ∀ (l : List UInt8) (a : Nat), a ≤ valF a l
 | [], _ => Nat.le_refl _
 | c :: r, a => by
  have := fold_ge r (a * 10 + (c.toNat - 48))
  rw [valF_cons]; omega
theorem valF_append : ∀ (l r : List UInt8) (a : Nat), valF a (l ++ r) = valF (valF a l) r
 | [], _, _ => rfl
 | c :: l, r, a => by rw [List.cons_append, valF_cons, valF_cons, valF_append l r]
theorem scan_eq : ∀ (l : List UInt8) (a : Nat), a ≤ 1000000000000 → scan a l = if valF a l ≤ 1000000000000 then some (valF a l) else none
 | [], a, h => by rw [scan, valF_nil, if_pos h]
 | c :: r, a, h => by
  rw [scan, valF_cons]
  split
  ·rename_i h1
   exact scan_eq r _ h1
  ·rename_i h1
   have := fold_ge r (a * 10 + (c.toNat - 48))
   rw [if_neg (by omega)]
theorem dgt_nat {d : Nat} (h : d < 10) : (dgt d).toNat = 48 + d := by
 show (UInt8.ofNat (48 + d)).toNat = _
 rw [UInt8.toNat_ofNat']
 exact Nat.mod_eq_of_lt (by omega)
theorem dgt_dig {d : Nat} (h : d < 10) : isDig (dgt d) = true := by
 apply dig_of <;> rw [dgt_nat h] <;> omega
theorem fold_digs : ∀ (k n : Nat), valF 0 (digs k n) = n % 10 ^ k
 | 0, n => by simp [digs, valF_nil]; omega
 | k + 1, n => by
  rw [digs, valF_append, fold_digs k (n / 10), valF_cons, valF_nil, dgt_nat (Nat.mod_lt _ (by decide)), Nat.pow_succ, Nat.mul_comm (10 ^ k) 10, Nat.mod_mul]
  omega
theorem digs_all : ∀ (k n : Nat), (digs k n).all isDig = true
 | 0, _ => rfl
 | k + 1, n => by
  rw [digs, List.all_append, digs_all k (n / 10)]
  simp [dgt_dig (Nat.mod_lt n (by decide : 0 < 10))]
theorem lt_ndF : ∀ (f n : Nat), n < 10 ^ (f + 1) → n < 10 ^ ndF f n
 | 0, n, h => h
 | f + 1, n, h => by
  rw [ndF]
  split
  ·omega
  ·have := lt_ndF f (n / 10) (by rw [Nat.pow_succ] at h; omega)
   rw [Nat.pow_succ]
   omega
theorem digs_head : ∀ (f n : Nat), n < 10 ^ (f + 1) → 1 ≤ n → ∃ c r, digs (ndF f n) n = c :: r ∧ c ≠ 48 ∧ isDig c = true
 | 0, n, h, h1 => by
  refine ⟨dgt (n % 10), [], rfl, ?_, dgt_dig (Nat.mod_lt _ (by decide))⟩
  intro e
  have := congrArg UInt8.toNat e
  rw [dgt_nat (Nat.mod_lt _ (by decide))] at this
  have : (48 : UInt8).toNat = 48 := rfl
  omega
 | f + 1, n, h, h1 => by
  rw [ndF]
  split
  ·refine ⟨dgt (n % 10), [], rfl, ?_, dgt_dig (Nat.mod_lt _ (by decide))⟩
   intro e
   have := congrArg UInt8.toNat e
   rw [dgt_nat (Nat.mod_lt _ (by decide))] at this
   have : (48 : UInt8).toNat = 48 := rfl
   omega
  ·obtain ⟨c, r, e, h2, h3⟩ := digs_head f (n / 10) (by rw [Nat.pow_succ] at h; omega) (by omega)
   exact ⟨c, r ++ [dgt (n % 10)], by rw [digs, e]; rfl, h2, h3⟩
theorem decB_digs (n : Nat) (h : n < 10 ^ 19) : decB (digs (ndF 18 n) n) = true := by
 by_cases h1 : 1 ≤ n
 ·obtain ⟨c, r, e, h2, h3⟩ := digs_head 18 n h h1
  rw [decB, digs_all, e]
  have : (some c != some (48 : UInt8)) = true := by simpa using h2
  simp [this]
 ·obtain rfl : n = 0 := by omega
  rfl

theorem scan_digs (n : Nat) (h : n < 10 ^ 19) : scan 0 (digs (ndF 18 n) n) = if n ≤ 1000000000000 then some n else none := by
 rw [scan_eq _ _ (by decide), fold_digs, Nat.mod_eq_of_lt (lt_ndF 18 n h)]

theorem notneg_digs (n : Nat) : negL (digs (ndF 18 n) n) = false := by
 have h1 := digs_all (ndF 18 n) n
 have h2 := digs_len (ndF 18 n) n
 have h3 := ndF_pos 18 n
 rcases h : digs (ndF 18 n) n with _ | ⟨c, r⟩
 ·rw [h] at h2; simp at h2; omega
 ·rw [h] at h1
  have hc : isDig c = true := by simp at h1; exact h1.1
  rw [negL, prefix45, beq_eq_false_iff_ne]
  intro e
  rw [e] at hc
  exact absurd hc (by decide)

/-- What Parse makes of a decimal form. -/
theorem parse_fmt (n : Int) (h1 : -9223372036854775808 ≤ n) (h2 : n ≤ 9223372036854775807) :
  parV (fmtL n) = (if vld n then n else 0) ∧ parE (fmtL n) = (if vld n then 0 else 2) := by
 by_cases hn : n < 0
 ·have hf : fmtL n = 45 :: digs (ndF 18 (-n).toNat) (-n).toNat := by rw [fmtL, if_pos hn, abz_neg hn]; rfl
  obtain ⟨N, hN⟩ := Int.eq_ofNat_of_zero_le (a := -n) (by omega)
  rw [hN, Int.toNat_natCast] at hf
  have hlt : N < 10 ^ 19 := by omega
  have hneg : negL (fmtL n) = true := by rw [hf, negL, prefix45]; rfl
  have hbody : bodyL (fmtL n) = digs (ndF 18 N) N := by
   have : Lib.hasPrefix (fmtL n) [45] = true := hneg
   rw [bodyL, Lib.trimPrefix, this, hf]; rfl
  have hne : (digs (ndF 18 N) N == [48]) = false := by
   obtain ⟨c, r, e, h2, _⟩ := digs_head 18 N hlt (by omega)
   rw [e, beq_eq_false_iff_ne]
   intro h
   injection h with h
   exact h2 h
  have hok : okL (fmtL n) = true := by rw [okL, hneg, hbody, decB_digs N hlt, hne]; rfl
  rw [parV, parE, hok, hneg, hbody, scan_digs N hlt]
  by_cases g : N ≤ 1000000000000
  ·have hv : vld n = true := vld_of (by omega) (by omega)
   rw [hv, if_pos g]
   exact ⟨by show -(N : Int) = n; omega, rfl⟩
  ·have hv : vld n = false := vld_not (by omega)
   rw [hv, if_neg g]
   exact ⟨rfl, rfl⟩
 ·have hf : fmtL n = digs (ndF 18 n.toNat) n.toNat := by rw [fmtL, if_neg hn, abz_pos hn]; rfl
  obtain ⟨N, rfl⟩ := Int.eq_ofNat_of_zero_le (a := n) (by omega)
  rw [Int.toNat_natCast] at hf
  have hlt : N < 10 ^ 19 := by omega
  have hneg : negL (fmtL N) = false := by rw [hf]; exact notneg_digs N
  have hbody : bodyL (fmtL N) = digs (ndF 18 N) N := by
   have : Lib.hasPrefix (fmtL N) [45] = false := hneg
   rw [bodyL, Lib.trimPrefix, this, hf]; rfl
  have hok : okL (fmtL N) = true := by rw [okL, hneg, hbody, decB_digs N hlt]; rfl
  rw [parV, parE, hok, hneg, hbody, scan_digs N hlt]
  by_cases g : N ≤ 1000000000000
  ·have hv : vld (N : Int) = true := vld_of (by omega) (by omega)
   rw [hv, if_pos g]
   exact ⟨rfl, rfl⟩
  ·have hv : vld (N : Int) = false := vld_not (by omega)
   rw [hv, if_neg g]
   exact ⟨rfl, rfl⟩

theorem dgt_back {c : UInt8} (h : isDig c = true) : dgt (c.toNat - 48) = c := by
 have := dig_bd h
 apply UInt8.toNat_inj.1
 rw [dgt_nat (by omega)]
 omega

/-- Digits without a leading zero are the decimal form of their number. -/
theorem digs_fold : ∀ (f : Nat) (b : List UInt8), b.all isDig = true → b ≠ [] → b.head? ≠ some 48 → valF 0 b < 10 ^ (f + 1) → digs (ndF f (valF 0 b)) (valF 0 b) = b ∧ 1 ≤ valF 0 b := by
 intro f
 induction f with
 | zero =>
  intro b ha hne hh hlt
  rcases List.eq_nil_or_concat b with rfl | ⟨b', c, rfl⟩
  ·exact absurd rfl hne
  ·rw [List.concat_eq_append] at *
   rw [List.all_append, Bool.and_eq_true] at ha
   have hc : isDig c = true := by simpa using ha.2
   have hb := dig_bd hc
   rw [valF_append, valF_cons, valF_nil] at hlt ⊢
   rcases b' with _ | ⟨x, r⟩
   ·have hc48 : c ≠ 48 := by simpa using hh
    have hcn : c.toNat ≠ 48 := fun e => hc48 (UInt8.toNat_inj.1 (e.trans rfl))
    have e : (0 * 10 + (c.toNat - 48)) % 10 = c.toNat - 48 := by omega
    refine ⟨?_, by show 1 ≤ 0 * 10 + (c.toNat - 48); omega⟩
    show [dgt ((0 * 10 + (c.toNat - 48)) % 10)] = [c]
    rw [e, dgt_back hc]
   ·exfalso
    have hx : x ≠ 48 := by simpa using hh
    have hxd : isDig x = true := by simp at ha; exact ha.1.1
    have hxb := dig_bd hxd
    have hxn : x.toNat ≠ 48 := fun e => hx (UInt8.toNat_inj.1 (e.trans rfl))
    have h1 := fold_ge r (0 * 10 + (x.toNat - 48))
    rw [valF_cons] at hlt
    omega
 | succ f ih =>
  intro b ha hne hh hlt
  rcases List.eq_nil_or_concat b with rfl | ⟨b', c, rfl⟩
  ·exact absurd rfl hne
  ·rw [List.concat_eq_append] at *
   rw [List.all_append, Bool.and_eq_true] at ha
   have hc : isDig c = true := by simpa using ha.2
   have hb := dig_bd hc
   rw [valF_append, valF_cons, valF_nil] at hlt ⊢
   rcases b' with _ | ⟨x, r⟩
   ·have hc48 : c ≠ 48 := by simpa using hh
    have hcn : c.toNat ≠ 48 := fun e => hc48 (UInt8.toNat_inj.1 (e.trans rfl))
    have e : (0 * 10 + (c.toNat - 48)) % 10 = c.toNat - 48 := by omega
    refine ⟨?_, by show 1 ≤ 0 * 10 + (c.toNat - 48); omega⟩
    show digs (ndF (f + 1) (0 * 10 + (c.toNat - 48))) (0 * 10 + (c.toNat - 48)) = [c]
    rw [ndF, if_pos (by omega)]
    show [dgt ((0 * 10 + (c.toNat - 48)) % 10)] = [c]
    rw [e, dgt_back hc]
   ·have hlt' : valF 0 (x :: r) < 10 ^ (f + 1) := by
     rw [Nat.pow_succ] at hlt; omega
    obtain ⟨h1, h2⟩ := ih (x :: r) ha.1 (by simp) (by simpa using hh) hlt'
    generalize valF 0 (x :: r) = F at *
    refine ⟨?_, by omega⟩
    rw [ndF, if_neg (by omega), digs, show (F * 10 + (c.toNat - 48)) / 10 = F from by omega, show (F * 10 + (c.toNat - 48)) % 10 = c.toNat - 48 from by omega, h1, dgt_back hc]

/-- What Parse accepts is the decimal form of what it returns. -/
theorem fmt_parse (l : List UInt8) (h : parE l = 0) : vld (parV l) = true ∧ fmtL (parV l) = l := by
 unfold parE at h
 cases hok : okL l
 ·rw [hok] at h; simp at h
 rw [hok, if_pos rfl] at h
 rw [parV, hok, if_pos rfl]
 rw [scan_eq _ _ (by decide)] at h ⊢
 by_cases g : valF 0 (bodyL l) ≤ 1000000000000
 ·rw [if_pos g]
  have hdec : decB (bodyL l) = true ∧ (negL l && bodyL l == [48]) = false := by
   rw [okL, Bool.and_eq_true, Bool.not_eq_true'] at hok
   exact hok
  obtain ⟨hd, hz⟩ := hdec
  rw [decB, Bool.and_eq_true] at hd
  have hcase : (bodyL l = [48] ∧ digs (ndF 18 (valF 0 (bodyL l))) (valF 0 (bodyL l)) = bodyL l ∧ valF 0 (bodyL l) = 0) ∨ (digs (ndF 18 (valF 0 (bodyL l))) (valF 0 (bodyL l)) = bodyL l ∧ 1 ≤ valF 0 (bodyL l)) := by
   rcases Bool.or_eq_true _ _ ▸ hd.2 with h1 | h1
   ·have e : bodyL l = [48] := by simpa using h1
    left
    rw [e]
    exact ⟨rfl, rfl, rfl⟩
   ·right
    rw [Bool.and_eq_true] at h1
    exact digs_fold 18 (bodyL l) hd.1 (by simpa using h1.1) (by simpa using h1.2) (by omega)
  cases hn : negL l
  ·have hb : bodyL l = l := by
    have : Lib.hasPrefix l [45] = false := hn
    rw [bodyL, Lib.trimPrefix, this]; rfl
   have hdg : digs (ndF 18 (valF 0 (bodyL l))) (valF 0 (bodyL l)) = bodyL l := by
    rcases hcase with h1 | h1
    ·exact h1.2.1
    ·exact h1.1
   refine ⟨vld_of (by show (-1000000000000 : Int) ≤ (valF 0 (bodyL l) : Nat); omega) (by show ((valF 0 (bodyL l) : Nat) : Int) ≤ _; omega), ?_⟩
   show fmtL ((valF 0 (bodyL l) : Nat) : Int) = l
   rw [fmtL, if_neg (by omega), abz_pos (by omega), Int.toNat_natCast, hdg, hb]
   rfl
  ·have hb : l = 45 :: bodyL l := by
    have hp : Lib.hasPrefix l [45] = true := hn
    rcases l with _ | ⟨a, r⟩
    ·exact absurd hp (by decide)
    ·have ha : a = 45 := by
      rw [prefix45] at hp
      simpa using hp
     rw [bodyL, Lib.trimPrefix, hp, ha]
     rfl
   rw [hn, Bool.true_and] at hz
   have hz' : bodyL l ≠ [48] := by simpa using hz
   obtain ⟨h1, h2⟩ := hcase.resolve_left fun h => hz' h.1
   refine ⟨vld_of (by show (-1000000000000 : Int) ≤ -((valF 0 (bodyL l) : Nat) : Int); omega) (by show -((valF 0 (bodyL l) : Nat) : Int) ≤ _; omega), ?_⟩
   show fmtL (-((valF 0 (bodyL l) : Nat) : Int)) = l
   rw [fmtL, if_pos (by omega), abz_neg (by omega), Int.neg_neg, Int.toNat_natCast, h1]
   exact hb.symm
 ·rw [if_neg g] at h
  exact absurd h (by decide)

end Num
end Go.Proofs.YtcapkeaedpabjaaGreatDoor
