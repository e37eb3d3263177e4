/-
  Layer 4, the code: wordBytes, wordAt.
-/
import Derived.Test.YtkecellbbfhpoaaFrmM
namespace Go.Proofs.Ytkecellbbfhpoaa
open Go.RowKit Go.ChangeShapes Go.WideShapes
namespace Frm
open Hsh

set_option maxHeartbeats 4000000 in
theorem wordBytes_any (n : Nat) (hn : n < 4294967296) (X : ByteArray) (hX : (⟨(be4 n).toArray⟩ : ByteArray) = X) (w : World) :
    Calls Try.prog 25 #[.int .u32 (n : Int)] w fun e w' => e = .returned (.string X) ∧ Bel w w' := by
  have cv := conv4_new n w
  rw [← c4_eq n hn, hX] at cv
  clear hX
  have G := Bel.alloc (Bel.refl w)
  go_enter Try.func25, Try.ntmps25
  go_wp2
  go_ret
  exact ⟨rfl, G _⟩
/-- Or of bytes that do not meet is their sum. -/
theorem or_add (k a b : Nat) (hb : b < 2 ^ k) : 2 ^ k * a ||| b = 2 ^ k * a + b := (Nat.two_pow_add_eq_or_of_lt hb a).symm
theorem or_32 (k a b : Nat) (A : Int) (hA : A = ((2 ^ k * a : Nat) : Int)) (ha : 2 ^ k * a < 4294967296) (hk : 2 ^ k ≤ 4294967296) (hb : b < 2 ^ k) : bits .or .u32 A (b : Int) = ((2 ^ k * a + b : Nat) : Int) := by
  subst hA
  rw [u32_or_nat _ _ ha (by omega), or_add k a b hb]
set_option maxHeartbeats 4000000 in
theorem wordAt_any (s : ByteArray) (i v : Nat) (h : i + 4 ≤ s.size) (hs : s.size ≤ 140737488355328) (hv : val4 s[i] s[i + 1] s[i + 2] s[i + 3] = v) (w : World) :
    Calls Try.prog 29 #[.string s, .int .i64 (i : Int)] w fun e w' => e = .returned (.int .u32 (v : Int)) ∧ Bel w w' := by
  have x0 := fun w => idx_str s .i64 (i : Int) i rfl (by omega) w
  have x1 := fun w => idx_str s .i64 ((i : Int) + 1) (i + 1) (by omega) (by omega) w
  have x2 := fun w => idx_str s .i64 ((i : Int) + 2) (i + 2) (by omega) (by omega) w
  have x3 := fun w => idx_str s .i64 ((i : Int) + 3) (i + 3) (by omega) (by omega) w
  unfold val4 at hv
  have q0 := s[i].toNat_lt
  have q1 := s[i + 1].toNat_lt
  have q2 := s[i + 2].toNat_lt
  have q3 := s[i + 3].toNat_lt
  generalize s[i].toNat = b0 at *
  generalize s[i + 1].toNat = b1 at *
  generalize s[i + 2].toNat = b2 at *
  generalize s[i + 3].toNat = b3 at *
  have a1 : IntKind.i64.wrap ((i : Int) + 1) = (i : Int) + 1 := by rw [IntKind.wrap_i64]; omega
  have a2 : IntKind.i64.wrap ((i : Int) + 2) = (i : Int) + 2 := by rw [IntKind.wrap_i64]; omega
  have a3 : IntKind.i64.wrap ((i : Int) + 3) = (i : Int) + 3 := by rw [IntKind.wrap_i64]; omega
  have o1 : bits BinOp.or IntKind.u32 ((b0 : Int) * 16777216) ((b1 : Int) * 65536) = ((2 ^ 16 * (b0 * 256 + b1) : Nat) : Int) := by
    have := or_32 24 b0 (b1 * 65536) ((b0 : Int) * 16777216) (by omega) (by omega) (by omega) (by omega)
    rw [show (b1 : Int) * 65536 = ((b1 * 65536 : Nat) : Int) by omega, this]
    omega
  have o2 : bits BinOp.or IntKind.u32 ((2 ^ 16 * (b0 * 256 + b1) : Nat) : Int) ((b2 : Int) * 256) = ((2 ^ 8 * ((b0 * 256 + b1) * 256 + b2) : Nat) : Int) := by
    have := or_32 16 (b0 * 256 + b1) (b2 * 256) _ rfl (by omega) (by omega) (by omega)
    rw [show (b2 : Int) * 256 = ((b2 * 256 : Nat) : Int) by omega, this]
    omega
  have o3 : bits BinOp.or IntKind.u32 ((2 ^ 8 * ((b0 * 256 + b1) * 256 + b2) : Nat) : Int) (b3 : Int) = (v : Int) := by
    have := or_32 8 ((b0 * 256 + b1) * 256 + b2) b3 _ rfl (by omega) (by omega) (by omega)
    rw [this]
    omega
  generalize ((2 ^ 16 * (b0 * 256 + b1) : Nat) : Int) = E1 at o1 o2
  generalize ((2 ^ 8 * ((b0 * 256 + b1) * 256 + b2) : Nat) : Int) = E2 at o2 o3
  clear hv
  go_enter Try.func29, Try.ntmps29
  go_upto_region 1 with (fail)
  go_quiet (fail)
  clear x0 x1 x2 x3 a1 a2 a3 o1 o2 o3
  have G := (Bel.refl w).drewN nq
  go_wp2
  go_ret
  exact ⟨rfl, G⟩
end Frm
end Go.Proofs.Ytkecellbbfhpoaa
