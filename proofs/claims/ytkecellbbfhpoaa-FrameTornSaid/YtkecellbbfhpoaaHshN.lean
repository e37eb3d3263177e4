/-
  Plain: FNV-1a and CRC-32. No program.
-/
import Derived.Lib.Hide
namespace Go.Proofs.Ytkecellbbfhpoaa
namespace Hsh

/-- One byte of FNV-1a, and all bytes. -/
def fnvS (h : Nat) (c : UInt8) : Nat := (h ^^^ c.toNat) * 1099511628211 % 18446744073709551616
def fnv (l : List UInt8) : Nat := l.foldl fnvS 14695981039346656037
theorem fnvS_lt (h : Nat) (c : UInt8) : fnvS h c < 18446744073709551616 := Nat.mod_lt _ (by omega)
theorem fnv_lt (l : List UInt8) : fnv l < 18446744073709551616 := by
  unfold fnv
  have : ∀ (l : List UInt8) (h : Nat), h < 18446744073709551616 → l.foldl fnvS h < 18446744073709551616 := by
    intro l
    induction l with
    | nil => exact fun h hh => hh
    | cons c r ih => exact fun h _ => ih _ (fnvS_lt h c)
  exact this l _ (by omega)
theorem foldl_lt : ∀ (l : List UInt8) (h : Nat), h < 18446744073709551616 → l.foldl fnvS h < 18446744073709551616
  | [], _, hh => hh
  | c :: r, h, _ => foldl_lt r _ (fnvS_lt h c)
/-- One bit, one byte, and all bytes of CRC-32. -/
def crcB (n : Nat) : Nat := if n % 2 = 1 then (n / 2) ^^^ 3988292384 else n / 2
def crcK : Nat → Nat → Nat
  | 0, n => n
  | k + 1, n => crcB (crcK k n)
def crcS (n : Nat) (c : UInt8) : Nat := crcK 8 (n ^^^ c.toNat)
def crc (l : List UInt8) : Nat := 4294967295 ^^^ l.foldl crcS 4294967295
theorem crcB_lt {n : Nat} (h : n < 4294967296) : crcB n < 4294967296 := by
  unfold crcB
  split
  · exact Nat.xor_lt_two_pow (n := 32) (by omega) (by omega)
  · omega
theorem crcK_lt {n : Nat} (h : n < 4294967296) : ∀ k, crcK k n < 4294967296
  | 0 => h
  | k + 1 => crcB_lt (crcK_lt h k)
theorem crcX_lt {n : Nat} (c : UInt8) (h : n < 4294967296) : n ^^^ c.toNat < 4294967296 :=
  Nat.xor_lt_two_pow (n := 32) (by omega) (by have := c.toNat_lt; omega)
theorem crcS_lt {n : Nat} (c : UInt8) (h : n < 4294967296) : crcS n c < 4294967296 := crcK_lt (crcX_lt c h) 8
end Hsh
end Go.Proofs.Ytkecellbbfhpoaa
