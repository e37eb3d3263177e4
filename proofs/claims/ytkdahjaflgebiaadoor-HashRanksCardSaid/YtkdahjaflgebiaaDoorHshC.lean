/-
  Hexadecimal forms, and what reading and writing them do to each other; no program but the contract of Bucket.
-/
import Derived.Test.YtkdahjaflgebiaaDoorHshB
namespace Go.Proofs.YtkdahjaflgebiaaDoor
open Go.RowKit
namespace Hsh

/-- The last k hexadecimal digits of n. -/
def hexF : Nat → Nat → List UInt8
  | 0, _ => []
  | k + 1, n => hexF k (n / 16) ++ [UInt8.ofNat (hexC (n % 16))]
def hexL (n : Nat) : List UInt8 := hexF 16 n
theorem hexF_len : ∀ k n, (hexF k n).length = k
  | 0, _ => rfl
  | k + 1, n => by simp [hexF, hexF_len k]
theorem unF_append : ∀ (l r : List UInt8) (a : Nat), unF a (l ++ r) = (unF a l).bind fun b => unF b r
  | [], r, a => rfl
  | c :: l, r, a => by
    simp only [List.cons_append, unF]
    split
    · rfl
    · exact unF_append l r _
theorem hexC_digV : ∀ i : Fin 16, digV (UInt8.ofNat (hexC i.val)).toNat = (i.val : Int) := by decide +kernel
theorem unF_hexF : ∀ (k n : Nat), n < 16 ^ k → unF 0 (hexF k n) = some n
  | 0, n, h => by
    have : n = 0 := by omega
    rw [this]; rfl
  | k + 1, n, h => by
    have h1 : n / 16 < 16 ^ k := by rw [Nat.pow_succ] at h; omega
    have hd := hexC_digV ⟨n % 16, Nat.mod_lt _ (by omega)⟩
    simp only at hd
    rw [hexF, unF_append, unF_hexF k _ h1]
    simp only [Option.bind_some, unF, hd]
    rw [if_neg (by omega)]
    congr 1
    omega
theorem digV_hexC {c : UInt8} (h : ¬ digV c.toNat < 0) : UInt8.ofNat (hexC (digV c.toNat).toNat) = c := by
  have hc := c.toNat_lt
  apply UInt8.toNat_inj.1
  unfold digV at h ⊢
  by_cases h1 : 48 ≤ c.toNat ∧ c.toNat ≤ 57
  · rw [if_pos h1]
    unfold hexC
    rw [if_pos (by omega), UInt8.toNat_ofNat']
    omega
  · rw [if_neg h1] at h ⊢
    by_cases h2 : 97 ≤ c.toNat ∧ c.toNat ≤ 102
    · rw [if_pos h2]
      unfold hexC
      rw [if_neg (by omega), UInt8.toNat_ofNat']
      omega
    · rw [if_neg h2] at h
      omega
theorem hexF_unF : ∀ (k : Nat) (l : List UInt8) (n : Nat), l.length = k → unF 0 l = some n → hexF k n = l ∧ n < 16 ^ k
  | 0, l, n, hl, h => by
    have : l = [] := List.length_eq_zero_iff.1 hl
    subst this
    simp only [unF, Option.some.injEq] at h
    exact ⟨rfl, by omega⟩
  | k + 1, l, n, hl, h => by
    obtain ⟨r, c, rfl⟩ : ∃ r c, l = r ++ [c] := by
      have hne : l ≠ [] := by intro e; rw [e] at hl; simp at hl
      exact ⟨l.dropLast, l.getLast hne, (List.dropLast_concat_getLast hne).symm⟩
    have hr : r.length = k := by simpa using hl
    rw [unF_append] at h
    cases hu : unF 0 r with
    | none => rw [hu] at h; simp at h
    | some b =>
      rw [hu] at h
      simp only [Option.bind_some, unF] at h
      split at h
      · simp at h
      · rename_i hneg
        simp only [Option.some.injEq] at h
        obtain ⟨i1, i2⟩ := hexF_unF k r b hr hu
        have hb := digV_bd c.toNat
        have hh := digV_hexC hneg
        have e1 : n / 16 = b := by omega
        have e2 : n % 16 = (digV c.toNat).toNat := by omega
        refine ⟨?_, by rw [Nat.pow_succ]; omega⟩
        rw [hexF, e1, e2, i1, hh]
theorem unh_hex {n : Nat} (h : n < 18446744073709551616) : unh (hexL n) = some n := by
  unfold unh hexL
  rw [hexF_len, if_pos rfl]
  exact unF_hexF 16 n h
theorem hex_unh {l : List UInt8} {n : Nat} (h : unh l = some n) : hexL n = l ∧ n < 18446744073709551616 := by
  unfold unh at h
  split at h
  · exact hexF_unF 16 l n (by assumption) h
  · cases h

theorem tl (l : List UInt8) : (⟨l.toArray⟩ : ByteArray).toList = l := Go.ByteArray.toList_mk _

/-- What Bucket answers. -/
def bkV (l : List UInt8) (n : Int) : Int := if 1 ≤ n ∧ n ≤ 1000000000000 then (fnv l : Int) % n else 0
def bkE (n : Int) : Int := if 1 ≤ n ∧ n ≤ 1000000000000 then 0 else 2
theorem bucket_any (s : ByteArray) (n : Int) (hf : -9223372036854775808 ≤ n ∧ n ≤ 9223372036854775807) (hS : Hid (∀ W : World, Calls Tryd.prog 11 #[.string s] W fun e w' => e = .returned (.int .u64 (fnv s.toList : Int)) ∧ W = w')) (w : World) :
    Calls Tryd.prog 20 #[.string s, .int .i64 n] w fun e w' => e = .returned (.tuple #[.int .i64 (bkV s.toList n), .int .i64 (bkE n)]) ∧ w = w' := by
  unfold bkV bkE
  by_cases h1 : 1 ≤ n
  · by_cases h2 : n ≤ 1000000000000
    · have h0 : 0 ≤ n := by omega
      have hl := fnv_lt s.toList
      rw [if_pos ⟨h1, h2⟩, if_pos ⟨h1, h2⟩]
      generalize fnv s.toList = v at *
      have e0 : ((n : Int) == 0) = false := by simp; omega
      have m0 := Int.emod_nonneg (v : Int) (b := n) (by omega)
      have m1 := Int.emod_lt_of_pos (v : Int) (b := n) (by omega)
      go_enter Tryd.func20, Tryd.ntmps20
      go_wp2_with fail
      refine (hS.out _).mono ?_
      rintro e w1 ⟨rfl, rfl⟩
      go_wp2_with fail
      go_ret2
      exact ⟨rfl, rfl⟩
    · have h2' : 1000000000000 < n := by omega
      rw [if_neg (by omega), if_neg (by omega)]
      clear h2
      go_enter Tryd.func20, Tryd.ntmps20
      go_wp2_with fail
      go_ret2
      exact ⟨rfl, rfl⟩
  · have h1' : n < 1 := by omega
    rw [if_neg (by omega), if_neg (by omega)]
    clear h1
    go_enter Tryd.func20, Tryd.ntmps20
    go_wp2_with fail
    go_ret2
    exact ⟨rfl, rfl⟩
theorem rbucket_any (s : ByteArray) (n : Int) (hf : -9223372036854775808 ≤ n ∧ n ≤ 9223372036854775807) (hS : Hid (∀ W : World, Calls Tryd.prog 12 #[.string s] W fun e w' => e = .returned (.int .u64 (fnv s.toList : Int)) ∧ W = w')) (w : World) :
    Calls Tryd.prog 21 #[.string s, .int .i64 n] w fun e w' => e = .returned (.tuple #[.int .i64 (bkV s.toList n), .int .i64 (bkE n)]) ∧ w = w' := by
  unfold bkV bkE
  by_cases h1 : 1 ≤ n
  · by_cases h2 : n ≤ 1000000000000
    · have h0 : 0 ≤ n := by omega
      have hl := fnv_lt s.toList
      rw [if_pos ⟨h1, h2⟩, if_pos ⟨h1, h2⟩]
      generalize fnv s.toList = v at *
      have e0 : ((n : Int) == 0) = false := by simp; omega
      have m0 := Int.emod_nonneg (v : Int) (b := n) (by omega)
      have m1 := Int.emod_lt_of_pos (v : Int) (b := n) (by omega)
      go_enter Tryd.func21, Tryd.ntmps21
      go_wp2_with fail
      refine (hS.out _).mono ?_
      rintro e w1 ⟨rfl, rfl⟩
      go_wp2_with fail
      go_ret2
      exact ⟨rfl, rfl⟩
    · have h2' : 1000000000000 < n := by omega
      rw [if_neg (by omega), if_neg (by omega)]
      clear h2
      go_enter Tryd.func21, Tryd.ntmps21
      go_wp2_with fail
      go_ret2
      exact ⟨rfl, rfl⟩
  · have h1' : n < 1 := by omega
    rw [if_neg (by omega), if_neg (by omega)]
    clear h1
    go_enter Tryd.func21, Tryd.ntmps21
    go_wp2_with fail
    go_ret2
    exact ⟨rfl, rfl⟩
end Hsh
end Go.Proofs.YtkdahjaflgebiaaDoor
