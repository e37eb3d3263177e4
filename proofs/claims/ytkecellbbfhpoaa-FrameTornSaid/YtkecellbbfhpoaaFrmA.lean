/-
  Plain: a changed byte changes the CRC; frames, and what opening them does; packed records. No program.
-/
import Derived.Test.YtkecellbbfhpoaaHshN
namespace Go.Proofs.Ytkecellbbfhpoaa
namespace Hsh

theorem xor_rc {a b c : Nat} (h : a ^^^ c = b ^^^ c) : a = b := by
  have := congrArg (· ^^^ c) h
  simpa [Nat.xor_assoc] using this
theorem xor_lc {a b c : Nat} (h : c ^^^ a = c ^^^ b) : a = b := by
  rw [Nat.xor_comm c a, Nat.xor_comm c b] at h
  exact xor_rc h
theorem crcB_par {n m : Nat} (hn : n < 4294967296) (hm : m < 4294967296) (h1 : n % 2 = 1) (h2 : ¬ m % 2 = 1) : crcB n ≠ crcB m := by
  unfold crcB
  rw [if_pos h1, if_neg h2]
  intro h
  have e := congrArg (·.testBit 31) h
  simp only [Nat.testBit_xor] at e
  rw [Nat.testBit_lt_two_pow (show n / 2 < 2 ^ 31 by omega), Nat.testBit_lt_two_pow (show m / 2 < 2 ^ 31 by omega)] at e
  revert e
  decide
theorem crcB_inj {n m : Nat} (hn : n < 4294967296) (hm : m < 4294967296) (h : crcB n = crcB m) : n = m := by
  by_cases h1 : n % 2 = 1
  · by_cases h2 : m % 2 = 1
    · unfold crcB at h
      rw [if_pos h1, if_pos h2] at h
      have := xor_rc h
      omega
    · exact absurd h (crcB_par hn hm h1 h2)
  · by_cases h2 : m % 2 = 1
    · exact absurd h.symm (crcB_par hm hn h2 h1)
    · unfold crcB at h
      rw [if_neg h1, if_neg h2] at h
      omega
theorem crcK_inj : ∀ (k : Nat) {n m : Nat}, n < 4294967296 → m < 4294967296 → crcK k n = crcK k m → n = m
  | 0, _, _, _, _, h => h
  | k + 1, _, _, hn, hm, h => crcK_inj k hn hm (crcB_inj (crcK_lt hn k) (crcK_lt hm k) h)
theorem crcS_inj {n m : Nat} {c : UInt8} (hn : n < 4294967296) (hm : m < 4294967296) (h : crcS n c = crcS m c) : n = m :=
  xor_rc (crcK_inj 8 (crcX_lt c hn) (crcX_lt c hm) h)
theorem crcS_ne {n : Nat} {c d : UInt8} (hn : n < 4294967296) (h : crcS n c = crcS n d) : c = d :=
  UInt8.toNat_inj.1 (xor_lc (crcK_inj 8 (crcX_lt c hn) (crcX_lt d hn) h))
theorem crcF_lt : ∀ (l : List UInt8) {n : Nat}, n < 4294967296 → l.foldl crcS n < 4294967296
  | [], _, h => h
  | c :: r, _, h => crcF_lt r (crcS_lt c h)
theorem crcF_inj : ∀ (l : List UInt8) {n m : Nat}, n < 4294967296 → m < 4294967296 → l.foldl crcS n = l.foldl crcS m → n = m
  | [], _, _, _, _, h => h
  | c :: r, _, _, hn, hm, h => crcS_inj hn hm (crcF_inj r (crcS_lt c hn) (crcS_lt c hm) h)
/-- A changed byte changes the CRC. -/
theorem crc_set (l : List UInt8) (i : Nat) (h : i < l.length) (c : UInt8) (hc : c ≠ l[i]) : crc (l.set i c) ≠ crc l := by
  intro e
  have e1 := xor_lc e
  have hs : l.set i c = l.take i ++ c :: l.drop (i + 1) := by rw [List.set_eq_take_append_cons_drop, if_pos h]
  have hl : l = l.take i ++ l[i] :: l.drop (i + 1) := by rw [List.getElem_cons_drop, List.take_append_drop]
  rw [hs] at e1
  conv at e1 => rhs; rw [hl]
  rw [List.foldl_append, List.foldl_append] at e1
  simp only [List.foldl_cons] at e1
  have h0 := crcF_lt (l.take i) (show 4294967295 < 4294967296 by omega)
  exact hc (crcS_ne h0 (crcF_inj _ (crcS_lt c h0) (crcS_lt _ h0) e1))
theorem crc_lt (l : List UInt8) : crc l < 4294967296 := Nat.xor_lt_two_pow (n := 32) (by omega) (crcF_lt l (by omega))
end Hsh

namespace Frm
open Hsh

/-- Four bytes, the highest first, and the number that they are. -/
def be4 (n : Nat) : List UInt8 := [UInt8.ofNat (n / 16777216), UInt8.ofNat (n / 65536), UInt8.ofNat (n / 256), UInt8.ofNat n]
def val4 (a b c d : UInt8) : Nat := ((a.toNat * 256 + b.toNat) * 256 + c.toNat) * 256 + d.toNat
theorem be4_val (n : Nat) (h : n < 4294967296) : val4 (UInt8.ofNat (n / 16777216)) (UInt8.ofNat (n / 65536)) (UInt8.ofNat (n / 256)) (UInt8.ofNat n) = n := by
  unfold val4
  simp only [UInt8.toNat_ofNat']
  omega
theorem val4_inj {a b c d a' b' c' d' : UInt8} (h : val4 a b c d = val4 a' b' c' d') : a = a' ∧ b = b' ∧ c = c' ∧ d = d' := by
  unfold val4 at h
  have := a.toNat_lt; have := b.toNat_lt; have := c.toNat_lt; have := d.toNat_lt
  have := a'.toNat_lt; have := b'.toNat_lt; have := c'.toNat_lt; have := d'.toNat_lt
  refine ⟨UInt8.toNat_inj.1 ?_, UInt8.toNat_inj.1 ?_, UInt8.toNat_inj.1 ?_, UInt8.toNat_inj.1 ?_⟩ <;> omega
theorem be4_inj {n m : Nat} (hn : n < 4294967296) (hm : m < 4294967296) (h : be4 n = be4 m) : n = m := by
  have h1 := be4_val n hn
  have h2 := be4_val m hm
  unfold be4 at h
  simp only [List.cons.injEq, and_true] at h
  obtain ⟨e1, e2, e3, e4⟩ := h
  rw [e1, e2, e3, e4] at h1
  omega
theorem be4_len (n : Nat) : (be4 n).length = 4 := rfl

/-- The errors: truncated, corrupt. -/
inductive Bad
  | trunc
  | corrupt
/-- The frame of a body. -/
def frm (b : List UInt8) : List UInt8 := be4 b.length ++ (be4 (crc b) ++ b)
theorem frm_len (b : List UInt8) : (frm b).length = b.length + 8 := by simp [frm, be4_len]; omega
/-- What opening a string answers: the body and the frame's length, or what is wrong. -/
def opn : List UInt8 → Except Bad (List UInt8 × Nat)
  | a :: b :: c :: d :: e :: f :: g :: h :: r =>
    if 262136 < val4 a b c d then .error .corrupt
    else if r.length < val4 a b c d then .error .trunc
    else if [e, f, g, h] = be4 (crc (r.take (val4 a b c d))) then .ok (r.take (val4 a b c d), 8 + val4 a b c d) else .error .corrupt
  | _ => .error .trunc
theorem opn_eq (a b c d e f g h : UInt8) (r : List UInt8) : opn (a :: b :: c :: d :: e :: f :: g :: h :: r) =
    if 262136 < val4 a b c d then .error .corrupt
    else if r.length < val4 a b c d then .error .trunc
    else if [e, f, g, h] = be4 (crc (r.take (val4 a b c d))) then .ok (r.take (val4 a b c d), 8 + val4 a b c d) else .error .corrupt := rfl
theorem frm_eq (b : List UInt8) : frm b = UInt8.ofNat (b.length / 16777216) :: UInt8.ofNat (b.length / 65536) :: UInt8.ofNat (b.length / 256) :: UInt8.ofNat b.length :: UInt8.ofNat (crc b / 16777216) :: UInt8.ofNat (crc b / 65536) :: UInt8.ofNat (crc b / 256) :: UInt8.ofNat (crc b) :: b := rfl
theorem opn_frm (b more : List UInt8) (h : b.length ≤ 262136) : opn (frm b ++ more) = .ok (b, 8 + b.length) := by
  rw [frm_eq]
  simp only [List.cons_append]
  rw [opn_eq, be4_val b.length (by omega), if_neg (by omega), if_neg (by simp), List.take_left' rfl]
  exact if_pos rfl
theorem opn_short {s : List UInt8} (h : s.length < 8) : opn s = .error .trunc := by
  match s, h with
  | [], _ => rfl
  | [_], _ => rfl
  | [_, _], _ => rfl
  | [_, _, _], _ => rfl
  | [_, _, _, _], _ => rfl
  | [_, _, _, _, _], _ => rfl
  | [_, _, _, _, _, _], _ => rfl
  | [_, _, _, _, _, _, _], _ => rfl
  | _ :: _ :: _ :: _ :: _ :: _ :: _ :: _ :: _, h => simp at h; omega
/-- What is opened lies at the beginning, and its frame too. -/
theorem opn_ok {s b : List UInt8} {n : Nat} (h : opn s = .ok (b, n)) : n = 8 + b.length ∧ b.length ≤ 262136 ∧ n ≤ s.length ∧ s.take n = frm b := by
  match s, h with
  | a :: b' :: c :: d :: e :: f :: g :: k :: r, h =>
    rw [opn_eq] at h
    by_cases h1 : 262136 < val4 a b' c d
    · rw [if_pos h1] at h; cases h
    rw [if_neg h1] at h
    by_cases h2 : r.length < val4 a b' c d
    · rw [if_pos h2] at h; cases h
    rw [if_neg h2] at h
    by_cases h3 : [e, f, g, k] = be4 (crc (r.take (val4 a b' c d)))
    · rw [if_pos h3] at h
      simp only [Except.ok.injEq, Prod.mk.injEq] at h
      obtain ⟨rfl, rfl⟩ := h
      have hl : (r.take (val4 a b' c d)).length = val4 a b' c d := by rw [List.length_take]; omega
      refine ⟨by rw [hl], by omega, by simp; omega, ?_⟩
      have e0 := be4_val (val4 a b' c d) (by omega)
      obtain ⟨e1, e2, e3, e4⟩ := val4_inj e0
      rw [frm_eq, hl, e1, e2, e3, e4]
      unfold be4 at h3
      simp only [List.cons.injEq, and_true] at h3
      obtain ⟨f1, f2, f3, f4⟩ := h3
      rw [← f1, ← f2, ← f3, ← f4, Nat.add_comm 8]
      rfl
    · rw [if_neg h3] at h; cases h
  | [], h => cases h
  | [_], h => cases h
  | [_, _], h => cases h
  | [_, _, _], h => cases h
  | [_, _, _, _], h => cases h
  | [_, _, _, _, _], h => cases h
  | [_, _, _, _, _, _], h => cases h
  | [_, _, _, _, _, _, _], h => cases h
/-- A frame without its end. -/
theorem opn_cut (b : List UInt8) (h : b.length ≤ 262136) (k : Nat) (hk : k < (frm b).length) : opn ((frm b).take k) = .error .trunc := by
  rw [frm_len] at hk
  rcases Nat.lt_or_ge k 8 with h8 | h8
  · exact opn_short (by simp; omega)
  · obtain ⟨m, rfl⟩ : ∃ m, k = m + 8 := ⟨k - 8, by omega⟩
    rw [frm_eq]
    simp only [List.take_succ_cons]
    rw [opn_eq, be4_val b.length (by omega), if_neg (by omega), if_pos (by simp; omega)]
/-- A changed byte: never the same body; of the checksum or the body: corrupt. -/
theorem opn_changed (b more : List UInt8) (h : b.length ≤ 262136) (at_ : Nat) (ha : at_ < b.length + 8) (c : UInt8) (hc : c ≠ (frm b)[at_]'(by rw [frm_len]; exact ha)) :
    (4 ≤ at_ → opn ((frm b).set at_ c ++ more) = .error .corrupt) ∧ ∀ n, opn ((frm b).set at_ c ++ more) ≠ .ok (b, n) := by
  have key : 4 ≤ at_ → opn ((frm b).set at_ c ++ more) = .error .corrupt := fun h4 => by
    rcases Nat.lt_or_ge at_ 8 with h8 | h8
    · -- the checksum
      have hne : be4 (crc b) ≠ (be4 (crc b)).set (at_ - 4) c := by
        intro e
        have e2 := congrArg (fun l => l[at_ - 4]?) e
        rw [List.getElem?_set_self (by rw [be4_len]; omega)] at e2
        apply hc
        have e3 : (frm b)[at_]? = (be4 (crc b))[at_ - 4]? := by
          unfold frm
          rw [List.getElem?_append_right (by rw [be4_len]; exact h4), be4_len, List.getElem?_append_left (by rw [be4_len]; omega)]
        rw [e2, List.getElem?_eq_getElem (by rw [frm_len]; exact ha), Option.some.injEq] at e3
        exact e3.symm
      have es : (frm b).set at_ c = be4 b.length ++ ((be4 (crc b)).set (at_ - 4) c ++ b) := by
        unfold frm
        rw [List.set_append_right _ _ (by rw [be4_len]; exact h4), be4_len, List.set_append_left _ _ (by rw [be4_len]; omega)]
      rw [es]
      obtain ⟨x0, x1, x2, x3, hx⟩ : ∃ x0 x1 x2 x3, (be4 (crc b)).set (at_ - 4) c = [x0, x1, x2, x3] := by
        have hl : ((be4 (crc b)).set (at_ - 4) c).length = 4 := by rw [List.length_set, be4_len]
        match hq : (be4 (crc b)).set (at_ - 4) c, hl with
        | [x0, x1, x2, x3], _ => exact ⟨x0, x1, x2, x3, rfl⟩
      rw [hx] at hne ⊢
      show opn (UInt8.ofNat (b.length / 16777216) :: UInt8.ofNat (b.length / 65536) :: UInt8.ofNat (b.length / 256) :: UInt8.ofNat b.length :: x0 :: x1 :: x2 :: x3 :: (b ++ more)) = _
      rw [opn_eq, be4_val b.length (by omega), if_neg (by omega), if_neg (by simp), List.take_left' rfl]
      exact if_neg fun e => hne e.symm
    · -- the body
      obtain ⟨i, rfl⟩ : ∃ i, at_ = i + 8 := ⟨at_ - 8, by omega⟩
      have hi : i < b.length := by omega
      have hb : c ≠ b[i] := by
        intro e
        apply hc
        rw [e]
        simp only [frm_eq, List.getElem_cons_succ]
      have hcr := crc_set b i hi c hb
      rw [frm_eq]
      simp only [List.set_cons_succ, List.cons_append]
      rw [opn_eq, be4_val b.length (by omega), if_neg (by omega), if_neg (by simp), List.take_left' (by rw [List.length_set])]
      refine if_neg fun e => hcr ?_
      have e2 : be4 (crc b) = be4 (crc (b.set i c)) := e
      exact (be4_inj (crc_lt _) (crc_lt _) e2).symm
  refine ⟨key, fun n e => ?_⟩
  rcases Nat.lt_or_ge at_ 4 with h4 | h4
  · obtain ⟨_, _, e3, e4⟩ := opn_ok e
    -- the beginning of the changed string is the frame of b: so nothing was changed
    have e5 := (opn_ok e).1
    rw [List.take_append_of_le_length (by rw [List.length_set, frm_len]; omega), List.take_of_length_le (by rw [List.length_set, frm_len]; omega)] at e4
    have e6 := congrArg (fun l => l[at_]?) e4
    rw [List.getElem?_set_self (by rw [frm_len]; exact ha), List.getElem?_eq_getElem (by rw [frm_len]; exact ha), Option.some.injEq] at e6
    exact hc e6
  · rw [key h4] at e
    cases e
end Frm
end Go.Proofs.Ytkecellbbfhpoaa
