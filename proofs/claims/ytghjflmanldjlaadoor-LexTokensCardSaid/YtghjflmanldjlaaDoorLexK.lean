/-
  Layer 7: symbols at a place, in the reference and in the code.
-/
import Derived.Test.YtghjflmanldjlaaDoorLexJ
namespace Go.Proofs.YtghjflmanldjlaaDoor
open Go.RowKit
namespace Lex

def signsA : ByteArray := ⟨#[40, 41, 123, 125, 91, 93, 44, 59, 58, 61, 60, 62, 43, 45, 42, 47, 37]⟩
theorem sym_two {s : Txt} (h : s.length = 2) : symB s = (s == [61, 61] || (s == [33, 61] || (s == [60, 61] || s == [62, 61]))) := by
  match s, h with
  | [c, d], _ => rw [Bool.eq_iff_iff]; simp [symB, twos]
theorem sym_not_two {s : Txt} (h : s.length ≠ 2) : symB s = signs.any (fun c => s == [c]) := by
  match s, h with
  | [], _ => rfl
  | [c], _ => rw [Bool.eq_iff_iff]; simp [symB, signs]
  | [c, d], h => exact absurd rfl h
  | c :: d :: x :: r, _ => rw [Bool.eq_iff_iff]; simp [symB]
theorem signs_get (k : Nat) (h : k < 17) : ((signsA.toList.drop k).take (k + 1 - k)) = [signs.getD k 0] := by
  have hs : signsA.toList = signs := tl _
  have hl : k < signs.length := h
  rw [hs, Nat.add_sub_cancel_left, List.drop_eq_getElem_cons hl, List.getD_eq_getElem?_getD, List.getElem?_eq_getElem hl]
  rfl
theorem any_step (p : UInt8 → Bool) (k : Nat) (h : k < 17) : (signs.drop k).any p = (p (signs.getD k 0) || (signs.drop (k + 1)).any p) := by
  have hl : k < signs.length := h
  rw [List.drop_eq_getElem_cons hl, List.any_cons, List.getD_eq_getElem?_getD, List.getElem?_eq_getElem hl]
  rfl
set_option maxHeartbeats 400000 in
theorem rSymbol_any (s : ByteArray) (w : World) : Calls Tryd.prog 21 #[.string s] w fun e w' => e = .returned (.bool (symB s.toList)) ∧ w = w' := by
  by_cases h2 : s.size = 2
  · have hW := Lib.hid (sym_two (by rw [toL_len]; exact h2))
    have hb : ((s.size : Int) == 2) = true := by rw [h2]; rfl
    generalize symB s.toList = B at hW ⊢
    clear h2
    go_enter Tryd.func21, Tryd.ntmps21
    go_wp2
    all_goals
      go_ret
      refine ⟨?_, rfl⟩
      rw [hW.out]
      clear hW
      simp_all <;> simp only [Bool.or_assoc]
  · have hW : Hid ((signs.drop 0).any (fun c => s.toList == [c]) = symB s.toList) := Lib.hid (sym_not_two (by rw [toL_len]; exact h2)).symm
    have hb : ((s.size : Int) == 2) = false := by simp; omega
    generalize symB s.toList = B at hW ⊢
    clear h2
    go_enter Tryd.func21, Tryd.ntmps21
    go_wp2
    go_loop [4, 24] (fun _ i => ∃ k : Nat, i = .int .i64 (k : Int) ∧ k ≤ 17 ∧ Hid ((signs.drop k).any (fun c => s.toList == [c]) = B)) (fun _ i => 17 - (intOf i).toNat)
    case atStart => exact ⟨0, rfl, Nat.zero_le _, hW⟩
    case round =>
      obtain ⟨k, rfl, hk, hr⟩ := hrel
      clear hW
      by_cases hq : k < 17
      · have hr0 := hr.out
        rw [any_step _ k hq] at hr0
        have sl := fun w => cutS signsA k (k + 1) (k : Int) ((k : Int) + 1) rfl (by omega) (by omega) (show k + 1 ≤ 17 from hq) w
        rw [signs_get k hq] at sl
        obtain ⟨T, hT⟩ : ∃ T : ByteArray, ⟨[signs.getD k 0].toArray⟩ = T := ⟨_, rfl⟩
        rw [hT] at sl
        have hTl : [signs.getD k 0] = T.toList := by rw [← hT]; exact (tl _).symm
        rw [hTl] at hr0
        unfold signsA at sl
        clear hT hTl hr
        cases hc : (s.toList == T.toList) with
        | true =>
          rw [hc, Bool.true_or] at hr0
          subst hr0
          go_wp2
          go_ret
          exact ⟨rfl, rfl⟩
        | false =>
          rw [hc, Bool.false_or] at hr0
          have hr2 := Lib.hid hr0
          clear hr0
          go_wp2
          go_round
          case rel => exact ⟨k + 1, by go_num, by omega, hr2⟩
          case measure => simp [intOf]; omega
      · obtain rfl : k = 17 := by omega
        have hr0 := hr.out
        change false = B at hr0
        subst hr0
        clear hr
        go_wp2
        go_ret
        exact ⟨rfl, rfl⟩
theorem symN_two {c d : UInt8} {r : Txt} (h : symB [c, d] = true) : symN (c :: d :: r) = 2 := by show (if symB [c, d] then 2 else if symB [c] then 1 else 0) = 2; rw [if_pos h]
theorem symN_one {c d : UInt8} {r : Txt} (h : symB [c, d] = false) : symN (c :: d :: r) = if symB [c] then 1 else 0 := by show (if symB [c, d] then 2 else if symB [c] then 1 else 0) = _; rw [h]; rfl
theorem symN_end (c : UInt8) : symN [c] = if symB [c] then 1 else 0 := rfl
set_option maxHeartbeats 1000000 in
/-- The reference's symbol at a place. -/
theorem rsym_any (s : ByteArray) (hs : s.size ≤ 1000000) (p : Nat) (hp : p < s.size) (w : World) :
    Calls Tryd.prog 43 #[.string s, .int .i64 (p : Int)] w fun e w' => e = .returned (.int .i64 ((p + symN (s.toList.drop p) : Nat) : Int)) ∧ w = w' := by
  have e0 := drop_get s p hp
  have s1 := fun w => cutS s p (p + 1) (p : Int) ((p : Int) + 1) rfl (by omega) (by omega) (by omega) w
  rw [Nat.add_sub_cancel_left, e0, List.take_succ_cons, List.take_zero] at s1
  obtain ⟨T, hT⟩ : ∃ T : ByteArray, ⟨[s[p]].toArray⟩ = T := ⟨_, rfl⟩
  rw [hT] at s1
  have hTl : symB T.toList = symB [s[p]] := by rw [← hT, show (⟨[s[p]].toArray⟩ : ByteArray).toList = [s[p]] from tl _]
  have H1 := Lib.hid (fun w => rSymbol_any T w)
  rw [hTl] at H1
  by_cases h2 : p + 1 < s.size
  · have e1 := drop_get s (p + 1) h2
    have s2 := fun w => cutS s p (p + 2) (p : Int) ((p : Int) + 2) rfl (by omega) (by omega) (by omega) w
    rw [Nat.add_sub_cancel_left, e0, e1, List.take_succ_cons, List.take_succ_cons, List.take_zero] at s2
    obtain ⟨U, hU⟩ : ∃ U : ByteArray, ⟨[s[p], s[p + 1]].toArray⟩ = U := ⟨_, rfl⟩
    rw [hU] at s2
    have hUl : symB U.toList = symB [s[p], s[p + 1]] := by rw [← hU, show (⟨[s[p], s[p + 1]].toArray⟩ : ByteArray).toList = [s[p], s[p + 1]] from tl _]
    have H2 := Lib.hid (fun w => rSymbol_any U w)
    rw [hUl] at H2
    have hle : decide ((p : Int) + 2 ≤ (s.size : Int)) = true := by simp; omega
    cases hb2 : symB [s[p], s[p + 1]] with
    | true =>
      have hN : p + 2 = p + symN (s.toList.drop p) := by rw [e0, e1, symN_two hb2]
      rw [hb2] at H2
      rw [← hN]
      clear hN e0 e1 hT hTl hU hUl hb2
      go_enter Tryd.func43, Tryd.ntmps43
      go_wp2_with (go_at_call 21; refine (H2.out _).mono ?_; rintro e w' ⟨rfl, rfl⟩)
      go_ret
      exact ⟨rfl, rfl⟩
    | false =>
      cases hb1 : symB [s[p]] with
      | true =>
        have hN : p + 1 = p + symN (s.toList.drop p) := by rw [e0, e1, symN_one hb2, hb1]; rfl
        rw [hb2] at H2
        rw [hb1] at H1
        rw [← hN]
        clear hN e0 e1 hT hTl hU hUl hb2 hb1
        go_enter Tryd.func43, Tryd.ntmps43
        go_wp2_with (go_at_call 21; first | ((with_reducible refine (H2.out _).mono ?_); rintro e w' ⟨rfl, rfl⟩) | ((with_reducible refine (H1.out _).mono ?_); rintro e w' ⟨rfl, rfl⟩))
        go_ret
        exact ⟨rfl, rfl⟩
      | false =>
        have hN : p = p + symN (s.toList.drop p) := by rw [e0, e1, symN_one hb2, hb1]; rfl
        rw [hb2] at H2
        rw [hb1] at H1
        rw [← hN]
        clear hN e0 e1 hT hTl hU hUl hb2 hb1
        go_enter Tryd.func43, Tryd.ntmps43
        go_wp2_with (go_at_call 21; first | ((with_reducible refine (H2.out _).mono ?_); rintro e w' ⟨rfl, rfl⟩) | ((with_reducible refine (H1.out _).mono ?_); rintro e w' ⟨rfl, rfl⟩))
        go_ret
        exact ⟨rfl, rfl⟩
  · have e1 := drop_end s (k := p + 1) (by omega)
    have hle : decide ((p : Int) + 2 ≤ (s.size : Int)) = false := by simp; omega
    cases hb1 : symB [s[p]] with
    | true =>
      have hN : p + 1 = p + symN (s.toList.drop p) := by rw [e0, e1, symN_end, hb1]; simp
      rw [hb1] at H1
      rw [← hN]
      clear hN e0 e1 hT hTl hb1
      go_enter Tryd.func43, Tryd.ntmps43
      go_wp2_with (go_at_call 21; ((with_reducible refine (H1.out _).mono ?_); rintro e w' ⟨rfl, rfl⟩))
      go_ret
      exact ⟨rfl, rfl⟩
    | false =>
      have hN : p = p + symN (s.toList.drop p) := by rw [e0, e1, symN_end, hb1]; simp
      rw [hb1] at H1
      rw [← hN]
      clear hN e0 e1 hT hTl hb1
      go_enter Tryd.func43, Tryd.ntmps43
      go_wp2_with (go_at_call 21; ((with_reducible refine (H1.out _).mono ?_); rintro e w' ⟨rfl, rfl⟩))
      go_ret
      exact ⟨rfl, rfl⟩
/-- What remains to be asked for a symbol of at most k bytes. -/
def symAt (l : Txt) : Nat → Nat
  | 0 => 0
  | k + 1 => if symB (l.take (k + 1)) then k + 1 else symAt l k
theorem symAt_all (l : Txt) (h : l ≠ []) : symAt l (min 2 l.length) = symN l := by
  cases l with
  | nil => exact absurd rfl h
  | cons c r =>
    cases r with
    | nil => rfl
    | cons d q =>
      rw [show min 2 (c :: d :: q).length = 2 by simp]
      show (if symB [c, d] then 2 else if symB [c] then 1 else 0) = _
      rfl
set_option maxHeartbeats 400000 in
theorem sym_any (s : ByteArray) (hs : s.size ≤ maxLen) (h0 : 0 < s.size) (w : World) :
    Calls Tryd.prog 39 #[.string s] w fun e w' => e = rdV (if symN s.toList = 0 then bad 0 1 else ⟨5, s.toList.take (symN s.toList), 0, symN s.toList, 0⟩) ∧ Bel w w' := by
  unfold maxLen at hs
  have hN : Hid (symAt s.toList (min 2 s.size) = symN s.toList) := Lib.hid (by
    have := symAt_all s.toList (fun h => by have := toL_len s; rw [h] at this; simp at this; omega)
    rw [toL_len] at this
    exact this)
  generalize symN s.toList = N at hN ⊢
  obtain ⟨m, hm⟩ : ∃ m : Nat, min 2 s.size = m := ⟨_, rfl⟩
  have hm2 : (min 2 (s.size : Int)) = (m : Int) := by omega
  have hmle : m ≤ s.size ∧ m ≤ 2 := by omega
  rw [hm] at hN
  clear hm
  have hZ : Hid (rdV (if N = 0 then bad 0 1 else ⟨5, s.toList.take N, 0, N, 0⟩) = if N = 0 then .returned (.tuple #[.agg #[.int .i64 0, .string ⟨#[]⟩, .int .i64 0, .int .i64 0], .int .i64 0, .int .i64 1]) else .returned (.tuple #[.agg #[.int .i64 5, .string ⟨(s.toList.take N).toArray⟩, .int .i64 0, .int .i64 0], .int .i64 (N : Int), .int .i64 0])) := Lib.hid (by split <;> rfl)
  generalize rdV (if N = 0 then bad 0 1 else ⟨5, s.toList.take N, 0, N, 0⟩) = Z at hZ ⊢
  go_enter Tryd.func39, Tryd.ntmps39
  go_wp2
  go_loop [5] (fun i => ∃ k : Nat, i = .int .i64 (k : Int) ∧ k ≤ m ∧ Hid (symAt s.toList k = N)) (fun i => (intOf i).toNat)
  case atStart => exact ⟨m, rfl, Nat.le_refl _, hN⟩
  case round =>
    obtain ⟨k, rfl, hk, hr⟩ := hrel
    clear hN hm2
    cases k with
    | zero =>
      have hr0 := hr.out
      change 0 = N at hr0
      subst hr0
      have hZ2 := hZ.out
      rw [if_pos rfl] at hZ2
      subst hZ2
      clear hr hZ
      go_wp2
      exact bodyPost_ret (v := .tuple #[.agg #[.int .i64 0, .string ⟨#[]⟩, .int .i64 0, .int .i64 0], .int .i64 0, .int .i64 1]) (by simp [results, Tryd.results39, go_sem]) rfl ⟨rfl, (Bel.alloc (Bel.refl _) _)⟩
    | succ k =>
      have hr0 := hr.out
      rw [symAt] at hr0
      have sl := fun w => cutH s (k + 1) ((k : Int) + 1) (by omega) (by omega) w
      obtain ⟨T, hT⟩ : ∃ T : ByteArray, ⟨(s.toList.take (k + 1)).toArray⟩ = T := ⟨_, rfl⟩
      rw [hT] at sl
      have hTl : s.toList.take (k + 1) = T.toList := by rw [← hT]; exact (tl _).symm
      rw [hTl] at hr0
      have hb := str_back T
      have HS := Lib.hid (fun w => symbol_any T w)
      rw [Int.natCast_add, show ((1 : Nat) : Int) = 1 from rfl]
      clear hr
      cases hB : symB T.toList with
      | true =>
        rw [hB, if_pos rfl] at hr0
        rw [hB] at HS
        subst hr0
        have hZ2 := hZ.out
        rw [if_neg (by omega), hTl, hb, Int.natCast_add, show ((1 : Nat) : Int) = 1 from rfl] at hZ2
        subst hZ2
        clear hTl hT hb hB hZ
        go_wp2_with (go_at_call 20; refine (HS.out _).mono ?_; rintro e w' ⟨rfl, rfl⟩)
        exact bodyPost_ret (v := .tuple #[.agg #[.int .i64 5, .string T, .int .i64 0, .int .i64 0], .int .i64 ((k : Int) + 1), .int .i64 0]) (by simp [results, Tryd.results39, go_sem]) rfl ⟨rfl, (Bel.alloc (Bel.refl _) _)⟩
      | false =>
        rw [hB, if_neg (by decide)] at hr0
        rw [hB] at HS
        have hr2 := Lib.hid hr0
        clear hTl hT hb hB hr0
        go_wp2_with (go_at_call 20; refine (HS.out _).mono ?_; rintro e w' ⟨rfl, rfl⟩)
        go_round
        case rel => exact ⟨k, by go_num, by omega, hr2⟩
        case measure => simp [intOf]
end Lex
end Go.Proofs.YtghjflmanldjlaaDoor
