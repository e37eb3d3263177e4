/-
  Layer 7, the code: word, host, symbol, integer.
-/
import Derived.Test.YtghjflmanldjlaaDoorLexI
import Derived.Test.YtghjflmanldjlaaDoorNumJ
namespace Go.Proofs.YtghjflmanldjlaaDoor
open Go.RowKit
namespace Lex

/-- A token's block. -/
def TkC (w : World) (g : Nat) (k : Int) (s : ByteArray) (i a : Int) : Prop := w.cell? ⟨g, 0, none⟩ = some (.int .i64 k) ∧ w.cell? ⟨g, 1, none⟩ = some (.string s) ∧ w.cell? ⟨g, 2, none⟩ = some (.int .i64 i) ∧ w.cell? ⟨g, 3, none⟩ = some (.int .i64 a) ∧ w.frozen? ⟨g, 0, none⟩ = false ∧ w.frozen? ⟨g, 1, none⟩ = false ∧ w.frozen? ⟨g, 2, none⟩ = false ∧ w.frozen? ⟨g, 3, none⟩ = false
theorem TkC.on {w w' : World} {g : Nat} {k i a : Int} {s : ByteArray} (h : TkC w g k s i a) (b : Bel w w') : TkC w' g k s i a := by
  obtain ⟨h1, h2, h3, h4, f1, f2, f3, f4⟩ := h
  exact ⟨b.cell h1, b.cell h2, b.cell h3, b.cell h4, (Below.frozen (p := ⟨g, 0, none⟩) b (cell_lt h1)).trans f1, (Below.frozen (p := ⟨g, 1, none⟩) b (cell_lt h2)).trans f2, (Below.frozen (p := ⟨g, 2, none⟩) b (cell_lt h3)).trans f3, (Below.frozen (p := ⟨g, 3, none⟩) b (cell_lt h4)).trans f4⟩
theorem TkC.new (w : World) (k i a : Int) (s : ByteArray) (t : TypeId) : TkC (w.alloc (.cells #[.int .i64 k, .string s, .int .i64 i, .int .i64 a] t)) w.heap.size k s i a :=
  ⟨by rw [World.cell?_alloc_new]; rfl, by rw [World.cell?_alloc_new]; rfl, by rw [World.cell?_alloc_new]; rfl, by rw [World.cell?_alloc_new]; rfl, World.frozen?_alloc_new _ _ _ _, World.frozen?_alloc_new _ _ _ _, World.frozen?_alloc_new _ _ _ _, World.frozen?_alloc_new _ _ _ _⟩
/-- What is read, as it is returned. -/
def rdV (R : Rd) : Ending := .returned (.tuple #[.agg #[.int .i64 R.k, .string ⟨R.s.toArray⟩, .int .i64 R.i, .int .i64 0], .int .i64 R.n, .int .i64 R.e])
theorem run_size (s : ByteArray) : (⟨(s.toList.take (runN s.toList)).toArray⟩ : ByteArray).size = runN s.toList := by
  rw [← toL_len, tl, List.length_take, Nat.min_eq_left (run_le _)]
set_option maxHeartbeats 400000 in
theorem word_any (s : ByteArray) (hs : s.size ≤ maxLen) (w : World) :
    Calls Tryd.prog 35 #[.string s] w fun e w' => e = rdV (if 24 < runN s.toList then bad 0 3 else ⟨if wordB (s.toList.take (runN s.toList)) then 2 else 1, s.toList.take (runN s.toList), 0, runN s.toList, 0⟩) ∧ Bel w w' := by
  have HR := Lib.hid (fun w => run_any s hs w)
  have hz := run_size s
  obtain ⟨T, hT⟩ : ∃ T : ByteArray, ⟨(s.toList.take (runN s.toList)).toArray⟩ = T := ⟨_, rfl⟩
  have hTl : s.toList.take (runN s.toList) = T.toList := by rw [← hT]; exact (tl _).symm
  rw [hT] at HR hz
  rw [hTl]
  have hle := run_le s.toList
  rw [toL_len] at hle
  clear hT hTl
  generalize runN s.toList = N at *
  subst hz
  unfold maxLen at hs
  have hb := str_back T
  have HK := Lib.hid (fun w => keyword_any T w)
  by_cases h1 : 24 < T.size
  · rw [if_pos h1]
    go_enter Tryd.func35, Tryd.ntmps35
    go_wp2_with (go_at_call 52; refine (HR.out _).mono ?_; rintro e w' ⟨rfl, rfl⟩)
    exact bodyPost_ret (v := .tuple #[.agg #[.int .i64 0, .string ⟨#[]⟩, .int .i64 0, .int .i64 0], .int .i64 0, .int .i64 3]) (by simp [results, Tryd.results35, go_sem]) rfl ⟨rfl, (Bel.alloc (Bel.refl _) _)⟩
  · rw [if_neg h1]
    unfold rdV
    dsimp only
    rw [hb]
    generalize wordB T.toList = b at HK ⊢
    cases b
    · go_enter Tryd.func35, Tryd.ntmps35
      go_wp2_with (first | (go_at_call 52; refine (HR.out _).mono ?_; rintro e w' ⟨rfl, rfl⟩) | (go_at_call 18; refine (HK.out _).mono ?_; rintro e w' ⟨rfl, rfl⟩))
      exact bodyPost_ret (v := .tuple #[.agg #[.int .i64 1, .string T, .int .i64 0, .int .i64 0], .int .i64 T.size, .int .i64 0]) (by simp [results, Tryd.results35, go_sem]) rfl ⟨rfl, (Bel.alloc (Bel.refl _) _)⟩
    · go_enter Tryd.func35, Tryd.ntmps35
      go_wp2_with (first | (go_at_call 52; refine (HR.out _).mono ?_; rintro e w' ⟨rfl, rfl⟩) | (go_at_call 18; refine (HK.out _).mono ?_; rintro e w' ⟨rfl, rfl⟩))
      exact bodyPost_ret (v := .tuple #[.agg #[.int .i64 2, .string T, .int .i64 0, .int .i64 0], .int .i64 T.size, .int .i64 0]) (by simp [results, Tryd.results35, go_sem]) rfl ⟨rfl, (Bel.alloc (Bel.refl _) _)⟩
theorem str_ne {T : ByteArray} (h : 0 < T.size) : T.toList.isEmpty = false ∧ (T.toList = []) = False := by
  have hl := toL_len T
  constructor
  · cases hs : T.toList with
    | nil => rw [hs] at hl; simp at hl; omega
    | cons c r => rfl
  · apply eq_false
    intro hs
    rw [hs] at hl
    simp at hl
    omega
theorem empty_str {s : ByteArray} (h : s.size = 0) : s = ⟨#[]⟩ := by
  cases s with
  | mk d =>
    have : d.size = 0 := h
    rw [Array.eq_empty_of_size_eq_zero this]
set_option maxHeartbeats 400000 in
theorem host_any (s : ByteArray) (hs : s.size ≤ maxLen) (r : Txt) (hr : s.toList = 64 :: r) (w : World) :
    Calls Tryd.prog 38 #[.string s] w fun e w' => e = rdV (if runN r = 0 then bad 0 1 else if 24 < runN r then bad 0 3 else ⟨6, r.take (runN r), 0, runN r + 1, 0⟩) ∧ Bel w w' := by
  have h1 : 1 ≤ s.size := by rw [← toL_len, hr]; simp
  have sl := fun w => cutE s 1 1 rfl h1 w
  obtain ⟨U, hU⟩ : ∃ U : ByteArray, ⟨(s.toList.drop 1).toArray⟩ = U := ⟨_, rfl⟩
  rw [hU] at sl
  have hUl : U.toList = r := by rw [← hU, hr]; exact tl _
  have hUs : U.size ≤ maxLen := by rw [← toL_len, hUl]; have := toL_len s; rw [hr] at this; simp at this; unfold maxLen at hs ⊢; omega
  have HR := Lib.hid (fun w => run_any U hUs w)
  have hz := run_size U
  rw [hUl] at HR hz
  obtain ⟨T, hT⟩ : ∃ T : ByteArray, ⟨(r.take (runN r)).toArray⟩ = T := ⟨_, rfl⟩
  have hTl : r.take (runN r) = T.toList := by rw [← hT]; exact (tl _).symm
  rw [hT] at HR hz
  rw [hTl]
  have hle := run_le r
  have hrl : r.length + 1 = s.size := by rw [← toL_len, hr]; rfl
  clear hT hTl hU hUl hUs hr
  generalize runN r = N at *
  subst hz
  unfold maxLen at hs
  have hb := str_back T
  by_cases h0 : T.size = 0
  · rw [if_pos h0]
    obtain rfl := empty_str h0
    clear h0 hb
    go_enter Tryd.func38, Tryd.ntmps38
    go_wp2_with (go_at_call 52; refine (HR.out _).mono ?_; rintro e w' ⟨rfl, rfl⟩)
    exact bodyPost_ret (v := .tuple #[.agg #[.int .i64 0, .string ⟨#[]⟩, .int .i64 0, .int .i64 0], .int .i64 0, .int .i64 1]) (by simp [results, Tryd.results38, go_sem]) rfl ⟨rfl, (Bel.alloc (Bel.refl _) _)⟩
  rw [if_neg h0]
  obtain ⟨hne, hne2⟩ := str_ne (T := T) (by omega)
  by_cases h1 : 24 < T.size
  · rw [if_pos h1]
    go_enter Tryd.func38, Tryd.ntmps38
    go_wp2_with (go_at_call 52; refine (HR.out _).mono ?_; rintro e w' ⟨rfl, rfl⟩)
    exact bodyPost_ret (v := .tuple #[.agg #[.int .i64 0, .string ⟨#[]⟩, .int .i64 0, .int .i64 0], .int .i64 0, .int .i64 3]) (by simp [results, Tryd.results38, go_sem]) rfl ⟨rfl, (Bel.alloc (Bel.refl _) _)⟩
  · rw [if_neg h1]
    unfold rdV
    dsimp only
    rw [hb, Int.natCast_add]
    clear hb
    go_enter Tryd.func38, Tryd.ntmps38
    go_wp2_with (go_at_call 52; refine (HR.out _).mono ?_; rintro e w' ⟨rfl, rfl⟩)
    exact bodyPost_ret (v := .tuple #[.agg #[.int .i64 6, .string T, .int .i64 0, .int .i64 0], .int .i64 (T.size + 1), .int .i64 0]) (by simp [results, Tryd.results38, go_sem]; omega) rfl ⟨rfl, (Bel.alloc (Bel.refl _) _)⟩
set_option maxHeartbeats 400000 in
theorem integer_any (s : ByteArray) (hs : s.size ≤ maxLen) (w : World) :
    Calls Tryd.prog 36 #[.string s] w fun e w' => e = rdV (if Num.parE (s.toList.take (spanN digB s.toList)) = 0 then ⟨3, [], Num.parV (s.toList.take (spanN digB s.toList)), spanN digB s.toList, 0⟩ else bad 0 (Num.parE (s.toList.take (spanN digB s.toList)))) ∧ Bel w w' := by
  unfold maxLen at hs
  have hN : Hid (0 + spanN digB (s.toList.drop 0) = spanN digB s.toList) := Lib.hid (by rw [List.drop_zero, Nat.zero_add])
  have hle := span_le digB s.toList
  rw [toL_len] at hle
  generalize spanN digB s.toList = N at hN hle ⊢
  have sl := fun w => cutH s N (N : Int) rfl hle w
  obtain ⟨T, hT⟩ : ∃ T : ByteArray, ⟨(s.toList.take N).toArray⟩ = T := ⟨_, rfl⟩
  have hTl : s.toList.take N = T.toList := by rw [← hT]; exact (tl _).symm
  have hTs : T.size ≤ maxLen := by rw [← toL_len, ← hTl, List.length_take, toL_len]; unfold maxLen; omega
  rw [hT] at sl
  rw [hTl]
  clear hTl hT
  have HP := Lib.hid (fun w => Num.parse_any T hTs w)
  unfold Num.pair at HP
  generalize Num.parV T.toList = V at *
  generalize Num.parE T.toList = E at *
  have hZ : Hid (rdV (if E = 0 then ⟨3, [], V, N, 0⟩ else bad 0 E) = if E = 0 then .returned (.tuple #[.agg #[.int .i64 3, .string ⟨#[]⟩, .int .i64 V, .int .i64 0], .int .i64 N, .int .i64 0]) else .returned (.tuple #[.agg #[.int .i64 0, .string ⟨#[]⟩, .int .i64 0, .int .i64 0], .int .i64 0, .int .i64 E])) := Lib.hid (by split <;> rfl)
  generalize rdV (if E = 0 then ⟨3, [], V, N, 0⟩ else bad 0 E) = Z at hZ ⊢
  go_enter Tryd.func36, Tryd.ntmps36
  go_wp2
  go_loop [5] (fun i => ∃ k : Nat, i = .int .i64 (k : Int) ∧ k ≤ s.size ∧ Hid (k + spanN digB (s.toList.drop k) = N)) (fun i => s.size - (intOf i).toNat)
  case atStart => exact ⟨0, rfl, Nat.zero_le _, hN⟩
  case round =>
    obtain ⟨k, rfl, hk, hr⟩ := hrel
    clear hN
    by_cases hq : k < s.size ∧ digB (s.toList.getD k 0) = true
    · obtain ⟨hq, hd⟩ := hq
      rw [List.getD_eq_getElem?_getD, List.getElem?_eq_getElem (by rw [toL_len]; exact hq), Option.getD_some, toL_get s k hq] at hd
      have hst := (span_step digB s k hq).symm.trans hr.out
      have hr2 : Hid (k + 1 + spanN digB (s.toList.drop (k + 1)) = N) := Lib.hid (by rw [← hst, if_pos hd])
      have H := Lib.hid (kind_dig hd)
      clear hd hst hr
      go_wp2_with (go_at_call 32; refine (kind_at _ _).mono ?_; rintro e w' ⟨rfl, rfl⟩; rw [H.out])
      go_round
      case rel => exact ⟨k + 1, by go_num, by omega, hr2⟩
      case measure => simp [intOf]; omega
    · have hr2 : k = N := by
        by_cases hq2 : k < s.size
        · have hd : ¬ digB s[k] = true := fun h => hq ⟨hq2, by rw [List.getD_eq_getElem?_getD, List.getElem?_eq_getElem (by rw [toL_len]; exact hq2), Option.getD_some, toL_get s k hq2]; exact h⟩
          have hst := (span_step digB s k hq2).symm.trans hr.out
          rw [if_neg hd] at hst
          exact hst
        · exact (span_stop digB s k hq2).symm.trans hr.out
      by_cases hq2 : k < s.size
      · have hd : ¬ digB s[k] = true := fun h => hq ⟨hq2, by rw [List.getD_eq_getElem?_getD, List.getElem?_eq_getElem (by rw [toL_len]; exact hq2), Option.getD_some, toL_get s k hq2]; exact h⟩
        obtain ⟨K, hK⟩ : ∃ K, kindI s[k] = K := ⟨_, rfl⟩
        have n3 : (K == 3) = false := by
          rw [Bool.not_eq_true] at hd
          rw [← hK]
          unfold kindI
          rw [hd]
          simp only [Bool.false_eq_true, if_false]
          repeat' split
          all_goals decide
        have H := Lib.hid hK
        subst hr2
        clear hr hd hK hq
        by_cases hE : E = 0
        · subst hE
          have hZ2 := hZ.out
          rw [if_pos rfl] at hZ2
          subst hZ2
          clear hZ
          go_wp2_with (first | (go_at_call 32; refine (kind_at _ _).mono ?_; rintro e w' ⟨rfl, rfl⟩; rw [H.out]) | (go_at_call 53; refine (HP.out _).mono ?_; rintro e w' ⟨rfl, rfl⟩))
          exact bodyPost_ret (v := .tuple #[.agg #[.int .i64 3, .string ⟨#[]⟩, .int .i64 V, .int .i64 0], .int .i64 k, .int .i64 0]) (by simp [results, Tryd.results36, go_sem]) rfl ⟨rfl, (Bel.alloc (Bel.refl _) _)⟩
        · have hZ2 := hZ.out
          rw [if_neg hE] at hZ2
          subst hZ2
          have hE2 : (E != 0) = true := by simpa using hE
          clear hZ hE
          go_wp2_with (first | (go_at_call 32; refine (kind_at _ _).mono ?_; rintro e w' ⟨rfl, rfl⟩; rw [H.out]) | (go_at_call 53; refine (HP.out _).mono ?_; rintro e w' ⟨rfl, rfl⟩))
          exact bodyPost_ret (v := .tuple #[.agg #[.int .i64 0, .string ⟨#[]⟩, .int .i64 0, .int .i64 0], .int .i64 0, .int .i64 E]) (by simp [results, Tryd.results36, go_sem]) rfl ⟨rfl, (Bel.alloc (Bel.refl _) _)⟩
      · subst hr2
        clear hr hq
        by_cases hE : E = 0
        · subst hE
          have hZ2 := hZ.out
          rw [if_pos rfl] at hZ2
          subst hZ2
          clear hZ
          go_wp2_with ((go_at_call 53; refine (HP.out _).mono ?_; rintro e w' ⟨rfl, rfl⟩))
          exact bodyPost_ret (v := .tuple #[.agg #[.int .i64 3, .string ⟨#[]⟩, .int .i64 V, .int .i64 0], .int .i64 k, .int .i64 0]) (by simp [results, Tryd.results36, go_sem]) rfl ⟨rfl, (Bel.alloc (Bel.refl _) _)⟩
        · have hZ2 := hZ.out
          rw [if_neg hE] at hZ2
          subst hZ2
          have hE2 : (E != 0) = true := by simpa using hE
          clear hZ hE
          go_wp2_with ((go_at_call 53; refine (HP.out _).mono ?_; rintro e w' ⟨rfl, rfl⟩))
          exact bodyPost_ret (v := .tuple #[.agg #[.int .i64 0, .string ⟨#[]⟩, .int .i64 0, .int .i64 0], .int .i64 0, .int .i64 E]) (by simp [results, Tryd.results36, go_sem]) rfl ⟨rfl, (Bel.alloc (Bel.refl _) _)⟩
end Lex
end Go.Proofs.YtghjflmanldjlaaDoor
