/-
  Layer 7: the token at the beginning, in the code; the token at a place, in the reference.
-/
import Derived.Test.YtghjflmanldjlaaDoorLexO
namespace Go.Proofs.YtghjflmanldjlaaDoor
open Go.RowKit Go.ChangeShapes Go.WideShapes
namespace Lex

theorem rd_head {c : UInt8} {r : Txt} (h : headB c = true) : rdT (c :: r) = if 24 < runN (c :: r) then bad 0 3 else ⟨if wordB ((c :: r).take (runN (c :: r))) then 2 else 1, (c :: r).take (runN (c :: r)), 0, runN (c :: r), 0⟩ := by rw [rdT, if_pos h]
theorem rd_dig {c : UInt8} {r : Txt} (h : digB c = true) : rdT (c :: r) = if Num.parE ((c :: r).take (spanN digB (c :: r))) = 0 then ⟨3, [], Num.parV ((c :: r).take (spanN digB (c :: r))), spanN digB (c :: r), 0⟩ else bad 0 (Num.parE ((c :: r).take (spanN digB (c :: r)))) := by
  rw [rdT, head_not_dig h, if_neg (by decide), if_pos h]
theorem rd_quo (r : Txt) : rdT (34 :: r) = strT 0 1 r := by rw [rdT, if_neg (by decide), if_neg (by decide), if_pos (by decide)]
theorem rd_at (r : Txt) : rdT (64 :: r) = if runN r = 0 then bad 0 1 else if 24 < runN r then bad 0 3 else ⟨6, r.take (runN r), 0, runN r + 1, 0⟩ := by rw [rdT, if_neg (by decide), if_neg (by decide), if_neg (by decide), if_pos (by decide)]
theorem rd_sym {c : UInt8} {r : Txt} (h1 : headB c = false) (h2 : digB c = false) (h3 : c ≠ 34) (h4 : c ≠ 64) : rdT (c :: r) = if symN (c :: r) = 0 then bad 0 1 else ⟨5, (c :: r).take (symN (c :: r)), 0, symN (c :: r), 0⟩ := by
  rw [rdT, h1, if_neg (by decide), h2, if_neg (by decide), if_neg (by simpa using h3), if_neg (by simpa using h4)]
theorem kind_quo : kindI 34 = 4 := by decide
theorem kind_host : kindI 64 = 5 := by decide
theorem kind_else {c : UInt8} (h1 : headB c = false) (h2 : digB c = false) (h3 : c ≠ 34) (h4 : c ≠ 64) : (kindI c == 2) = false ∧ (kindI c == 3) = false ∧ (kindI c == 4) = false ∧ (kindI c == 5) = false := by
  unfold kindI
  rw [h1, h2, show (c == 34) = false by simpa using h3, show (c == 64) = false by simpa using h4]
  cases blankB c <;> decide
set_option maxHeartbeats 1000000 in
theorem first_any (s : ByteArray) (hs : s.size ≤ 1000000) (h0 : 0 < s.size) (w : World) :
    Calls Tryd.prog 23 #[.string s] w fun e w' => e = rdV (rdT s.toList) ∧ Bel w w' := by
  have hm : s.size ≤ maxLen := by unfold maxLen; omega
  have hd : s.toList = s[0] :: s.toList.drop 1 := by have := drop_get s 0 h0; rwa [List.drop_zero] at this
  obtain ⟨R, hR⟩ : ∃ R, rdT s.toList = R := ⟨_, rfl⟩
  have hR0 := hR
  rw [hR]
  by_cases c1 : headB s[0] = true
  · have H := Lib.hid (kind_head c1)
    rw [hd, rd_head c1, ← hd] at hR
    have HC := Lib.hid (fun w => word_any s hm w)
    rw [hR] at HC
    clear hR hR0 hd c1 
    go_enter Tryd.func23, Tryd.ntmps23
    go_wp2_with (go_at_call 32; refine (kind_at _ _).mono ?_; rintro e w' ⟨rfl, rfl⟩; rw [H.out])
    refine (HC.out _).mono ?_
    unfold rdV
    rintro e w1 ⟨rfl, g⟩
    have B := Lib.hid (bel_first g)
    obtain ⟨t1, t2, t3, t4, f1, f2, f3, f4⟩ := (TkC.new w 0 0 0 ⟨#[]⟩ 31).on g
    clear g HC
    go_wp2
    exact bodyPost_ret (v := .tuple #[.agg #[.int .i64 R.k, .string ⟨R.s.toArray⟩, .int .i64 R.i, .int .i64 0], .int .i64 R.n, .int .i64 R.e]) (by simp [results, Tryd.results23, go_sem, t1, t2, t3, t4]) rfl ⟨rfl, ((((B.out.setCell (Nat.le_refl _) _).setCell (Nat.le_refl _) _).setCell (Nat.le_refl _) _).setCell (Nat.le_refl _) _)⟩
  rw [Bool.not_eq_true] at c1
  by_cases c2 : digB s[0] = true
  · have H := Lib.hid (kind_dig c2)
    rw [hd, rd_dig c2, ← hd] at hR
    have HC := Lib.hid (fun w => integer_any s hm w)
    rw [hR] at HC
    clear hR hR0 hd c1 c2
    go_enter Tryd.func23, Tryd.ntmps23
    go_wp2_with (go_at_call 32; refine (kind_at _ _).mono ?_; rintro e w' ⟨rfl, rfl⟩; rw [H.out])
    refine (HC.out _).mono ?_
    unfold rdV
    rintro e w1 ⟨rfl, g⟩
    have B := Lib.hid (bel_first g)
    obtain ⟨t1, t2, t3, t4, f1, f2, f3, f4⟩ := (TkC.new w 0 0 0 ⟨#[]⟩ 31).on g
    clear g HC
    go_wp2
    exact bodyPost_ret (v := .tuple #[.agg #[.int .i64 R.k, .string ⟨R.s.toArray⟩, .int .i64 R.i, .int .i64 0], .int .i64 R.n, .int .i64 R.e]) (by simp [results, Tryd.results23, go_sem, t1, t2, t3, t4]) rfl ⟨rfl, ((((B.out.setCell (Nat.le_refl _) _).setCell (Nat.le_refl _) _).setCell (Nat.le_refl _) _).setCell (Nat.le_refl _) _)⟩
  rw [Bool.not_eq_true] at c2
  by_cases c3 : s[0] = 34
  · have H : Hid (kindI s[0] = 4) := Lib.hid (by rw [c3]; exact kind_quo)
    rw [hd, c3, rd_quo] at hR
    have HC := Lib.hid (fun w => quoted_any s hs h0 w)
    rw [hR] at HC
    clear hR hR0 hd c1 c2 c3
    go_enter Tryd.func23, Tryd.ntmps23
    go_wp2_with (go_at_call 32; refine (kind_at _ _).mono ?_; rintro e w' ⟨rfl, rfl⟩; rw [H.out])
    refine (HC.out _).mono ?_
    unfold rdV
    rintro e w1 ⟨rfl, g⟩
    have B := Lib.hid (bel_first g)
    obtain ⟨t1, t2, t3, t4, f1, f2, f3, f4⟩ := (TkC.new w 0 0 0 ⟨#[]⟩ 31).on g
    clear g HC
    go_wp2
    exact bodyPost_ret (v := .tuple #[.agg #[.int .i64 R.k, .string ⟨R.s.toArray⟩, .int .i64 R.i, .int .i64 0], .int .i64 R.n, .int .i64 R.e]) (by simp [results, Tryd.results23, go_sem, t1, t2, t3, t4]) rfl ⟨rfl, ((((B.out.setCell (Nat.le_refl _) _).setCell (Nat.le_refl _) _).setCell (Nat.le_refl _) _).setCell (Nat.le_refl _) _)⟩
  by_cases c4 : s[0] = 64
  · have H : Hid (kindI s[0] = 5) := Lib.hid (by rw [c4]; exact kind_host)
    have hd2 := hd
    rw [c4] at hd2
    rw [hd2, rd_at] at hR
    have HC := Lib.hid (fun w => host_any s hm _ hd2 w)
    rw [hR] at HC
    clear hR hR0 hd c1 c2 c3 c4 hd2
    go_enter Tryd.func23, Tryd.ntmps23
    go_wp2_with (go_at_call 32; refine (kind_at _ _).mono ?_; rintro e w' ⟨rfl, rfl⟩; rw [H.out])
    refine (HC.out _).mono ?_
    unfold rdV
    rintro e w1 ⟨rfl, g⟩
    have B := Lib.hid (bel_first g)
    obtain ⟨t1, t2, t3, t4, f1, f2, f3, f4⟩ := (TkC.new w 0 0 0 ⟨#[]⟩ 31).on g
    clear g HC
    go_wp2
    exact bodyPost_ret (v := .tuple #[.agg #[.int .i64 R.k, .string ⟨R.s.toArray⟩, .int .i64 R.i, .int .i64 0], .int .i64 R.n, .int .i64 R.e]) (by simp [results, Tryd.results23, go_sem, t1, t2, t3, t4]) rfl ⟨rfl, ((((B.out.setCell (Nat.le_refl _) _).setCell (Nat.le_refl _) _).setCell (Nat.le_refl _) _).setCell (Nat.le_refl _) _)⟩
  obtain ⟨k2, k3, k4, k5⟩ := kind_else c1 c2 c3 c4
  obtain ⟨K, hK⟩ : ∃ K, kindI s[0] = K := ⟨_, rfl⟩
  have H := Lib.hid hK
  rw [hK] at k2 k3 k4 k5
  rw [hd, rd_sym c1 c2 c3 c4, ← hd] at hR
  have HC := Lib.hid (fun w => sym_any s hm h0 w)
  rw [hR] at HC
  clear hR hR0 hd c1 c2 c3 c4 hK
  go_enter Tryd.func23, Tryd.ntmps23
  go_wp2_with (go_at_call 32; refine (kind_at _ _).mono ?_; rintro e w' ⟨rfl, rfl⟩; rw [H.out])
  refine (HC.out _).mono ?_
  unfold rdV
  rintro e w1 ⟨rfl, g⟩
  have B := Lib.hid (bel_first g)
  obtain ⟨t1, t2, t3, t4, f1, f2, f3, f4⟩ := (TkC.new w 0 0 0 ⟨#[]⟩ 31).on g
  clear g HC
  go_wp2
  exact bodyPost_ret (v := .tuple #[.agg #[.int .i64 R.k, .string ⟨R.s.toArray⟩, .int .i64 R.i, .int .i64 0], .int .i64 R.n, .int .i64 R.e]) (by simp [results, Tryd.results23, go_sem, t1, t2, t3, t4]) rfl ⟨rfl, ((((B.out.setCell (Nat.le_refl _) _).setCell (Nat.le_refl _) _).setCell (Nat.le_refl _) _).setCell (Nat.le_refl _) _)⟩
end Lex
end Go.Proofs.YtghjflmanldjlaaDoor
