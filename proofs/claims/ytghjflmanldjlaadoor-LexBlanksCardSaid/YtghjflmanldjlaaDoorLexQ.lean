/-
  Layer 7, the reference: the token at a place.
-/
import Derived.Test.YtghjflmanldjlaaDoorLexP
namespace Go.Proofs.YtghjflmanldjlaaDoor
open Go.RowKit Go.ChangeShapes Go.WideShapes
namespace Lex

/-- What the reference's one answers. -/
def OneR (p : Nat) (R : Rd) (e : Ending) : Prop := ∃ (k i a en pl : Int) (s : ByteArray), e = .returned (.tuple #[.agg #[.int .i64 k, .string s, .int .i64 i, .int .i64 a], .int .i64 en, .int .i64 pl, .int .i64 R.e]) ∧ (R.e = 0 → k = R.k ∧ s = ⟨R.s.toArray⟩ ∧ i = R.i ∧ a = (p : Int) ∧ en = ((p + R.n : Nat) : Int)) ∧ (R.e ≠ 0 → pl = ((p + R.n : Nat) : Int))
theorem OneR.bad (p n : Nat) (E a en pl : Int) (hE : E ≠ 0) (hp : pl = ((p + n : Nat) : Int)) (k i : Int) (s : ByteArray) : OneR p (Lex.bad n E) (.returned (.tuple #[.agg #[.int .i64 k, .string s, .int .i64 i, .int .i64 a], .int .i64 en, .int .i64 pl, .int .i64 E])) :=
  ⟨k, i, a, en, pl, s, rfl, fun h => absurd h hE, fun _ => hp⟩
theorem OneR.ok (p q : Nat) (k i : Int) (s : Txt) (n : Nat) (pl en : Int) (T : ByteArray) (hT : T = ⟨s.toArray⟩) (hq : en = (q : Int)) (hn : q = p + n) : OneR p ⟨k, s, i, n, 0⟩ (.returned (.tuple #[.agg #[.int .i64 k, .string T, .int .i64 i, .int .i64 p], .int .i64 en, .int .i64 pl, .int .i64 0])) :=
  ⟨k, i, p, en, pl, T, rfl, fun _ => ⟨rfl, hT, rfl, rfl, by rw [hq, hn]⟩, fun h => absurd rfl h⟩
set_option maxRecDepth 100000 in
set_option maxHeartbeats 4000000 in
theorem one_any (s : ByteArray) (hs : s.size ≤ 1000000) (p : Nat) (hp : p < s.size) (w : World) :
    Calls Tryd.prog 25 #[.string s, .int .i64 (p : Int)] w fun e w' => OneR p (rdT (s.toList.drop p)) e ∧ Bel w w' := by
  have hm : s.size ≤ maxLen := by unfold maxLen; omega
  have hd := drop_get s p hp
  have HD0 := dig_byte s[p]
  obtain ⟨R, hR⟩ : ∃ R, rdT (s.toList.drop p) = R := ⟨_, rfl⟩
  rw [hR]
  by_cases c2 : digB s[p] = true
  · have HD := Lib.hid (HD0.symm.trans c2)
    rw [hd, rd_dig c2, ← hd] at hR
    have HC := Lib.hid (fun w => rnumber_any s hs p hp c2 w)
    generalize Num.parV ((s.toList.drop p).take (spanN digB (s.toList.drop p))) = V at HC hR
    generalize Num.parE ((s.toList.drop p).take (spanN digB (s.toList.drop p))) = E at HC hR
    obtain ⟨q, hq⟩ : ∃ q, p + spanN digB (s.toList.drop p) = q := ⟨_, rfl⟩
    rw [hq] at HC
    have hF : Hid (∀ v en : Int, (E = 0 → v = V ∧ en = (q : Int)) → OneR p R (.returned (.tuple #[.agg #[.int .i64 3, .string ⟨#[]⟩, .int .i64 v, .int .i64 (p : Int)], .int .i64 en, .int .i64 (p : Int), .int .i64 E]))) := Lib.hid (by
      intro v en h
      rw [← hR]
      by_cases hE : E = 0
      · obtain ⟨rfl, rfl⟩ := h hE
        rw [if_pos hE, hE]
        exact OneR.ok p q _ _ _ _ _ _ _ rfl rfl hq.symm
      · rw [if_neg hE]
        exact OneR.bad p 0 E _ _ _ hE rfl _ _ _)
    clear hR hd c2 HD0 hq
    go_enter Tryd.func25, Tryd.ntmps25
    go_wp2_with (go_at_call 40; refine (digit_any _ _).mono ?_; rintro e w' ⟨rfl, rfl⟩; rw [HD.out])
    refine (HC.out _).mono ?_
    rintro e w' ⟨⟨v, en, rfl, h⟩, rfl⟩
    have H := Lib.hid (hF.out v en h)
    clear hF h HC
    go_wp2
    refine bodyPost_ret (v := .tuple #[.agg #[.int .i64 3, .string ⟨#[]⟩, .int .i64 v, .int .i64 (p : Int)], .int .i64 en, .int .i64 (p : Int), .int .i64 E]) (by simp [results, Tryd.results25, go_sem]) rfl ⟨?_, Bel.alloc (Bel.refl _) _⟩
    exact H.out
  rw [Bool.not_eq_true] at c2
  have HD := Lib.hid (HD0.symm.trans c2)
  by_cases c3 : s[p] = 34
  · rw [hd, c3, rd_quo] at hR
    have HC := Lib.hid (fun w => rtext_any s hs p hp w)
    rw [hR] at HC
    have hi := fun w => idx_str s .i64 (p : Int) p rfl hp w
    have hF : Hid (∀ (t : ByteArray) (en pl : Int), (R.e = 0 → t = ⟨R.s.toArray⟩ ∧ en = ((p + R.n : Nat) : Int)) → (R.e ≠ 0 → pl = ((p + R.n : Nat) : Int)) → OneR p R (.returned (.tuple #[.agg #[.int .i64 4, .string t, .int .i64 0, .int .i64 (p : Int)], .int .i64 en, .int .i64 pl, .int .i64 R.e]))) := Lib.hid (by
      intro t en pl h1 h2
      refine ⟨4, 0, p, en, pl, t, rfl, fun h => ?_, h2⟩
      have hk : StrOk 0 1 (s.toList.drop (p + 1)) R := by rw [← hR]; exact strT_back _ 0 1 (by omega) (by rw [hR]; exact h)
      exact ⟨hk.1.symm, (h1 h).1, hk.2.1.symm, rfl, (h1 h).2⟩)
    have e34 : ((s[p].toNat : Int) == 34) = true := by rw [c3]; rfl
    clear hR hd c2 HD0 c3 hi
    go_enter Tryd.func25, Tryd.ntmps25
    go_wp2_with (go_at_call 40; refine (digit_any _ _).mono ?_; rintro e w' ⟨rfl, rfl⟩; rw [HD.out])
    refine (HC.out _).mono ?_
    rintro e w' ⟨⟨t, en, pl, rfl, h1, h2⟩, rfl⟩
    have H := Lib.hid (hF.out t en pl h1 h2)
    clear hF h1 h2 HC
    go_wp2
    refine bodyPost_ret (v := .tuple #[.agg #[.int .i64 4, .string t, .int .i64 0, .int .i64 (p : Int)], .int .i64 en, .int .i64 pl, .int .i64 R.e]) (by simp [results, Tryd.results25, go_sem]) rfl ⟨?_, Bel.alloc (Bel.refl _) _⟩
    exact H.out
  have n34 : ((s[p].toNat : Int) == 34) = false := (neb 34 (by omega) c3).1
  by_cases c4 : s[p] = 64
  · rw [hd, c4, rd_at] at hR
    have e64 : ((s[p].toNat : Int) == 64) = true := by rw [c4]; rfl
    have hle := run_le (s.toList.drop (p + 1))
    rw [List.length_drop, toL_len] at hle
    have HR := Lib.hid (fun w => rrun_any s hm (p + 1) w)
    rw [Int.natCast_add, show ((1 : Nat) : Int) = 1 from rfl] at HR
    obtain ⟨N, hN⟩ : ∃ N, runN (s.toList.drop (p + 1)) = N := ⟨_, rfl⟩
    rw [hN] at hle HR hR
    obtain ⟨q, hq⟩ : ∃ q, p + 1 + N = q := ⟨_, rfl⟩
    rw [hq] at HR
    clear hd c2 HD0 c3 c4 hN
    by_cases h0 : N = 0
    · rw [if_pos h0] at hR
      subst hR
      have hqe : ((q : Int) == (p : Int) + 1) = true := by simp; omega
      clear hq h0
      go_enter Tryd.func25, Tryd.ntmps25
      go_wp2_with (first | (go_at_call 40; refine (digit_any _ _).mono ?_; rintro e w' ⟨rfl, rfl⟩; rw [HD.out]) | (go_at_call 27; refine (HR.out _).mono ?_; rintro e w' ⟨rfl, rfl⟩))
      refine bodyPost_ret (v := .tuple #[.agg #[.int .i64 0, .string ⟨#[]⟩, .int .i64 0, .int .i64 0], .int .i64 0, .int .i64 (p : Int), .int .i64 1]) (by simp [results, Tryd.results25, go_sem]) rfl ⟨?_, Bel.alloc (Bel.refl _) _⟩
      exact OneR.bad p 0 1 _ _ _ (by decide) rfl _ _ _
    rw [if_neg h0] at hR
    have hqe : ((q : Int) == (p : Int) + 1) = false := by simp; omega
    by_cases h24 : 24 < N
    · rw [if_pos h24] at hR
      subst hR
      have hlt : (p : Int) + 1 + 24 < (q : Int) := by omega
      clear hq
      go_enter Tryd.func25, Tryd.ntmps25
      go_wp2_with (first | (go_at_call 40; refine (digit_any _ _).mono ?_; rintro e w' ⟨rfl, rfl⟩; rw [HD.out]) | (go_at_call 27; refine (HR.out _).mono ?_; rintro e w' ⟨rfl, rfl⟩))
      refine bodyPost_ret (v := .tuple #[.agg #[.int .i64 0, .string ⟨#[]⟩, .int .i64 0, .int .i64 0], .int .i64 0, .int .i64 (p : Int), .int .i64 3]) (by simp [results, Tryd.results25, go_sem]) rfl ⟨?_, Bel.alloc (Bel.refl _) _⟩
      exact OneR.bad p 0 3 _ _ _ (by decide) rfl _ _ _
    · rw [if_neg h24] at hR
      subst hR
      have hlt : ¬ (p : Int) + 1 + 24 < (q : Int) := by omega
      have hqs : q ≤ s.size := by omega
      have sl := fun w => cutS s (p + 1) q ((p : Int) + 1) (q : Int) (by omega) rfl (by omega) hqs w
      rw [show q - (p + 1) = N by omega] at sl
      have H := Lib.hid (OneR.ok p q 6 0 ((s.toList.drop (p + 1)).take N) (N + 1) 0 q _ rfl rfl (by omega))
      generalize (⟨((s.toList.drop (p + 1)).take N).toArray⟩ : ByteArray) = T at sl H
      clear hq
      go_enter Tryd.func25, Tryd.ntmps25
      go_wp2_with (first | (go_at_call 40; refine (digit_any _ _).mono ?_; rintro e w' ⟨rfl, rfl⟩; rw [HD.out]) | (go_at_call 27; refine (HR.out _).mono ?_; rintro e w' ⟨rfl, rfl⟩))
      refine bodyPost_ret (v := .tuple #[.agg #[.int .i64 6, .string T, .int .i64 0, .int .i64 (p : Int)], .int .i64 (q : Int), .int .i64 0, .int .i64 0]) (by simp [results, Tryd.results25, go_sem]) rfl ⟨?_, Bel.alloc (Bel.refl _) _⟩
      exact H.out
  have n64 : ((s[p].toNat : Int) == 64) = false := (neb 64 (by omega) c4).1
  have hle := run_le (s.toList.drop p)
  rw [List.length_drop, toL_len] at hle
  have HR := Lib.hid (fun w => rrun_any s hm p w)
  by_cases c1 : headB s[p] = true
  · rw [hd, rd_head c1, ← hd] at hR
    have h0 : 0 < runN (s.toList.drop p) := by rw [hd, run_cons, if_pos c1]; omega
    obtain ⟨N, hN⟩ : ∃ N, runN (s.toList.drop p) = N := ⟨_, rfl⟩
    rw [hN] at hle HR hR h0
    obtain ⟨q, hq⟩ : ∃ q, p + N = q := ⟨_, rfl⟩
    rw [hq] at HR
    clear hd c2 HD0 c3 c4 hN c1
    by_cases h24 : 24 < N
    · rw [if_pos h24] at hR
      subst hR
      have hlt : (p : Int) + 24 < (q : Int) := by omega
      clear hq
      go_enter Tryd.func25, Tryd.ntmps25
      go_wp2_with (first | (go_at_call 40; refine (digit_any _ _).mono ?_; rintro e w' ⟨rfl, rfl⟩; rw [HD.out]) | (go_at_call 27; refine (HR.out _).mono ?_; rintro e w' ⟨rfl, rfl⟩))
      refine bodyPost_ret (v := .tuple #[.agg #[.int .i64 0, .string ⟨#[]⟩, .int .i64 0, .int .i64 0], .int .i64 0, .int .i64 (p : Int), .int .i64 3]) (by simp [results, Tryd.results25, go_sem]) rfl ⟨?_, Bel.alloc (Bel.refl _) _⟩
      exact OneR.bad p 0 3 _ _ _ (by decide) rfl _ _ _
    · rw [if_neg h24] at hR
      have hlt : ¬ (p : Int) + 24 < (q : Int) := by omega
      have hqs : q ≤ s.size := by omega
      have hpq : (p : Int) < (q : Int) := by omega
      have hpq2 : decide (p < q) = true := by simp; omega
      have sl := fun w => cutS s p q (p : Int) (q : Int) rfl rfl (by omega) hqs w
      rw [show q - p = N by omega] at sl
      have H1 := Lib.hid (OneR.ok p q 1 0 ((s.toList.drop p).take N) N 0 q _ rfl rfl (by omega))
      have H2 := Lib.hid (OneR.ok p q 2 0 ((s.toList.drop p).take N) N 0 q _ rfl rfl (by omega))
      obtain ⟨T, hT⟩ : ∃ T : ByteArray, ⟨((s.toList.drop p).take N).toArray⟩ = T := ⟨_, rfl⟩
      have hTl : (s.toList.drop p).take N = T.toList := by rw [← hT]; exact (tl _).symm
      rw [hT] at sl H1 H2
      rw [hTl] at H1 H2 hR
      have HK := Lib.hid (fun w => rkeyword_any T w)
      clear hq hT hTl
      cases hb : wordB T.toList with
      | true =>
        rw [hb] at HK hR
        subst hR
        clear hb
        go_enter Tryd.func25, Tryd.ntmps25
        go_wp2_with (first | (go_at_call 40; refine (digit_any _ _).mono ?_; rintro e w' ⟨rfl, rfl⟩; rw [HD.out]) | (go_at_call 27; refine (HR.out _).mono ?_; rintro e w' ⟨rfl, rfl⟩) | (go_at_call 19; refine (HK.out _).mono ?_; rintro e w' ⟨rfl, rfl⟩))
        refine bodyPost_ret (v := .tuple #[.agg #[.int .i64 2, .string T, .int .i64 0, .int .i64 (p : Int)], .int .i64 (q : Int), .int .i64 0, .int .i64 0]) (by simp [results, Tryd.results25, go_sem]) rfl ⟨?_, Bel.alloc (Bel.refl _) _⟩
        exact H2.out
      | false =>
        rw [hb] at HK hR
        subst hR
        clear hb
        go_enter Tryd.func25, Tryd.ntmps25
        go_wp2_with (first | (go_at_call 40; refine (digit_any _ _).mono ?_; rintro e w' ⟨rfl, rfl⟩; rw [HD.out]) | (go_at_call 27; refine (HR.out _).mono ?_; rintro e w' ⟨rfl, rfl⟩) | (go_at_call 19; refine (HK.out _).mono ?_; rintro e w' ⟨rfl, rfl⟩))
        refine bodyPost_ret (v := .tuple #[.agg #[.int .i64 1, .string T, .int .i64 0, .int .i64 (p : Int)], .int .i64 (q : Int), .int .i64 0, .int .i64 0]) (by simp [results, Tryd.results25, go_sem]) rfl ⟨?_, Bel.alloc (Bel.refl _) _⟩
        exact H1.out
  · rw [Bool.not_eq_true] at c1
    have hr0 : runN (s.toList.drop p) = 0 := by rw [hd, run_cons, c1]; rfl
    rw [hr0, Nat.add_zero] at HR
    rw [hd, rd_sym c1 c2 c3 c4, ← hd] at hR
    have HS := Lib.hid (fun w => rsym_any s hs p hp w)
    have hsl : symN (s.toList.drop p) ≤ (s.toList.drop p).length := by
      rw [hd]
      by_cases g : symN (s[p] :: s.toList.drop (p + 1)) = 0
      · rw [g]; exact Nat.zero_le _
      · rcases sym_one g with ⟨d, z, e, _, e2⟩ | ⟨_, e2, _⟩
        · rw [e2, e]; simp
        · rw [e2]; simp
    rw [List.length_drop, toL_len] at hsl
    obtain ⟨N, hN⟩ : ∃ N, symN (s.toList.drop p) = N := ⟨_, rfl⟩
    rw [hN] at hsl HS hR
    obtain ⟨q, hq⟩ : ∃ q, p + N = q := ⟨_, rfl⟩
    rw [hq] at HS
    clear hd c2 HD0 c3 c4 hN c1 hr0
    by_cases h0 : N = 0
    · rw [if_pos h0] at hR
      subst hR
      obtain rfl : q = p := by omega
      clear hq
      go_enter Tryd.func25, Tryd.ntmps25
      go_wp2_with (first | (go_at_call 40; refine (digit_any _ _).mono ?_; rintro e w' ⟨rfl, rfl⟩; rw [HD.out]) | (go_at_call 27; refine (HR.out _).mono ?_; rintro e w' ⟨rfl, rfl⟩) | (go_at_call 43; refine (HS.out _).mono ?_; rintro e w' ⟨rfl, rfl⟩))
      refine bodyPost_ret (v := .tuple #[.agg #[.int .i64 0, .string ⟨#[]⟩, .int .i64 0, .int .i64 0], .int .i64 0, .int .i64 (q : Int), .int .i64 1]) (by simp [results, Tryd.results25, go_sem]) rfl ⟨?_, Bel.alloc (Bel.refl _) _⟩
      exact OneR.bad q 0 1 _ _ _ (by decide) rfl _ _ _
    · rw [if_neg h0] at hR
      subst hR
      have hqp : ((q : Int) == (p : Int)) = false := by simp; omega
      have hqs : q ≤ s.size := by omega
      have sl := fun w => cutS s p q (p : Int) (q : Int) rfl rfl (by omega) hqs w
      rw [show q - p = N by omega] at sl
      have H := Lib.hid (OneR.ok p q 5 0 ((s.toList.drop p).take N) N 0 q _ rfl rfl (by omega))
      generalize (⟨((s.toList.drop p).take N).toArray⟩ : ByteArray) = T at sl H
      clear hq
      go_enter Tryd.func25, Tryd.ntmps25
      go_wp2_with (first | (go_at_call 40; refine (digit_any _ _).mono ?_; rintro e w' ⟨rfl, rfl⟩; rw [HD.out]) | (go_at_call 27; refine (HR.out _).mono ?_; rintro e w' ⟨rfl, rfl⟩) | (go_at_call 43; refine (HS.out _).mono ?_; rintro e w' ⟨rfl, rfl⟩))
      refine bodyPost_ret (v := .tuple #[.agg #[.int .i64 5, .string T, .int .i64 0, .int .i64 (p : Int)], .int .i64 (q : Int), .int .i64 0, .int .i64 0]) (by simp [results, Tryd.results25, go_sem]) rfl ⟨?_, Bel.alloc (Bel.refl _) _⟩
      exact H.out
end Lex
end Go.Proofs.YtghjflmanldjlaaDoor
