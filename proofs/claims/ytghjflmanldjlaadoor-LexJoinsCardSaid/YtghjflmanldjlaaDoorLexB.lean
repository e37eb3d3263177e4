/-
  Layer 7, plainly: a token's text is read as the token, and what is read is a token's text.
-/
import Derived.Test.YtghjflmanldjlaaDoorLexA
namespace Go.Proofs.YtghjflmanldjlaaDoor
namespace Lex

theorem quo_cons (c : UInt8) (s : Txt) : quo (c :: s) = (if c == 34 || c == 92 then [92, c] else [c]) ++ quo s := rfl
theorem print_not {c : UInt8} (h : printB c = true) : (c < 32 || 126 < c) = false := by
  unfold printB at h
  rw [Bool.and_eq_true, decide_eq_true_eq, decide_eq_true_eq, UInt8.le_iff_toNat_le, UInt8.le_iff_toNat_le] at h
  rw [Bool.or_eq_false_iff, decide_eq_false_iff_not, decide_eq_false_iff_not, UInt8.lt_iff_toNat_lt, UInt8.lt_iff_toNat_lt]
  have e1 : (32 : UInt8).toNat = 32 := rfl
  have e2 : (126 : UInt8).toNat = 126 := rfl
  omega
theorem not_print {c : UInt8} (h : ¬ (c < 32 || 126 < c) = true) : printB c = true := by
  unfold printB
  rw [Bool.not_eq_true, Bool.or_eq_false_iff, decide_eq_false_iff_not, decide_eq_false_iff_not, UInt8.lt_iff_toNat_lt, UInt8.lt_iff_toNat_lt] at h
  rw [Bool.and_eq_true, decide_eq_true_eq, decide_eq_true_eq, UInt8.le_iff_toNat_le, UInt8.le_iff_toNat_le]
  have e1 : (32 : UInt8).toNat = 32 := rfl
  have e2 : (126 : UInt8).toNat = 126 := rfl
  omega
theorem strT_read : ∀ (s : Txt) (m p : Nat) (r : Txt), s.all printB = true → m + s.length ≤ 200 → strT m p (quo s ++ 34 :: r) = ⟨4, s, 0, p + (quo s).length + 1, 0⟩
  | [], m, p, r, _, _ => by show strT m p (34 :: r) = _; rw [strT_cons, if_pos (by decide)]; rfl
  | c :: s, m, p, r, h1, h2 => by
    rw [List.all_cons, Bool.and_eq_true] at h1
    simp only [List.length_cons] at h2
    have hm : ¬ m = 200 := by omega
    rw [quo_cons]
    by_cases hc : (c == 34 || c == 92) = true
    · have ih := strT_read s (m + 1) (p + 2) r h1.2 (by omega)
      rw [if_pos hc]
      show strT m p (92 :: c :: (quo s ++ 34 :: r)) = _
      rw [strT_cons, if_neg (by decide), if_neg (by decide), if_pos (by decide)]
      simp only
      rw [if_pos hc, if_neg hm, ih]
      simp [addC]
      omega
    · have ih := strT_read s (m + 1) (p + 1) r h1.2 (by omega)
      rw [if_neg hc]
      rw [Bool.not_eq_true, Bool.or_eq_false_iff] at hc
      show strT m p (c :: (quo s ++ 34 :: r)) = _
      rw [strT_cons, hc.1, print_not h1.1, hc.2]
      simp only [Bool.false_eq_true, if_false]
      rw [if_neg hm, ih]
      simp [addC]
      omega
theorem addC_e {t : Txt} {R : Rd} (h : (addC t R).e = 0) : R.e = 0 ∧ addC t R = ⟨R.k, t ++ R.s, R.i, R.n, 0⟩ := by
  unfold addC at h ⊢
  by_cases g : R.e = 0
  · exact ⟨g, if_pos g⟩
  · rw [if_neg g] at h
    exact absurd h g
/-- What is read of a string. -/
def StrOk (m p : Nat) (l : Txt) (R : Rd) : Prop := R.k = 4 ∧ R.i = 0 ∧ R.s.all printB = true ∧ m + R.s.length ≤ 200 ∧ ∃ r, l = quo R.s ++ 34 :: r ∧ R.n = p + (quo R.s).length + 1
theorem strT_back : ∀ (l : Txt) (m p : Nat), m ≤ 200 → (strT m p l).e = 0 → StrOk m p l (strT m p l)
  | [], m, p, _, h => by rw [strT.eq_def] at h; cases h
  | c :: r, m, p, hm, h => by
    rw [strT_cons] at h ⊢
    by_cases h1 : (c == 34) = true
    · rw [if_pos h1]
      have : c = 34 := by simpa using h1
      subst this
      exact ⟨rfl, rfl, rfl, hm, r, rfl, rfl⟩
    rw [if_neg h1] at h ⊢
    by_cases h2 : (c < 32 || 126 < c) = true
    · rw [if_pos h2] at h; cases h
    rw [if_neg h2] at h ⊢
    by_cases h3 : (c == 92) = true
    · rw [if_pos h3] at h ⊢
      have : c = 92 := by simpa using h3
      subst this
      cases r with
      | nil => cases h
      | cons d q =>
        simp only at h ⊢
        by_cases h4 : (d == 34 || d == 92) = true
        · rw [if_pos h4] at h ⊢
          by_cases h5 : m = 200
          · rw [if_pos h5] at h; cases h
          rw [if_neg h5] at h ⊢
          obtain ⟨he, ha⟩ := addC_e h
          obtain ⟨a1, a2, a3, a4, r', a5, a6⟩ := strT_back q (m + 1) (p + 2) (by omega) he
          rw [ha]
          generalize strT (m + 1) (p + 2) q = R at *
          have hd : printB d = true := by
            have : d = 34 ∨ d = 92 := by simpa using h4
            rcases this with rfl | rfl <;> decide
          refine ⟨a1, a2, by show ([d] ++ R.s).all printB = true; simp only [List.singleton_append, List.all_cons, hd, a3]; rfl, by show m + ([d] ++ R.s).length ≤ 200; simp; omega, r', ?_, ?_⟩
          · show _ = quo (d :: R.s) ++ _
            rw [quo_cons, if_pos h4, a5]; rfl
          · show R.n = p + (quo (d :: R.s)).length + 1
            rw [quo_cons, if_pos h4, a6]; simp; omega
        · rw [if_neg h4] at h; cases h
    · rw [if_neg h3] at h ⊢
      by_cases h5 : m = 200
      · rw [if_pos h5] at h; cases h
      rw [if_neg h5] at h ⊢
      obtain ⟨he, ha⟩ := addC_e h
      obtain ⟨a1, a2, a3, a4, r', a5, a6⟩ := strT_back r (m + 1) (p + 1) (by omega) he
      rw [ha]
      generalize strT (m + 1) (p + 1) r = R at *
      have hd := not_print h2
      have h4 : ¬ (c == 34 || c == 92) = true := by
        rw [Bool.or_eq_true]
        rintro (g | g)
        · exact h1 g
        · exact h3 g
      refine ⟨a1, a2, by show ([c] ++ R.s).all printB = true; simp only [List.singleton_append, List.all_cons, hd, a3]; rfl, by show m + ([c] ++ R.s).length ≤ 200; simp; omega, r', ?_, ?_⟩
      · show _ = quo (c :: R.s) ++ _
        rw [quo_cons, if_neg h4, a5]; rfl
      · show R.n = p + (quo (c :: R.s)).length + 1
        rw [quo_cons, if_neg h4, a6]; simp; omega
theorem dig_is (c : UInt8) : digB c = Num.isDig c := by
  unfold digB Num.isDig
  rw [Bool.eq_iff_iff]
  simp [UInt8.le_iff_toNat_le]
theorem fmt_dig (i : Int) (h : 0 ≤ i) (h2 : i ≤ 1000000000000) : (Num.fmtL i).all digB = true ∧ Num.fmtL i ≠ [] ∧ Num.parE (Num.fmtL i) = 0 ∧ Num.parV (Num.fmtL i) = i := by
  obtain ⟨N, rfl⟩ := Int.eq_ofNat_of_zero_le h
  have hf : Num.fmtL (N : Int) = Num.digs (Num.ndF 18 N) N := by rw [Num.fmtL, if_neg (by omega), Num.abz_pos (by omega)]; rfl
  have hp := Num.parse_fmt (N : Int) (by omega) (by omega)
  have hv : Num.vld (N : Int) = true := Num.vld_of (by omega) (by omega)
  rw [hv, if_pos rfl, if_pos rfl] at hp
  have hd := Num.decB_digs N (by omega)
  rw [Num.decB, Bool.and_eq_true] at hd
  refine ⟨?_, ?_, hp.2, hp.1⟩
  · rw [hf, show digB = Num.isDig from funext dig_is]
    exact hd.1
  · rw [hf]
    intro e
    rw [e] at hd
    exact absurd hd.2 (by decide)
theorem words_whole : ∀ s ∈ words, wholeB s = true := by decide
theorem word_whole {s : Txt} (h : wordB s = true) : wholeB s = true := words_whole s (by unfold wordB at h; simpa using h)
theorem whole_parts {s : Txt} (h : wholeB s = true) : (1 ≤ s.length ∧ s.length ≤ 24) ∧ runN s = s.length := by
  unfold wholeB at h
  simpa [and_assoc] using h
theorem whole_head {s : Txt} (h : wholeB s = true) : ∃ c q, s = c :: q ∧ headB c = true := by
  obtain ⟨⟨h1, _⟩, h3⟩ := whole_parts h
  cases s with
  | nil => simp at h1
  | cons c q =>
    refine ⟨c, q, rfl, ?_⟩
    rw [run_cons] at h3
    by_cases g : headB c = true
    · exact g
    · rw [if_neg g] at h3; simp at h3
theorem signs_not : ∀ c ∈ signs, headB c = false ∧ digB c = false ∧ (c == 34) = false ∧ (c == 64) = false := by decide
theorem twos_not : ∀ s ∈ twos, ∃ c d, s = [c, d] ∧ headB c = false ∧ digB c = false ∧ (c == 34) = false ∧ (c == 64) = false := by
  intro s hs
  simp only [twos, List.mem_cons, List.not_mem_nil, or_false] at hs
  rcases hs with rfl | rfl | rfl | rfl <;> exact ⟨_, _, rfl, by decide⟩
theorem sym_parts {s : Txt} (h : symB s = true) : (∃ c, s = [c] ∧ headB c = false ∧ digB c = false ∧ (c == 34) = false ∧ (c == 64) = false) ∨ (∃ c d, s = [c, d] ∧ headB c = false ∧ digB c = false ∧ (c == 34) = false ∧ (c == 64) = false) := by
  cases s with
  | nil => cases h
  | cons c q =>
    cases q with
    | nil => exact Or.inl ⟨c, rfl, signs_not c (by simpa [symB] using h)⟩
    | cons d q2 =>
      cases q2 with
      | nil =>
        obtain ⟨c', d', e, h⟩ := twos_not [c, d] (by simpa [symB] using h)
        injection e with e1 e2
        injection e2 with e2
        subst e1 e2
        exact Or.inr ⟨c, d, rfl, h⟩
      | cons x q3 => cases h
theorem head_not_dig {c : UInt8} (h : digB c = true) : headB c = false := by
  unfold digB at h
  unfold headB
  rw [Bool.and_eq_true, decide_eq_true_eq, decide_eq_true_eq, UInt8.le_iff_toNat_le, UInt8.le_iff_toNat_le] at h
  have e1 : (57 : UInt8).toNat = 57 := rfl
  have e2 : (97 : UInt8).toNat = 97 := rfl
  rw [Bool.or_eq_false_iff, Bool.and_eq_false_iff]
  refine ⟨Or.inl (decide_eq_false ?_), beq_eq_false_iff_ne.2 ?_⟩
  · rw [UInt8.le_iff_toNat_le]; omega
  · rintro rfl
    have : (95 : UInt8).toNat = 95 := rfl
    omega
/-- A token's text is read as the token. -/
theorem read_wrt (t : Tk) (r : Txt) (h : okT t = true) (hr : ∀ c, r.head? = some c → fitB t c = true) : rdT (wrt t ++ r) = ⟨t.k, t.s, t.i, (wrt t).length, 0⟩ := by
  obtain ⟨k, s, i, a⟩ := t
  unfold okT at h
  unfold fitB at hr
  unfold wrt
  dsimp only at h hr ⊢
  by_cases h1 : k = 1
  · subst h1
    rw [if_pos rfl, Bool.and_eq_true, Bool.and_eq_true, beq_iff_eq] at h
    obtain ⟨rfl, hw, hn⟩ := h
    rw [if_pos (Or.inl rfl)]
    obtain ⟨c, q, rfl, hc⟩ := whole_head hw
    obtain ⟨⟨_, w2⟩, w3⟩ := whole_parts hw
    have hr2 := run_app (c :: q) r w3 (by simp) (fun d hd => by have := hr d hd; simpa using this)
    rw [List.cons_append] at hr2
    rw [List.cons_append, rdT, if_pos hc, hr2, if_neg (by omega), ← List.cons_append, List.take_left]
    rw [Bool.not_eq_true'] at hn
    rw [hn]
    rfl
  by_cases h2 : k = 2
  · subst h2
    rw [if_neg (by decide), if_pos rfl, Bool.and_eq_true, beq_iff_eq] at h
    obtain ⟨rfl, hn⟩ := h
    have hw := word_whole hn
    rw [if_pos (Or.inr (Or.inl rfl))]
    obtain ⟨c, q, rfl, hc⟩ := whole_head hw
    obtain ⟨⟨_, w2⟩, w3⟩ := whole_parts hw
    have hr2 := run_app (c :: q) r w3 (by simp) (fun d hd => by have := hr d hd; simpa using this)
    rw [List.cons_append] at hr2
    rw [List.cons_append, rdT, if_pos hc, hr2, if_neg (by omega), ← List.cons_append, List.take_left, hn]
    rfl
  by_cases h5 : k = 5
  · subst h5
    rw [if_neg (by decide), if_neg (by decide), if_pos rfl, Bool.and_eq_true, beq_iff_eq] at h
    obtain ⟨rfl, hn⟩ := h
    rw [if_pos (Or.inr (Or.inr rfl))]
    simp only [show ¬ ((5 : Int) = 1 ∨ (5 : Int) = 2 ∨ (5 : Int) = 6) by decide, if_false, show ¬ (5 : Int) = 3 by decide, if_true] at hr
    rcases sym_parts hn with ⟨c, rfl, g1, g2, g3, g4⟩ | ⟨c, d, rfl, g1, g2, g3, g4⟩
    · have hN : symN ([c] ++ r) = 1 := by
        cases r with
        | nil => show (if symB [c] then 1 else 0) = 1; rw [if_pos hn]
        | cons d q =>
          have := hr d rfl
          show (if symB [c, d] then 2 else if symB [c] then 1 else 0) = 1
          rw [Bool.not_eq_true'] at this
          rw [show symB [c, d] = false from this, if_pos hn]; rfl
      rw [List.singleton_append] at hN ⊢
      rw [rdT, g1, g2, g3, g4, hN]
      rfl
    · have hN : symN (c :: d :: r) = 2 := by
        show (if symB [c, d] then 2 else if symB [c] then 1 else 0) = 2
        rw [if_pos hn]
      show rdT (c :: d :: r) = _
      rw [rdT, g1, g2, g3, g4, hN]
      rfl
  by_cases h6 : k = 6
  · subst h6
    rw [if_neg (by decide), if_neg (by decide), if_neg (by decide), if_pos rfl, Bool.and_eq_true, beq_iff_eq] at h
    obtain ⟨rfl, hw⟩ := h
    rw [if_neg (by decide), if_neg (by decide), if_neg (by decide), if_pos rfl]
    obtain ⟨⟨w1, w2⟩, w3⟩ := whole_parts hw
    have hr2 := run_app s r w3 (by rintro rfl; simp at w1) (fun d hd => by have := hr d hd; simpa using this)
    rw [List.cons_append, rdT, show headB 64 = false by decide, show digB 64 = false by decide, show ((64 : UInt8) == 34) = false by decide, show ((64 : UInt8) == 64) = true by decide, hr2, List.take_left]
    simp only [Bool.false_eq_true, if_false, if_true]
    rw [if_neg (by omega), if_neg (by omega)]
    rfl
  by_cases h3 : k = 3
  · subst h3
    rw [if_neg (by decide), if_neg (by decide), if_neg (by decide), if_neg (by decide), if_pos rfl, Bool.and_eq_true, Bool.and_eq_true, decide_eq_true_eq, decide_eq_true_eq, List.isEmpty_iff] at h
    obtain ⟨rfl, hi, hi2⟩ := h
    rw [if_neg (by decide), if_pos rfl]
    obtain ⟨f1, f2, f3, f4⟩ := fmt_dig i hi hi2
    have hs := span_app digB (Num.fmtL i) r f1 (fun d hd => by have := hr d hd; simpa using this)
    have ht : (Num.fmtL i ++ r).take (spanN digB (Num.fmtL i ++ r)) = Num.fmtL i := by rw [hs, List.take_left]
    generalize Num.fmtL i = F at *
    cases F with
    | nil => exact absurd rfl f2
    | cons c q =>
      have hc : digB c = true := by rw [List.all_cons, Bool.and_eq_true] at f1; exact f1.1
      rw [List.cons_append] at hs ht ⊢
      rw [rdT, head_not_dig hc, hc, ht, hs, f3, f4]
      rfl
  by_cases h4 : k = 4
  · subst h4
    rw [if_neg (by decide), if_neg (by decide), if_neg (by decide), if_neg (by decide), if_neg (by decide), if_pos rfl, Bool.and_eq_true, Bool.and_eq_true, beq_iff_eq, decide_eq_true_eq] at h
    obtain ⟨rfl, hp, hl⟩ := h
    rw [if_neg (by decide), if_neg (by decide), if_pos rfl]
    have := strT_read s 0 1 r hp (by omega)
    show rdT (34 :: ((quo s ++ [34]) ++ r)) = _
    rw [List.append_assoc, List.singleton_append, rdT, show headB 34 = false by decide, show digB 34 = false by decide, show ((34 : UInt8) == 34) = true by decide]
    simp only [Bool.false_eq_true, if_false, if_true]
    rw [this]
    simp
    omega
  · simp only [h1, h2, h5, h6, h3, h4, if_false, Bool.false_eq_true] at h
end Lex
end Go.Proofs.YtghjflmanldjlaaDoor
