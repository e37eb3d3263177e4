/-
  Layer 7, plainly: what is read is a token's text; the tokens of a text.
-/
import Derived.Test.YtghjflmanldjlaaDoorLexB
namespace Go.Proofs.YtghjflmanldjlaaDoor
namespace Lex
set_option linter.unusedVariables false

/-- What is read at the beginning of l is a token, with its text. -/
def RdOk (l : Txt) (R : Rd) : Prop := ∀ a, ∃ r, okT ⟨R.k, R.s, R.i, a⟩ = true ∧ l = wrt ⟨R.k, R.s, R.i, a⟩ ++ r ∧ R.n = (wrt ⟨R.k, R.s, R.i, a⟩).length ∧ 1 ≤ R.n ∧ ∀ c, r.head? = some c → fitB ⟨R.k, R.s, R.i, a⟩ c = true
theorem whole_take (l : Txt) (h0 : 0 < runN l) (h1 : runN l ≤ 24) : wholeB (l.take (runN l)) = true := by
  have hl := run_le l
  have e := (run_run l).1
  unfold wholeB
  rw [e, List.length_take, Nat.min_eq_left hl, decide_eq_true (show 1 ≤ runN l from h0), decide_eq_true h1]
  simp
theorem fmt_head {i : Int} (h : i < 0) : ∃ q, Num.fmtL i = 45 :: q := ⟨_, by rw [Num.fmtL, if_pos h]; rfl⟩
theorem vld_parts {i : Int} (h : Num.vld i = true) : -1000000000000 ≤ i ∧ i ≤ 1000000000000 := by
  unfold Num.vld at h
  simpa using h
theorem sym_one {c : UInt8} {r : Txt} (h : symN (c :: r) ≠ 0) : (∃ d q, r = d :: q ∧ symB [c, d] = true ∧ symN (c :: r) = 2) ∨ (symB [c] = true ∧ symN (c :: r) = 1 ∧ ∀ d, r.head? = some d → symB [c, d] = false) := by
  cases r with
  | nil =>
    change (if symB [c] then 1 else 0) ≠ 0 at h
    right
    by_cases g : symB [c] = true
    · exact ⟨g, by show (if symB [c] then 1 else 0) = 1; rw [if_pos g], fun d hd => by cases hd⟩
    · rw [if_neg g] at h; exact absurd rfl h
  | cons d q =>
    change (if symB [c, d] then 2 else if symB [c] then 1 else 0) ≠ 0 at h
    by_cases g2 : symB [c, d] = true
    · exact Or.inl ⟨d, q, rfl, g2, by show (if symB [c, d] then 2 else if symB [c] then 1 else 0) = 2; rw [if_pos g2]⟩
    · right
      rw [if_neg g2] at h
      by_cases g : symB [c] = true
      · exact ⟨g, by show (if symB [c, d] then 2 else if symB [c] then 1 else 0) = 1; rw [if_neg g2, if_pos g], fun x hx => by simp at hx; subst hx; simpa using g2⟩
      · rw [if_neg g] at h; exact absurd rfl h
theorem rd_back (l : Txt) (h : (rdT l).e = 0) : RdOk l (rdT l) := by
  cases l with
  | nil => cases h
  | cons c r =>
    rw [rdT] at h ⊢
    by_cases h1 : headB c = true
    · rw [if_pos h1] at h ⊢
      by_cases h2 : 24 < runN (c :: r)
      · rw [if_pos h2] at h; cases h
      rw [if_neg h2] at h ⊢
      have h0 : 0 < runN (c :: r) := by rw [run_cons, if_pos h1]; omega
      have hw := whole_take (c :: r) h0 (by omega)
      have hf := (run_run (c :: r)).2
      have hl := run_le (c :: r)
      have ht := List.take_append_drop (runN (c :: r)) (c :: r)
      have hn : ((c :: r).take (runN (c :: r))).length = runN (c :: r) := by rw [List.length_take, Nat.min_eq_left hl]
      generalize (c :: r).take (runN (c :: r)) = T at *
      generalize runN (c :: r) = n at *
      intro a
      refine ⟨(c :: r).drop n, ?_, ?_, ?_, h0, ?_⟩
      · unfold okT
        cases hb : wordB T with
        | true => simp
        | false => simp [hw]
      · have : wrt ⟨if wordB T then 2 else 1, T, 0, a⟩ = T := by unfold wrt; cases wordB T <;> rfl
        rw [this, ht]
      · have : wrt ⟨if wordB T then 2 else 1, T, 0, a⟩ = T := by unfold wrt; cases wordB T <;> rfl
        rw [this, hn]
      · intro d hd
        have := hf d h0 hd
        unfold fitB
        cases wordB T <;> simp [this]
    rw [if_neg h1] at h ⊢
    by_cases h2 : digB c = true
    · rw [if_pos h2] at h ⊢
      have hs := span_all digB (c :: r)
      have hl := span_le digB (c :: r)
      have h0 : 0 < spanN digB (c :: r) := by rw [spanN, if_pos h2]; omega
      have ht := List.take_append_drop (spanN digB (c :: r)) (c :: r)
      have hn : ((c :: r).take (spanN digB (c :: r))).length = spanN digB (c :: r) := by rw [List.length_take, Nat.min_eq_left hl]
      generalize (c :: r).take (spanN digB (c :: r)) = T at *
      generalize spanN digB (c :: r) = n at *
      by_cases h3 : Num.parE T = 0
      · rw [if_pos h3] at h ⊢
        obtain ⟨p1, p2⟩ := Num.fmt_parse T h3
        obtain ⟨v1, v2⟩ := vld_parts p1
        have hp : 0 ≤ Num.parV T := by
          rcases Int.lt_or_le (Num.parV T) 0 with g | g
          · obtain ⟨q, e⟩ := fmt_head g
            rw [p2] at e
            rw [e] at hs
            exact absurd hs.1 (by simp only [List.all_cons]; rw [show digB 45 = false by decide]; simp)
          · exact g
        intro a
        refine ⟨(c :: r).drop n, ?_, ?_, ?_, h0, ?_⟩
        · unfold okT
          simp [hp, v2]
        · show _ = Num.fmtL (Num.parV T) ++ _
          rw [p2, ht]
        · show _ = (Num.fmtL (Num.parV T)).length
          rw [p2, hn]
        · intro d hd
          have := hs.2 d hd
          unfold fitB
          simp [this]
      · rw [if_neg h3] at h; exact absurd h h3
    rw [if_neg h2] at h ⊢
    by_cases h3 : (c == 34) = true
    · rw [if_pos h3] at h ⊢
      have : c = 34 := by simpa using h3
      subst this
      obtain ⟨a1, a2, a3, a4, q, a5, a6⟩ := strT_back r 0 1 (by omega) h
      generalize strT 0 1 r = R at *
      obtain ⟨k, s, i, n, e⟩ := R
      dsimp only at a1 a2 a3 a4 a5 a6 h ⊢
      subst a1 a2 h
      intro a
      refine ⟨q, ?_, ?_, ?_, by dsimp only; omega, fun d hd => rfl⟩
      · unfold okT
        simp only [a3]
        simp
        omega
      · show 34 :: r = 34 :: (quo s ++ [34]) ++ q
        rw [a5]; simp
      · show n = (34 :: (quo s ++ [34])).length
        rw [a6]; simp; omega
    rw [if_neg h3] at h ⊢
    by_cases h4 : (c == 64) = true
    · rw [if_pos h4] at h ⊢
      have : c = 64 := by simpa using h4
      subst this
      by_cases h0 : runN r = 0
      · rw [if_pos h0] at h; cases h
      rw [if_neg h0] at h ⊢
      by_cases h24 : 24 < runN r
      · rw [if_pos h24] at h; cases h
      rw [if_neg h24] at h ⊢
      have hw := whole_take r (by omega) (by omega)
      have hf := (run_run r).2
      have hl := run_le r
      have ht := List.take_append_drop (runN r) r
      have hn : (r.take (runN r)).length = runN r := by rw [List.length_take, Nat.min_eq_left hl]
      generalize r.take (runN r) = T at *
      generalize runN r = n at *
      intro a
      refine ⟨r.drop n, ?_, ?_, ?_, by dsimp only; omega, ?_⟩
      · unfold okT
        simp [hw]
      · show _ = 64 :: T ++ _
        rw [List.cons_append, ht]
      · show _ = (64 :: T).length
        rw [List.length_cons, hn]
      · intro d hd
        have := hf d (by omega) hd
        unfold fitB
        simp [this]
    rw [if_neg h4] at h ⊢
    by_cases h5 : symN (c :: r) = 0
    · rw [if_pos h5] at h; cases h
    rw [if_neg h5] at h ⊢
    intro a
    rcases sym_one h5 with ⟨d, q, rfl, g1, g2⟩ | ⟨g1, g2, g3⟩
    · rw [g2]
      refine ⟨q, ?_, rfl, rfl, by dsimp only; omega, fun x hx => ?_⟩
      · unfold okT
        simp [g1]
      · unfold fitB
        rfl
    · rw [g2]
      refine ⟨r, ?_, rfl, rfl, by dsimp only; omega, fun x hx => ?_⟩
      · unfold okT
        simp [g1]
      · have := g3 x hx
        show (!symB [c, x]) = true
        rw [this]; rfl
theorem rd_pos {l : Txt} (h : (rdT l).e = 0) : 1 ≤ (rdT l).n ∧ (rdT l).n ≤ l.length := by
  obtain ⟨r, _, h2, h3, h4, _⟩ := rd_back l h 0
  refine ⟨h4, ?_⟩
  have := congrArg List.length h2
  rw [List.length_append, ← h3] at this
  omega
/-- How far the next token begins behind the beginning of the one at the beginning. -/
def nxt (l : Txt) : Nat := (rdT l).n + skipN false (l.drop (rdT l).n)
theorem skip_le : ∀ (b : Bool) (l : Txt), skipN b l ≤ l.length
  | b, [] => by cases b <;> exact Nat.le_refl _
  | true, c :: r => by rw [skipN]; have := skip_le (c != 10) r; simp; omega
  | false, c :: r => by
    rw [skipN]
    have h1 := skip_le false r
    have h2 := skip_le true r
    split
    · simp; omega
    split <;> simp <;> omega
theorem nxt_le {l : Txt} (h : (rdT l).e = 0) : 1 ≤ nxt l ∧ nxt l ≤ l.length := by
  have h1 := rd_pos h
  have h2 := skip_le false (l.drop (rdT l).n)
  rw [List.length_drop] at h2
  unfold nxt
  omega
/-- The tokens of what begins at p with no blank and no comment, behind m tokens. -/
def toks (m p : Nat) (l : Txt) : TR :=
  if hl : l = [] then ⟨[], 0, 0⟩ else if m = 1000 then ⟨[], p, 3⟩ else if h : (rdT l).e = 0 then addT [⟨(rdT l).k, (rdT l).s, (rdT l).i, p⟩] (toks (m + 1) (p + nxt l) (l.drop (nxt l))) else ⟨[], p + (rdT l).n, (rdT l).e⟩
termination_by l.length
decreasing_by
  have h1 := nxt_le h
  have h2 : 0 < l.length := List.length_pos_iff.2 hl
  rw [List.length_drop]
  omega
theorem toks_nil (m p : Nat) : toks m p [] = ⟨[], 0, 0⟩ := by rw [toks, dif_pos rfl]
theorem toks_full (p : Nat) {l : Txt} (hl : l ≠ []) : toks 1000 p l = ⟨[], p, 3⟩ := by rw [toks, dif_neg hl, if_pos rfl]
theorem toks_bad {m p : Nat} {l : Txt} (hl : l ≠ []) (hm : m ≠ 1000) (h : (rdT l).e ≠ 0) : toks m p l = ⟨[], p + (rdT l).n, (rdT l).e⟩ := by rw [toks, dif_neg hl, if_neg hm, dif_neg h]
theorem toks_step {m p : Nat} {l : Txt} (hl : l ≠ []) (hm : m ≠ 1000) (h : (rdT l).e = 0) : toks m p l = addT [⟨(rdT l).k, (rdT l).s, (rdT l).i, p⟩] (toks (m + 1) (p + nxt l) (l.drop (nxt l))) := by
  conv => lhs; rw [toks, dif_neg hl, if_neg hm, dif_pos h]
def tokens (s : Txt) : TR := if 4000 < s.length then ⟨[], 0, 3⟩ else toks 0 (skipN false s) (s.drop (skipN false s))
end Lex
end Go.Proofs.YtghjflmanldjlaaDoor
