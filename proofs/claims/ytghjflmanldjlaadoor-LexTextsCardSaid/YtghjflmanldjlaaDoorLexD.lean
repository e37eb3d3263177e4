/-
  Layer 7, plainly: Text, Join; the tokens of joined texts; where tokens stand; blanks between tokens.
-/
import Derived.Test.YtghjflmanldjlaaDoorLexC
namespace Go.Proofs.YtghjflmanldjlaaDoor
namespace Lex
set_option linter.unusedVariables false

def txtT (t : Tk) : Txt := if okT t then wrt t else []
def txtE (t : Tk) : Int := if okT t then 0 else 1
/-- Tokens but for their offsets. -/
def core (t : Tk) : Int × Txt × Int := (t.k, t.s, t.i)
theorem okT_core {t u : Tk} (h : core t = core u) : okT t = okT u ∧ wrt t = wrt u := by
  unfold core at h
  simp only [Prod.mk.injEq] at h
  obtain ⟨h1, h2, h3⟩ := h
  unfold okT wrt
  rw [h1, h2, h3]
  exact ⟨rfl, rfl⟩
theorem wrt_head (t : Tk) (r : Txt) (h : okT t = true) (hr : ∀ c, r.head? = some c → blankB c = true) : wrt t ++ r ≠ [] ∧ skipN false (wrt t ++ r) = 0 := by
  have hb := read_wrt t r h (fun c hc => fit_blank t (hr c hc))
  have hn : (rdT (wrt t ++ r)).e = 0 := by rw [hb]
  have hp := rd_pos hn
  rw [hb] at hp
  dsimp only at hp
  cases hw : wrt t with
  | nil => rw [hw] at hp; simp at hp
  | cons c q =>
    rw [hw] at hb hn
    refine ⟨by simp, ?_⟩
    rw [List.cons_append] at hb hn ⊢
    rw [skipN]
    have hc : blankB c = false := by
      cases g : blankB c with
      | false => rfl
      | true =>
        have : c = 32 ∨ c = 9 ∨ c = 10 := by unfold blankB at g; simpa [or_assoc] using g
        have hs : symN (c :: (q ++ r)) = 0 := by
          cases hqr : q ++ r with
          | nil => rcases this with rfl | rfl | rfl <;> rfl
          | cons d x =>
            show (if symB [c, d] then 2 else if symB [c] then 1 else 0) = 0
            rcases this with rfl | rfl | rfl <;> simp [symB, twos, signs]
        rw [rdT] at hn
        rcases this with rfl | rfl | rfl
        all_goals
          rw [if_neg (by decide), if_neg (by decide), if_neg (by decide), if_neg (by decide), if_pos hs] at hn
          cases hn
    rw [hc, if_neg (by decide)]
    by_cases hs : (c == 47 && (q ++ r).head? == some 47) = true
    · exfalso
      rw [Bool.and_eq_true, beq_iff_eq, beq_iff_eq] at hs
      obtain ⟨rfl, h47⟩ := hs
      have hlen : (rdT (47 :: (q ++ r))).n = 1 := by
        cases hqr : q ++ r with
        | nil => rfl
        | cons d x =>
          rw [hqr] at h47
          have : d = 47 := by simpa using h47
          subst this
          rfl
      rw [hb] at hlen
      dsimp only at hlen
      have hq : q = [] := by simpa using hlen
      subst hq
      have := hr 47 h47
      exact absurd this (by decide)
    · rw [if_neg hs]
/-- The tokens of a token's text. -/
theorem tokens_one (t : Tk) (h : okT t = true) : toks 0 0 (wrt t) = ⟨[⟨t.k, t.s, t.i, 0⟩], 0, 0⟩ ∧ skipN false (wrt t) = 0 := by
  have h1 := wrt_head t [] h (fun c hc => by cases hc)
  have h2 := read_wrt t [] h (fun c hc => by cases hc)
  rw [List.append_nil] at h1 h2
  have he : (rdT (wrt t)).e = 0 := by rw [h2]
  have hn : nxt (wrt t) = (wrt t).length := by
    unfold nxt
    rw [h2]
    simp [skipN]
  refine ⟨?_, h1.2⟩
  rw [toks_step h1.1 (by decide) he, hn, List.drop_length, toks_nil, h2]
  rfl
/-- Whatever reads as one token at its beginning. -/
theorem one_token {t : Tk} (h : (tokens (wrt t)).e = 0) (hl : (tokens (wrt t)).l = [⟨t.k, t.s, t.i, 0⟩]) : okT t = true := by
  unfold tokens at h hl
  by_cases h4 : 4000 < (wrt t).length
  · rw [if_pos h4] at h; cases h
  rw [if_neg h4] at h hl
  generalize (wrt t).drop (skipN false (wrt t)) = l at h hl
  generalize skipN false (wrt t) = p at h hl
  by_cases hn : l = []
  · subst hn
    rw [toks_nil] at hl
    cases hl
  by_cases he : (rdT l).e = 0
  · rw [toks_step hn (by decide) he] at h hl
    unfold addT at h hl
    by_cases g : (toks (0 + 1) (p + nxt l) (l.drop (nxt l))).e = 0
    · rw [if_pos g] at hl
      simp only [List.singleton_append, List.cons.injEq, Tk.mk.injEq] at hl
      obtain ⟨⟨e1, e2, e3, _⟩, _⟩ := hl
      obtain ⟨r, hk, _⟩ := rd_back l he t.a
      rw [e1, e2, e3] at hk
      exact hk
    · rw [if_neg g] at h; exact absurd h g
  · rw [toks_bad hn (by decide) he] at h
    exact absurd h he
theorem quo_len (s : Txt) : (quo s).length ≤ s.length * 2 := by
  induction s with
  | nil => exact Nat.le_refl _
  | cons c r ih =>
    rw [quo_cons, List.length_append, List.length_cons]
    split <;> simp <;> omega
theorem digs_len2 (i : Int) (h : 0 ≤ i) (h2 : i ≤ 1000000000000) : (Num.fmtL i).length ≤ 20 := by
  obtain ⟨N, rfl⟩ := Int.eq_ofNat_of_zero_le h
  have hf : Num.fmtL (N : Int) = Num.digs (Num.ndF 18 N) N := by rw [Num.fmtL, if_neg (by omega), Num.abz_pos (by omega)]; rfl
  rw [hf, Num.digs_len]
  have : ∀ f n, Num.ndF f n ≤ f + 1 := by
    intro f
    induction f with
    | zero => intro n; exact Nat.le_refl _
    | succ f ih => intro n; have := ih (n / 10); rw [Num.ndF]; split <;> omega
  have := this 18 N
  omega
theorem ok_len {t : Tk} (h : okT t = true) : t.s.length ≤ 200 ∧ (wrt t).length ≤ 402 := by
  obtain ⟨k, s, i, a⟩ := t
  unfold okT at h
  unfold wrt
  dsimp only at h ⊢
  by_cases h1 : k = 1
  · subst h1
    rw [if_pos rfl, Bool.and_eq_true, Bool.and_eq_true] at h
    have := whole_parts h.2.1
    simp; omega
  by_cases h2 : k = 2
  · subst h2
    rw [if_neg (by decide), if_pos rfl, Bool.and_eq_true] at h
    have := whole_parts (word_whole h.2)
    simp; omega
  by_cases h5 : k = 5
  · subst h5
    rw [if_neg (by decide), if_neg (by decide), if_pos rfl, Bool.and_eq_true] at h
    rcases sym_parts h.2 with ⟨c, rfl, _⟩ | ⟨c, d, rfl, _⟩ <;> simp
  by_cases h6 : k = 6
  · subst h6
    rw [if_neg (by decide), if_neg (by decide), if_neg (by decide), if_pos rfl, Bool.and_eq_true] at h
    have := whole_parts h.2
    simp; omega
  by_cases h3 : k = 3
  · subst h3
    rw [if_neg (by decide), if_neg (by decide), if_neg (by decide), if_neg (by decide), if_pos rfl, Bool.and_eq_true, Bool.and_eq_true, decide_eq_true_eq, decide_eq_true_eq, List.isEmpty_iff] at h
    obtain ⟨rfl, hi, hi2⟩ := h
    have := digs_len2 i hi hi2
    simp; omega
  by_cases h4 : k = 4
  · subst h4
    rw [if_neg (by decide), if_neg (by decide), if_neg (by decide), if_neg (by decide), if_neg (by decide), if_pos rfl, Bool.and_eq_true, Bool.and_eq_true, decide_eq_true_eq] at h
    have := quo_len s
    simp; omega
  · simp only [h1, h2, h5, h6, h3, h4, if_false, Bool.false_eq_true] at h
/-- The code's way of asking whether a token has a text. -/
theorem txt_code (t : Tk) : okT t = true ↔ ((tokens (wrt t)).e = 0 ∧ (tokens (wrt t)).l = [⟨t.k, t.s, t.i, 0⟩]) := by
  constructor
  · intro h
    obtain ⟨h1, h2⟩ := tokens_one t h
    have hl := (ok_len h).2
    unfold tokens
    rw [if_neg (by omega), h2, List.drop_zero, h1]
    exact ⟨rfl, rfl⟩
  · rintro ⟨h1, h2⟩
    exact one_token h1 h2
/-- The texts of tokens with a space between two. -/
def joinL : List Tk → Txt
  | [] => []
  | [t] => wrt t
  | t :: u :: r => wrt t ++ 32 :: joinL (u :: r)
def joinE (l : List Tk) : Int := if 1000 < l.length then 3 else if l.all okT = false then 1 else if 4000 < (joinL l).length then 3 else 0
def joinT (l : List Tk) : Txt := if joinE l = 0 then joinL l else []
theorem join_head : ∀ (l : List Tk), l.all okT = true → skipN false (joinL l) = 0 ∧ (l ≠ [] → joinL l ≠ [])
  | [], _ => ⟨rfl, fun h => absurd rfl h⟩
  | [t], h => by
    simp only [List.all_cons, List.all_nil, Bool.and_true] at h
    have := wrt_head t [] h (fun c hc => by cases hc)
    rw [List.append_nil] at this
    exact ⟨this.2, fun _ => this.1⟩
  | t :: u :: r, h => by
    simp only [List.all_cons, Bool.and_eq_true] at h
    have := wrt_head t (32 :: joinL (u :: r)) h.1 (fun c hc => by simp at hc; subst hc; rfl)
    exact ⟨this.2, fun _ => this.1⟩
/-- Tokens at their offsets in the joined text. -/
def spread (p : Nat) : List Tk → List Tk
  | [] => []
  | t :: r => ⟨t.k, t.s, t.i, p⟩ :: spread (p + (wrt t).length + 1) r
theorem spread_len : ∀ (p : Nat) (l : List Tk), (spread p l).length = l.length
  | p, [] => rfl
  | p, t :: r => by rw [spread, List.length_cons, spread_len, List.length_cons]
theorem toks_join : ∀ (l : List Tk) (m p : Nat), l.all okT = true → m + l.length ≤ 1000 → toks m p (joinL l) = ⟨spread p l, 0, 0⟩
  | [], m, p, _, _ => toks_nil m p
  | [t], m, p, h, hm => by
    have h0 := (join_head [t] h).2 (by simp)
    simp only [List.all_cons, List.all_nil, Bool.and_true] at h
    have h2 := read_wrt t [] h (fun c hc => by cases hc)
    rw [List.append_nil] at h2
    have he : (rdT (wrt t)).e = 0 := by rw [h2]
    have hn : nxt (wrt t) = (wrt t).length := by
      unfold nxt
      rw [h2]
      simp [skipN]
    change wrt t ≠ [] at h0
    show toks m p (wrt t) = _
    simp only [List.length_singleton] at hm
    rw [toks_step h0 (by omega) he, hn, List.drop_length, toks_nil, h2]
    rfl
  | t :: u :: r, m, p, h, hm => by
    have h0 := (join_head (t :: u :: r) h).2 (by simp)
    have hh := h
    rw [List.all_cons, Bool.and_eq_true] at h
    have hs := join_head (u :: r) h.2
    have h2 := read_wrt t (32 :: joinL (u :: r)) h.1 (fun c hc => fit_blank t (by simp at hc; subst hc; rfl))
    have he : (rdT (wrt t ++ 32 :: joinL (u :: r))).e = 0 := by rw [h2]
    have hn : nxt (wrt t ++ 32 :: joinL (u :: r)) = (wrt t).length + 1 := by
      unfold nxt
      rw [h2]
      dsimp only
      rw [List.drop_left, skipN, if_pos (by decide), hs.1]
    have hd : (wrt t ++ 32 :: joinL (u :: r)).drop ((wrt t).length + 1) = joinL (u :: r) := by
      rw [show wrt t ++ 32 :: joinL (u :: r) = (wrt t ++ [32]) ++ joinL (u :: r) by simp, List.drop_left' (by simp)]
    have ih := toks_join (u :: r) (m + 1) (p + ((wrt t).length + 1)) h.2 (by simp only [List.length_cons] at hm ⊢; omega)
    change wrt t ++ 32 :: joinL (u :: r) ≠ [] at h0
    show toks m p (wrt t ++ 32 :: joinL (u :: r)) = _
    simp only [List.length_cons] at hm
    rw [toks_step h0 (by omega) he, hn, hd, ih, h2]
    rfl
/-- What Join accepts, Tokens reads as these tokens. -/
theorem tokens_join {l : List Tk} (h : joinE l = 0) : tokens (joinT l) = ⟨spread 0 l, 0, 0⟩ ∧ l.all okT = true := by
  have ht : joinT l = joinL l := by unfold joinT; rw [if_pos h]
  unfold joinE at h
  by_cases h1 : 1000 < l.length
  · rw [if_pos h1] at h; cases h
  rw [if_neg h1] at h
  by_cases h2 : l.all okT = false
  · rw [if_pos h2] at h; cases h
  rw [if_neg h2] at h
  by_cases h3 : 4000 < (joinL l).length
  · rw [if_pos h3] at h; cases h
  rw [Bool.not_eq_false] at h2
  rw [ht]
  unfold tokens
  rw [if_neg h3, (join_head l h2).1, List.drop_zero, toks_join l 0 0 h2 (by omega)]
  exact ⟨rfl, h2⟩
/-- Tokens that stand with their texts in s from a place on. -/
def Placed (s : Txt) : Nat → List Tk → Prop
  | _, [] => True
  | e, t :: r => ∃ p : Nat, t.a = p ∧ e ≤ p ∧ okT t = true ∧ p + (wrt t).length ≤ s.length ∧ (s.drop p).take (wrt t).length = wrt t ∧ Placed s (p + (wrt t).length) r
theorem placed_mono {s : Txt} {e e' : Nat} (h : e' ≤ e) : ∀ {l}, Placed s e l → Placed s e' l
  | [], _ => trivial
  | t :: r, ⟨p, h1, h2, h3⟩ => ⟨p, h1, by omega, h3⟩
theorem toks_placed (s : Txt) : ∀ (n m p : Nat), s.length - p ≤ n → p ≤ s.length → (toks m p (s.drop p)).e = 0 → Placed s p (toks m p (s.drop p)).l := by
  intro n
  induction n with
  | zero =>
    intro m p h1 h2 h3
    rw [List.drop_of_length_le (by omega), toks_nil]
    trivial
  | succ n ih =>
    intro m p h1 h2 h3
    by_cases hl : s.drop p = []
    · rw [hl, toks_nil]; trivial
    by_cases hm : m = 1000
    · subst hm; rw [toks_full p hl] at h3; cases h3
    by_cases he : (rdT (s.drop p)).e = 0
    · rw [toks_step hl hm he] at h3 ⊢
      have hn := nxt_le he
      rw [List.length_drop] at hn
      rw [List.drop_drop] at h3 ⊢
      have hlt : p < s.length := by
        rcases Nat.lt_or_ge p s.length with g | g
        · exact g
        · exact absurd (List.drop_of_length_le g) hl
      unfold addT at h3 ⊢
      by_cases g : (toks (m + 1) (p + nxt (s.drop p)) (s.drop (p + nxt (s.drop p)))).e = 0
      · rw [if_pos g]
        have h := ih (m + 1) (p + nxt (s.drop p)) (by omega) (by omega) g
        obtain ⟨r, b1, b2, b3, b4, b5⟩ := rd_back _ he p
        have hle : (rdT (s.drop p)).n ≤ nxt (s.drop p) := by unfold nxt; omega
        rw [List.singleton_append]
        have hlen := congrArg List.length b2
        rw [List.length_append, ← b3, List.length_drop] at hlen
        refine ⟨p, rfl, Nat.le_refl _, b1, by rw [← b3]; omega, ?_, placed_mono (by rw [← b3]; omega) h⟩
        generalize wrt _ = W at b2 ⊢
        rw [b2, List.take_left]
      · rw [if_neg g] at h3; exact absurd h3 g
    · rw [toks_bad hl hm he] at h3; exact absurd h3 he
theorem tokens_placed {s : Txt} (h : (tokens s).e = 0) : Placed s 0 (tokens s).l := by
  unfold tokens at h ⊢
  by_cases h4 : 4000 < s.length
  · rw [if_pos h4] at h; cases h
  rw [if_neg h4] at h ⊢
  exact placed_mono (Nat.zero_le _) (toks_placed s s.length 0 _ (by omega) (skip_le _ _) h)
theorem strT_bad : ∀ (l : Txt) (m p : Nat), (strT m p l).e ≠ 0 → (strT m p l).n ≤ p + l.length
  | [], m, p, _ => by rw [strT.eq_def]; exact Nat.zero_le _
  | c :: r, m, p, h => by
    rw [strT_cons] at h ⊢
    by_cases h1 : (c == 34) = true
    · rw [if_pos h1] at h; exact absurd rfl h
    rw [if_neg h1] at h ⊢
    by_cases h2 : (c < 32 || 126 < c) = true
    · rw [if_pos h2]; exact Nat.le_add_right _ _
    rw [if_neg h2] at h ⊢
    by_cases h3 : (c == 92) = true
    · rw [if_pos h3] at h ⊢
      cases r with
      | nil => exact Nat.le_add_right _ _
      | cons d q =>
        simp only at h ⊢
        by_cases h4 : (d == 34 || d == 92) = true
        · rw [if_pos h4] at h ⊢
          by_cases h5 : m = 200
          · rw [if_pos h5]; exact Nat.zero_le _
          rw [if_neg h5] at h ⊢
          have ih := strT_bad q (m + 1) (p + 2)
          generalize strT (m + 1) (p + 2) q = R at *
          unfold addC at h ⊢
          by_cases g : R.e = 0
          · rw [if_pos g] at h; exact absurd rfl h
          · rw [if_neg g]; have := ih g; simp; omega
        · rw [if_neg h4]; exact Nat.le_add_right _ _
    · rw [if_neg h3] at h ⊢
      by_cases h5 : m = 200
      · rw [if_pos h5]; exact Nat.zero_le _
      rw [if_neg h5] at h ⊢
      have ih := strT_bad r (m + 1) (p + 1)
      generalize strT (m + 1) (p + 1) r = R at *
      unfold addC at h ⊢
      by_cases g : R.e = 0
      · rw [if_pos g] at h; exact absurd rfl h
      · rw [if_neg g]; have := ih g; simp; omega
theorem rd_bad {l : Txt} (h : (rdT l).e ≠ 0) : (rdT l).n ≤ l.length := by
  cases l with
  | nil => exact Nat.le_refl _
  | cons c r =>
    rw [rdT] at h ⊢
    have hs := strT_bad r 0 1
    repeat' split
    all_goals first | exact Nat.zero_le _ | skip
    all_goals simp_all
    all_goals omega
theorem toks_bad_nil : ∀ (n m p : Nat) (l : Txt), l.length ≤ n → (toks m p l).e ≠ 0 → (toks m p l).l = [] ∧ (toks m p l).p ≤ p + l.length := by
  intro n
  induction n with
  | zero =>
    intro m p l h1 h2
    obtain rfl := List.length_eq_zero_iff.1 (Nat.le_zero.1 h1)
    rw [toks_nil] at h2
    exact absurd rfl h2
  | succ n ih =>
    intro m p l h1 h2
    by_cases hl : l = []
    · subst hl; rw [toks_nil] at h2; exact absurd rfl h2
    by_cases hm : m = 1000
    · subst hm; rw [toks_full p hl]; exact ⟨rfl, by dsimp only; omega⟩
    have h0 : 0 < l.length := List.length_pos_iff.2 hl
    by_cases he : (rdT l).e = 0
    · rw [toks_step hl hm he] at h2 ⊢
      have hn := nxt_le he
      unfold addT at h2 ⊢
      by_cases g : (toks (m + 1) (p + nxt l) (l.drop (nxt l))).e = 0
      · rw [if_pos g] at h2; exact absurd rfl h2
      · rw [if_neg g]
        have := ih (m + 1) (p + nxt l) (l.drop (nxt l)) (by rw [List.length_drop]; omega) g
        rw [List.length_drop] at this
        exact ⟨this.1, by omega⟩
    · rw [toks_bad hl hm he]
      have := rd_bad he
      exact ⟨rfl, by dsimp only; omega⟩
end Lex
end Go.Proofs.YtghjflmanldjlaaDoor
