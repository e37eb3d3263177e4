/-
  Layer 8, texts merged: LexE. For every argument within the bounds that each theorem names.
-/
import Derived.Test.YtinadbomebgfaaaGreatDoorMC1

/-
  Layer 7, plainly: blanks and comments between tokens change nothing but offsets.
-/
namespace Go.Proofs.YtinadbomebgfaaaGreatDoor
namespace Lex
set_option linter.unusedVariables false

/-- Blanks and complete comments. -/
def gapS : Bool → Txt → Bool
  | b, [] => !b
  | true, c :: r => gapS (c != 10) r
  | false, c :: r => if blankB c then gapS false r else if c == 47 && r.head? == some 47 then gapS true r else false
theorem head_app {r x : Txt} {c : UInt8} (h : r.head? = some c) : (r ++ x).head? = some c := by
  cases r with
  | nil => cases h
  | cons d q => exact h
theorem gap_skip : ∀ (st : Bool) (g x : Txt), gapS st g = true → skipN st (g ++ x) = g.length + skipN false x
  | false, [], x, _ => by simp
  | true, [], x, h => by cases h
  | true, c :: r, x, h => by
    rw [gapS] at h
    rw [List.cons_append, skipN, gap_skip _ r x h, List.length_cons]; omega
  | false, c :: r, x, h => by
    rw [gapS] at h
    rw [List.cons_append, skipN, List.length_cons]
    by_cases h1 : blankB c = true
    · rw [if_pos h1] at h ⊢
      rw [gap_skip _ r x h]; omega
    rw [if_neg h1] at h ⊢
    by_cases h2 : (c == 47 && r.head? == some 47) = true
    · rw [if_pos h2] at h
      rw [Bool.and_eq_true, beq_iff_eq, beq_iff_eq] at h2
      rw [if_pos (by rw [h2.1, head_app h2.2]; rfl), gap_skip _ r x h]; omega
    · rw [if_neg h2] at h; cases h
theorem gap_app : ∀ (st : Bool) (g x : Txt), gapS st g = true → gapS false x = true → gapS st (g ++ x) = true
  | false, [], x, _, hx => hx
  | true, [], x, h, _ => by cases h
  | true, c :: r, x, h, hx => by
    rw [gapS] at h
    rw [List.cons_append, gapS]
    exact gap_app _ r x h hx
  | false, c :: r, x, h, hx => by
    rw [gapS] at h
    rw [List.cons_append, gapS]
    by_cases h1 : blankB c = true
    · rw [if_pos h1] at h ⊢
      exact gap_app _ r x h hx
    rw [if_neg h1] at h ⊢
    by_cases h2 : (c == 47 && r.head? == some 47) = true
    · rw [if_pos h2] at h
      rw [Bool.and_eq_true, beq_iff_eq, beq_iff_eq] at h2
      rw [if_pos (by rw [h2.1, head_app h2.2]; rfl)]
      exact gap_app _ r x h hx
    · rw [if_neg h2] at h; cases h
/-- What is skipped ahead of a token is complete. -/
theorem skip_gap : ∀ (st : Bool) (l : Txt), l.drop (skipN st l) ≠ [] → gapS st (l.take (skipN st l)) = true ∧ skipN false (l.drop (skipN st l)) = 0
  | false, [], h => ⟨rfl, rfl⟩
  | true, [], h => absurd rfl h
  | true, c :: r, h => by
    rw [skipN] at h ⊢
    rw [List.take_succ_cons, List.drop_succ_cons] at *
    exact skip_gap _ r h
  | false, c :: r, h => by
    rw [skipN] at h ⊢
    by_cases h1 : blankB c = true
    · rw [if_pos h1] at h ⊢
      rw [List.take_succ_cons, List.drop_succ_cons] at *
      rw [gapS, if_pos h1]
      exact skip_gap _ r h
    rw [if_neg h1] at h ⊢
    by_cases h2 : (c == 47 && r.head? == some 47) = true
    · rw [if_pos h2] at h ⊢
      rw [List.take_succ_cons, List.drop_succ_cons] at *
      obtain ⟨a1, a2⟩ := skip_gap _ r h
      refine ⟨?_, a2⟩
      have h3 := h2
      rw [Bool.and_eq_true, beq_iff_eq, beq_iff_eq] at h3
      have hh : (r.take (skipN true r)).head? = some 47 := by
        cases r with
        | nil => cases h3.2
        | cons d q => rw [skipN, List.take_succ_cons]; exact h3.2
      rw [gapS, if_neg h1, if_pos (by rw [h3.1, hh]; rfl)]
      exact a1
    · rw [if_neg h2]
      refine ⟨rfl, ?_⟩
      rw [List.drop_zero, skipN, if_neg h1, if_neg h2]
/-- A line feed ends whatever is skipped to the end. -/
theorem skip_end : ∀ (st : Bool) (l : Txt), skipN st l = l.length → gapS st (l ++ [10]) = true
  | false, [], _ => rfl
  | true, [], _ => rfl
  | true, c :: r, h => by
    rw [skipN, List.length_cons] at h
    rw [List.cons_append, gapS]
    exact skip_end _ r (by omega)
  | false, c :: r, h => by
    rw [skipN, List.length_cons] at h
    rw [List.cons_append, gapS]
    by_cases h1 : blankB c = true
    · rw [if_pos h1] at h ⊢
      exact skip_end _ r (by omega)
    rw [if_neg h1] at h ⊢
    by_cases h2 : (c == 47 && r.head? == some 47) = true
    · rw [if_pos h2] at h
      have h3 := h2
      rw [Bool.and_eq_true, beq_iff_eq, beq_iff_eq] at h3
      rw [if_pos (by rw [h3.1, head_app h3.2]; rfl)]
      exact skip_end _ r (by omega)
    · rw [if_neg h2] at h; omega
theorem skip_head {u x y : Txt} (hu : u ≠ []) (h : skipN false (u ++ x) = 0) (hy : y.head? = x.head?) : skipN false (u ++ y) = 0 := by
  cases u with
  | nil => exact absurd rfl hu
  | cons c u =>
    rw [List.cons_append, skipN] at h ⊢
    have e : (u ++ y).head? = (u ++ x).head? := by cases u with | nil => exact hy | cons d q => rfl
    rw [e]
    by_cases h1 : blankB c = true
    · rw [if_pos h1] at h; omega
    rw [if_neg h1] at h ⊢
    by_cases h2 : (c == 47 && (u ++ x).head? == some 47) = true
    · rw [if_pos h2] at h; omega
    · rw [if_neg h2]
def pk (m p : Nat) (l : Txt) : TR := toks m (p + skipN false l) (l.drop (skipN false l))
theorem toks_pk {m p : Nat} {l : Txt} (hl : l ≠ []) (hm : m ≠ 1000) (h : (rdT l).e = 0) : toks m p l = addT [⟨(rdT l).k, (rdT l).s, (rdT l).i, p⟩] (pk (m + 1) (p + (rdT l).n) (l.drop (rdT l).n)) := by
  rw [toks_step hl hm h]
  unfold pk nxt
  rw [List.drop_drop, Nat.add_assoc]
theorem addT_e {t : List Tk} {R : TR} (h : (addT t R).e = 0) : R.e = 0 ∧ (addT t R).l = t ++ R.l := by
  unfold addT at h ⊢
  by_cases g : R.e = 0
  · rw [if_pos g]; exact ⟨g, rfl⟩
  · rw [if_neg g] at h; exact absurd h g
theorem addT_ok (t : List Tk) {R : TR} (h : R.e = 0) : (addT t R).e = 0 ∧ (addT t R).l = t ++ R.l := by
  unfold addT
  rw [if_pos h]
  exact ⟨rfl, rfl⟩
theorem toks_cases {m p : Nat} {l : Txt} (h : (toks m p l).e = 0) (hl : l ≠ []) : m ≠ 1000 ∧ (rdT l).e = 0 := by
  by_cases hm : m = 1000
  · subst hm; rw [toks_full p hl] at h; cases h
  refine ⟨hm, ?_⟩
  by_cases he : (rdT l).e = 0
  · exact he
  · rw [toks_bad hl hm he] at h; exact absurd h he
theorem toks_sim : ∀ (n m p p' : Nat) (l : Txt), l.length ≤ n → (toks m p l).e = 0 → (toks m p' l).e = 0 ∧ (toks m p' l).l.map core = (toks m p l).l.map core := by
  intro n
  induction n with
  | zero =>
    intro m p p' l h1 h2
    obtain rfl := List.length_eq_zero_iff.1 (Nat.le_zero.1 h1)
    rw [toks_nil, toks_nil]; exact ⟨rfl, rfl⟩
  | succ n ih =>
    intro m p p' l h1 h2
    by_cases hl : l = []
    · subst hl; rw [toks_nil, toks_nil]; exact ⟨rfl, rfl⟩
    obtain ⟨hm, he⟩ := toks_cases h2 hl
    have hn := nxt_le he
    rw [toks_step hl hm he] at h2
    obtain ⟨g1, g2⟩ := addT_e h2
    have := ih (m + 1) (p + nxt l) (p' + nxt l) (l.drop (nxt l)) (by rw [List.length_drop]; omega) g1
    obtain ⟨g3, g4⟩ := addT_ok [⟨(rdT l).k, (rdT l).s, (rdT l).i, p'⟩] this.1
    rw [toks_step (p := p) hl hm he, toks_step (p := p') hl hm he]
    refine ⟨g3, ?_⟩
    rw [g4, g2, List.map_append, List.map_append, this.2]
    rfl
theorem toks_ge : ∀ (n m p : Nat) (l : Txt), l.length ≤ n → ∀ t ∈ (toks m p l).l, (p : Int) ≤ t.a := by
  intro n
  induction n with
  | zero =>
    intro m p l h1 t ht
    obtain rfl := List.length_eq_zero_iff.1 (Nat.le_zero.1 h1)
    rw [toks_nil] at ht; cases ht
  | succ n ih =>
    intro m p l h1 t ht
    by_cases hl : l = []
    · subst hl; rw [toks_nil] at ht; cases ht
    by_cases hm : m = 1000
    · subst hm; rw [toks_full p hl] at ht; cases ht
    by_cases he : (rdT l).e = 0
    · have hn := nxt_le he
      rw [toks_step hl hm he] at ht
      by_cases g : (toks (m + 1) (p + nxt l) (l.drop (nxt l))).e = 0
      · rw [(addT_ok _ g).2] at ht
        rcases List.mem_append.1 ht with h | h
        · rw [List.mem_singleton.1 h]; exact Int.le_refl _
        · have := ih _ _ _ (by rw [List.length_drop]; omega) t h
          omega
      · unfold addT at ht
        rw [if_neg g] at ht
        have := ih _ _ _ (by rw [List.length_drop]; omega) t ht
        omega
    · rw [toks_bad hl hm he] at ht; cases ht
/-- Where a blank is inserted: ahead of a token, or at the end. -/
def Where (b : Txt) (p : Nat) (l : Txt) (L : List Tk) (w q : Nat) : Prop := (∃ t, L[w]? = some t ∧ t.a = ((p + q : Nat) : Int)) ∨ (w = L.length ∧ q = l.length ∧ ∃ r, b = 10 :: r)
theorem blanks (b : Txt) (hb : gapS false b = true) (hb2 : ∃ c r, b = c :: r ∧ blankB c = true) : ∀ (n m p p' : Nat) (l : Txt) (w q : Nat), l.length ≤ n → (pk m p l).e = 0 → Where b p l (pk m p l).l w q →
    (pk m p' (l.take q ++ (b ++ l.drop q))).e = 0 ∧ (pk m p' (l.take q ++ (b ++ l.drop q))).l.map core = (pk m p l).l.map core := by
  intro n
  induction n with
  | zero =>
    intro m p p' l w q h1 h2 hw
    obtain rfl := List.length_eq_zero_iff.1 (Nat.le_zero.1 h1)
    have e0 : pk m p [] = ⟨[], 0, 0⟩ := by unfold pk; rw [List.drop_nil, toks_nil]
    rw [List.take_nil, List.drop_nil, List.append_nil, List.nil_append]
    have hs := gap_skip false b [] hb
    rw [List.append_nil] at hs
    have e1 : pk m p' b = ⟨[], 0, 0⟩ := by unfold pk; rw [List.drop_of_length_le (by rw [hs]; omega), toks_nil]
    rw [e0, e1]; exact ⟨rfl, rfl⟩
  | succ n ih =>
    intro m p p' l w q h1 h2 hw
    by_cases hl : l.drop (skipN false l) = []
    · have e0 : pk m p l = ⟨[], 0, 0⟩ := by unfold pk; rw [hl, toks_nil]
      rw [e0] at hw ⊢
      rcases hw with ⟨t, ht, _⟩ | ⟨_, rfl, r, rfl⟩
      · cases ht
      · have hle := skip_le false l
        have hk : skipN false l = l.length := by
          have := List.drop_eq_nil_iff.1 hl; omega
        have hg := skip_end false l hk
        have hr : gapS false r = true := by rw [gapS, if_pos (by decide)] at hb; exact hb
        have hg2 := gap_app false (l ++ [10]) r hg hr
        rw [List.take_length, List.drop_length, List.append_nil]
        rw [List.append_assoc, List.singleton_append] at hg2
        have hs := gap_skip false _ [] hg2
        rw [List.append_nil] at hs
        have e1 : pk m p' (l ++ 10 :: r) = ⟨[], 0, 0⟩ := by unfold pk; rw [List.drop_of_length_le (by rw [hs]; omega), toks_nil]
        rw [e1]; exact ⟨rfl, rfl⟩
    · obtain ⟨hg, hk0⟩ := skip_gap false l hl
      have htd := List.take_append_drop (skipN false l) l
      have hgl : (l.take (skipN false l)).length = skipN false l := by rw [List.length_take, Nat.min_eq_left (skip_le _ _)]
      unfold pk at h2 hw
      show (pk m p' _).e = 0 ∧ (pk m p' _).l.map core = (toks m (p + skipN false l) (l.drop (skipN false l))).l.map core
      generalize l.take (skipN false l) = g at *
      generalize hl1 : l.drop (skipN false l) = l1 at *
      generalize hsk : skipN false l = k at *
      clear hsk hl1
      subst hgl
      subst htd
      obtain ⟨hm, he⟩ := toks_cases h2 hl
      obtain ⟨r1, r2⟩ := rd_pos he
      rw [List.length_append] at h1
      obtain ⟨x, b1, b2, b3, b4, b5⟩ := rd_back l1 he (p + g.length : Nat)
      have ht : toks m (p + g.length) l1 = addT [⟨(rdT l1).k, (rdT l1).s, (rdT l1).i, (p + g.length : Nat)⟩] (pk (m + 1) (p + g.length + (rdT l1).n) (l1.drop (rdT l1).n)) := toks_pk hl hm he
      rw [ht] at h2
      obtain ⟨g1, g2⟩ := addT_e h2
      have hx : l1.drop (rdT l1).n = x := by
        generalize wrt _ = W at b2 b3
        rw [b3]
        conv => lhs; rw [b2]
        rw [List.drop_left]
      rw [hx] at g1 g2 ht
      have hins : ∀ q', (g ++ l1).take (g.length + q') ++ (b ++ (g ++ l1).drop (g.length + q')) = g ++ (l1.take q' ++ (b ++ l1.drop q')) := fun q' => by
        rw [List.take_length_add_append, List.drop_length_add_append, List.append_assoc]
      have hzero : w = 0 → q = g.length → (pk m p' ((g ++ l1).take q ++ (b ++ (g ++ l1).drop q))).e = 0 ∧ (pk m p' ((g ++ l1).take q ++ (b ++ (g ++ l1).drop q))).l.map core = (toks m (p + g.length) l1).l.map core := by
        rintro rfl rfl
        have := hins 0
        rw [Nat.add_zero, List.take_zero, List.drop_zero, List.nil_append] at this
        rw [this]
        unfold pk
        have hs : skipN false (g ++ (b ++ l1)) = (g ++ b).length := by
          rw [gap_skip false g _ hg, gap_skip false b _ hb, hk0, List.length_append]; omega
        rw [hs, ← List.append_assoc, List.drop_left]
        refine toks_sim l1.length m (p + g.length) _ l1 (Nat.le_refl _) ?_
        rw [ht]; exact (addT_ok _ g1).1
      cases w with
      | zero =>
        rcases hw with ⟨t, h3, h4⟩ | ⟨h3, _⟩
        · rw [ht, g2] at h3
          simp only [List.singleton_append, List.getElem?_cons_zero, Option.some.injEq] at h3
          subst h3
          dsimp only at h4
          exact hzero rfl (by omega)
        · rw [ht, g2] at h3; simp at h3
      | succ w =>
        have hq : ∃ q', q = g.length + (rdT l1).n + q' ∧ Where b (p + g.length + (rdT l1).n) x (pk (m + 1) (p + g.length + (rdT l1).n) x).l w q' := by
          rcases hw with ⟨t, h3, h4⟩ | ⟨h3, h4, h5⟩
          · rw [ht, g2] at h3
            simp only [List.singleton_append, List.getElem?_cons_succ] at h3
            have hge := toks_ge _ (m + 1) (p + g.length + (rdT l1).n + skipN false x) (x.drop (skipN false x)) (Nat.le_refl _) t (List.mem_of_getElem? h3)
            refine ⟨q - (g.length + (rdT l1).n), by omega, Or.inl ⟨t, h3, by omega⟩⟩
          · rw [ht, g2] at h3
            simp only [List.singleton_append, List.length_cons, Nat.add_right_cancel_iff] at h3
            have : x.length = l1.length - (rdT l1).n := by rw [← hx, List.length_drop]
            rw [List.length_append] at h4
            exact ⟨x.length, by omega, Or.inr ⟨h3, rfl, h5⟩⟩
        obtain ⟨q', rfl, hw'⟩ := hq
        have hxl : x.length ≤ n := by rw [← hx, List.length_drop]; omega
        obtain ⟨i1, i2⟩ := ih (m + 1) _ (p' + (g.length + (rdT l1).n)) x w q' hxl g1 hw'
        have e2 := hins ((rdT l1).n + q')
        rw [← Nat.add_assoc] at e2
        have e3 : l1.take ((rdT l1).n + q') ++ (b ++ l1.drop ((rdT l1).n + q')) = wrt ⟨(rdT l1).k, (rdT l1).s, (rdT l1).i, ((p + g.length : Nat) : Int)⟩ ++ (x.take q' ++ (b ++ x.drop q')) := by
          rw [b3]
          generalize wrt _ = W at b2
          rw [b2, List.take_length_add_append, List.drop_length_add_append, List.append_assoc]
        rw [e2, e3]
        have hhead : (x.take q' ++ (b ++ x.drop q')).head? = x.head? ∨ ∃ c, (x.take q' ++ (b ++ x.drop q')).head? = some c ∧ blankB c = true := by
          obtain ⟨c, r, rfl, hc⟩ := hb2
          cases q' with
          | zero => right; exact ⟨c, by rw [List.take_zero]; rfl, hc⟩
          | succ q' =>
            cases x with
            | nil => right; exact ⟨c, rfl, hc⟩
            | cons d z => left; rfl
        have hfit : ∀ c, (x.take q' ++ (b ++ x.drop q')).head? = some c → fitB ⟨(rdT l1).k, (rdT l1).s, (rdT l1).i, ((p + g.length : Nat) : Int)⟩ c = true := by
          intro c hc
          rcases hhead with h | ⟨d, h, hd⟩
          · exact b5 c (by rw [← h]; exact hc)
          · rw [hc] at h
            obtain rfl := Option.some.inj h
            exact fit_blank _ hd
        have hrd := read_wrt _ _ b1 hfit
        have hne : wrt ⟨(rdT l1).k, (rdT l1).s, (rdT l1).i, ((p + g.length : Nat) : Int)⟩ ≠ [] := fun e => by rw [e] at b3; simp at b3; omega
        have hskip : skipN false (wrt ⟨(rdT l1).k, (rdT l1).s, (rdT l1).i, ((p + g.length : Nat) : Int)⟩ ++ (x.take q' ++ (b ++ x.drop q'))) = 0 := by
          rcases hhead with h | ⟨d, h, hd⟩
          · exact skip_head hne (by rw [← b2]; exact hk0) h
          · exact (wrt_head _ _ b1 (fun c hc => by rw [hc] at h; obtain rfl := Option.some.inj h; exact hd)).2
        rw [ht, g2]
        generalize x.take q' ++ (b ++ x.drop q') = Y at *
        generalize hW : wrt ⟨(rdT l1).k, (rdT l1).s, (rdT l1).i, ((p + g.length : Nat) : Int)⟩ = W at *
        have hs : skipN false (g ++ (W ++ Y)) = g.length := by rw [gap_skip false g _ hg, hskip]; rfl
        have hpk : pk m p' (g ++ (W ++ Y)) = addT [⟨(rdT l1).k, (rdT l1).s, (rdT l1).i, ((p' + g.length : Nat) : Int)⟩] (pk (m + 1) (p' + (g.length + (rdT l1).n)) Y) := by
          show toks m (p' + skipN false (g ++ (W ++ Y))) ((g ++ (W ++ Y)).drop (skipN false (g ++ (W ++ Y)))) = _
          rw [hs, List.drop_left, toks_pk (by simp [hne]) hm (by rw [hrd]), hrd]
          dsimp only
          rw [List.drop_left, ← b3, Nat.add_assoc]
        rw [hpk]
        obtain ⟨g3, g4⟩ := addT_ok [⟨(rdT l1).k, (rdT l1).s, (rdT l1).i, ((p' + g.length : Nat) : Int)⟩] i1
        refine ⟨g3, ?_⟩
        rw [g4, List.map_append, List.map_append, i2]
        rfl
end Lex
end Go.Proofs.YtinadbomebgfaaaGreatDoor
