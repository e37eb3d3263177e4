/-
  Layer 7: the laws LexWords, LexTokens, LexTexts.
-/
import Derived.Test.YtghjflmanldjlaaDoorLexY
namespace Go.Proofs.YtghjflmanldjlaaDoor
open Go.RowKit Go.ChangeShapes Go.WideShapes
namespace Lex

theorem law_words (s : ByteArray) (w : World) (hm : ML w) : Calls Tryd.prog 5 #[.string s] w fun e w' => e = .returned (.bool true) ∧ Bel w w' := by
  have H1 := Lib.hid (fun w => keyword_any s w)
  have H2 := Lib.hid (fun w => rkeyword_any s w)
  have H3 := Lib.hid (fun w => symbol_any s w)
  have H4 := Lib.hid (fun w => rSymbol_any s w)
  generalize wordB s.toList = a at *
  generalize symB s.toList = b at *
  have HM := Lib.hid hm
  have G := Lib.hid (Bel.refl w)
  clear hm
  cases a <;> cases b
  all_goals
    go_enter Tryd.func5, Tryd.ntmps5
    go_wp2_with (first | (go_at_call 18; ((with_reducible refine (H1.out _).mono ?_); rintro e w' ⟨rfl, rfl⟩)) | (go_at_call 19; ((with_reducible refine (H2.out _).mono ?_); rintro e w' ⟨rfl, rfl⟩)) | (go_at_call 20; ((with_reducible refine (H3.out _).mono ?_); rintro e w' ⟨rfl, rfl⟩)) | (go_at_call 21; ((with_reducible refine (H4.out _).mono ?_); rintro e w' ⟨rfl, rfl⟩)) | (go_at_call 9; ((with_reducible refine (awake_any _ (HM.out.on G.out)).mono ?_); rintro e w' ⟨rfl, g⟩; replace G := Lib.hid (Bel.trans G.out g); clear g)))
    go_ret
    exact ⟨rfl, G.out⟩
theorem toks_len : ∀ (n m p : Nat) (l : Txt), l.length ≤ n → (toks m p l).e = 0 → m ≤ 1000 → m + (toks m p l).l.length ≤ 1000 := by
  intro n
  induction n with
  | zero =>
    intro m p l h1 h2 h3
    obtain rfl := List.length_eq_zero_iff.1 (Nat.le_zero.1 h1)
    rw [toks_nil]; exact h3
  | succ n ih =>
    intro m p l h1 h2 h3
    by_cases hl : l = []
    · subst hl; rw [toks_nil]; exact h3
    obtain ⟨hm, he⟩ := toks_cases h2 hl
    have hn := nxt_le he
    rw [toks_step hl hm he] at h2 ⊢
    obtain ⟨g1, g2⟩ := addT_e h2
    have := ih (m + 1) (p + nxt l) (l.drop (nxt l)) (by rw [List.length_drop]; omega) g1 (by omega)
    rw [g2, List.length_append, List.length_singleton]
    omega
theorem tokens_len {s : Txt} (h : (tokens s).e = 0) : (tokens s).l.length ≤ 1000 := by
  unfold tokens at h ⊢
  by_cases h4 : 4000 < s.length
  · rw [if_pos h4] at h; cases h
  rw [if_neg h4] at h ⊢
  have := toks_len _ 0 _ _ (Nat.le_refl _) h (by omega)
  omega
theorem tokens_bad {s : Txt} (h : (tokens s).e ≠ 0) : (tokens s).l = [] ∧ (tokens s).p ≤ s.length := by
  unfold tokens at h ⊢
  by_cases h4 : 4000 < s.length
  · rw [if_pos h4]; exact ⟨rfl, Nat.zero_le _⟩
  rw [if_neg h4] at h ⊢
  have := toks_bad_nil _ 0 _ _ (Nat.le_refl _) h
  have hk := skip_le false s
  rw [List.length_drop] at this
  exact ⟨this.1, by omega⟩
theorem tokens_nil {s : Txt} (h : (tokens s).e ≠ 0) : (tokens s).l = [] := (tokens_bad h).1
set_option maxHeartbeats 1000000 in
theorem law_tokens (s : ByteArray) (w : World) (hm : ML w) : Calls Tryd.prog 3 #[.string s] w fun e w' => e = .returned (.bool true) ∧ Bel w w' := by
  have HM := Lib.hid hm
  have G := Lib.hid (Bel.refl w)
  clear hm
  by_cases h5 : 5000 < s.size
  · go_enter Tryd.func3, Tryd.ntmps3
    go_wp2_with (go_at_call 9; ((with_reducible refine (awake_any _ (HM.out.on G.out)).mono ?_); rintro e w' ⟨rfl, g⟩; replace G := Lib.hid (Bel.trans G.out g); clear g))
    go_ret
    exact ⟨rfl, G.out⟩
  have H1 := Lib.hid (fun w => tokens_any s w)
  have H2 := Lib.hid (fun w => rtokens_any s w (by omega))
  have hlen : Hid ((tokens s.toList).l.length ≤ 1000000) := Lib.hid (by
    by_cases h : (tokens s.toList).e = 0
    · have := tokens_len h; omega
    · rw [tokens_nil h]; exact Nat.zero_le _)
  generalize tokens s.toList = R at *
  go_enter Tryd.func3, Tryd.ntmps3
  go_wp2_with fail
  refine (H1.out _).mono ?_
  rintro e w1 ⟨⟨o, n, c, rfl, hA, hc, hfr⟩, g1⟩
  have A1 := Lib.hid hA
  have G1 := Lib.hid g1
  clear hA hc hfr g1 G
  go_wp2_with fail
  refine (H2.out _).mono ?_
  rintro e w2 ⟨⟨o2, n2, c2, rfl, hA, hc, hfr⟩, g1⟩
  have hn : n = n2 := by rw [← A1.out.1, ← hA.1]
  subst hn
  have A2 := Lib.hid hA
  have A3 := Lib.hid (A1.out.on g1)
  have G2 := Lib.hid (Bel.trans G1.out g1)
  have hnb : n ≤ 1000000 := by have := hlen.out; rw [A1.out.1] at this; exact this
  clear hA hc hfr g1 G1 A1
  go_wp2_with fail
  refine (same_yes R.l R.l o o2 n c c2 true hnb rfl (fun _ => rfl) _ A3.out A2.out).mono ?_
  rintro e w3 ⟨rfl, g1⟩
  have G := Lib.hid (Bel.trans G2.out g1)
  clear g1 G2
  have hpp : (((R.p : Int) == (R.p : Int))) = true := by simp
  have hee : ((R.e == R.e)) = true := by simp
  go_wp2_with (go_at_call 9; ((with_reducible refine (awake_any _ (HM.out.on G.out)).mono ?_); rintro e w' ⟨rfl, g⟩; replace G := Lib.hid (Bel.trans G.out g); clear g))
  go_ret
  exact ⟨rfl, G.out⟩
/-- Whether tokens are gone through. -/
def smallB (L : List Tk) : Bool := decide (L.length ≤ 1100) && L.all fun t => decide (t.s.length ≤ 1000)
theorem small_step (L : List Tk) (k : Nat) (h : k < L.length) : ((L.drop k).all fun t => decide (t.s.length ≤ 1000)) = (decide (L[k].s.length ≤ 1000) && (L.drop (k + 1)).all fun t => decide (t.s.length ≤ 1000)) := by
  rw [List.drop_eq_getElem_cons h, List.all_cons]
set_option maxHeartbeats 1000000 in
theorem small_any (L : List Tk) (o : Option Addr) (n c : Nat) (hn : n ≤ 4611686018427387904) (w : World) (hA : TArg w o n L) :
    Calls Tryd.prog 13 #[.slice o n c] w fun e w' => e = .returned (.bool (smallB L)) ∧ w = w' := by
  obtain ⟨B, hB0⟩ : ∃ B, smallB L = B := ⟨_, rfl⟩
  rw [hB0]
  unfold smallB at hB0
  have hL := hA.1
  rw [hL] at hB0
  by_cases h1 : 1100 < n
  · rw [decide_eq_false (by omega), Bool.false_and] at hB0
    subst hB0
    clear hA hL
    go_enter Tryd.func13, Tryd.ntmps13
    go_wp2
    go_ret
    exact ⟨rfl, rfl⟩
  rw [decide_eq_true (show n ≤ 1100 by omega), Bool.true_and] at hB0
  have hr0 : Hid (((L.drop 0).all fun t => decide (t.s.length ≤ 1000)) = B) := Lib.hid hB0
  have K := Lib.hid hA
  have HLn := Lib.hid hL
  clear hB0 hA hL
  go_enter Tryd.func13, Tryd.ntmps13
  go_wp2
  go_loop [3, 9] (fun _ i => ∃ k : Nat, i = .int .i64 (k : Int) ∧ k ≤ n ∧ Hid (((L.drop k).all fun t => decide (t.s.length ≤ 1000)) = B)) (fun _ i => n - (intOf i).toNat)
  case atStart => exact ⟨0, rfl, Nat.zero_le _, hr0⟩
  case round =>
    obtain ⟨k, rfl, hk, hr⟩ := hrel
    clear hr0
    by_cases hq : k < n
    · obtain ⟨b, f, rfl, hcells⟩ := K.out.2 (by omega)
      have hkl : k < L.length := by rw [HLn.out]; exact hq
      obtain ⟨x1, x2, x3, x4⟩ := hcells k hkl
      have hst := (small_step L k hkl).symm.trans hr.out
      obtain ⟨S, hS⟩ : ∃ S : ByteArray, ⟨L[k].s.toArray⟩ = S := ⟨_, rfl⟩
      have hSz : L[k].s.length = S.size := by rw [← hS, ← toL_len]; rw [show (⟨L[k].s.toArray⟩ : ByteArray).toList = L[k].s from tl _]
      rw [hS] at x2
      rw [hSz] at hst
      by_cases hsz : S.size ≤ 1000
      · rw [decide_eq_true hsz, Bool.true_and] at hst
        have hr2 := Lib.hid hst
        have hsz2 : ¬ 1000 < S.size := by omega
        clear hst hr hS hSz hcells x1 x3 x4 hsz
        go_wp2
        go_round
        case rel => exact ⟨k + 1, by go_num, by omega, hr2⟩
        case measure => simp [intOf]; omega
      · rw [decide_eq_false hsz, Bool.false_and] at hst
        subst hst
        have hsz2 : 1000 < S.size := by omega
        clear hr hS hSz hcells x1 x3 x4 hsz
        go_wp2
        go_ret
        exact ⟨rfl, rfl⟩
    · have hB : true = B := by have := hr.out; rw [List.drop_of_length_le (by rw [HLn.out]; omega)] at this; exact this
      subst hB
      clear hr
      go_wp2
      go_ret
      exact ⟨rfl, rfl⟩
theorem small_sml {L : List Tk} (h : smallB L = true) (hF : ∀ t ∈ L, FitT t) : Sml L ∧ L.length ≤ 1100 := by
  unfold smallB at h
  rw [Bool.and_eq_true, decide_eq_true_eq, List.all_eq_true] at h
  exact ⟨fun t ht => ⟨(hF t ht).2.1, by simpa using h.2 t ht⟩, h.1⟩
set_option maxRecDepth 100000 in
set_option maxHeartbeats 4000000 in
theorem law_texts (k i a : Int) (S : ByteArray) (hi : -9223372036854775808 ≤ i ∧ i ≤ 9223372036854775807) (L : List Tk) (o : Option Addr) (n c : Nat) (hn : n ≤ 4611686018427387904) (hF : ∀ t ∈ L, FitT t) (w : World) (hm : ML w) (hA : TArg w o n L) :
    Calls Tryd.prog 4 #[.agg #[.int .i64 k, .string S, .int .i64 i, .int .i64 a], .slice o n c] w fun e w' => e = .returned (.bool true) ∧ Bel w w' := by
  have B1 := Bel.alloc (Bel.refl w) (.cells #[.int .i64 k, .string S, .int .i64 i, .int .i64 a] 31)
  have K := Lib.hid hA
  have HM := Lib.hid hm
  have G := Lib.hid B1
  have HSm := Lib.hid (small_any L o n c hn _ (hA.on B1))
  cases hsb : smallB L with
  | false =>
    rw [hsb] at HSm
    clear hsb B1 hA hm
    go_enter Tryd.func4, Tryd.ntmps4
    go_wp2_with (first | (go_at_call 13; ((with_reducible refine HSm.out.mono ?_); rintro e w' ⟨rfl, rfl⟩)) | (go_at_call 9; ((with_reducible refine (awake_any _ (HM.out.on G.out)).mono ?_); rintro e w' ⟨rfl, g⟩; replace G := Lib.hid (Bel.trans G.out g); clear g)))
    go_ret
    exact ⟨rfl, G.out⟩
  | true =>
    rw [hsb] at HSm
    by_cases hbig : 1000 < S.size
    · clear hsb B1 hA hm
      go_enter Tryd.func4, Tryd.ntmps4
      go_wp2_with (first | (go_at_call 13; ((with_reducible refine HSm.out.mono ?_); rintro e w' ⟨rfl, rfl⟩)) | (go_at_call 9; ((with_reducible refine (awake_any _ (HM.out.on G.out)).mono ?_); rintro e w' ⟨rfl, g⟩; replace G := Lib.hid (Bel.trans G.out g); clear g)))
      go_ret
      exact ⟨rfl, G.out⟩
    obtain ⟨hsm, hl⟩ := small_sml hsb hF
    rw [hA.1] at hl
    have H1 := Lib.hid (fun w hm => text_any k i a S hi (by omega) w hm)
    have H2 := Lib.hid (fun w => rtextT_any k i a S hi (by omega) w)
    have H3 := Lib.hid (fun w hm hA => join_any L o n c (by omega) hsm w hm hA)
    have H4 := Lib.hid (fun w hA => rjoin_any L o n c (by omega) hsm w hA)
    have T0 := Lib.hid (TkC.new w k i a S 31)
    generalize (⟨(txtT ⟨k, S.toList, i, a⟩).toArray⟩ : ByteArray) = TT at *
    generalize txtE ⟨k, S.toList, i, a⟩ = TE at *
    generalize (⟨(joinT L).toArray⟩ : ByteArray) = JT at *
    generalize joinE L = JE at *
    clear hsb B1 hA hm hsm hi
    go_enter Tryd.func4, Tryd.ntmps4
    go_wp2_with (go_at_call 13; ((with_reducible refine HSm.out.mono ?_); rintro e w' ⟨rfl, rfl⟩))
    refine (H1.out _ (HM.out.on G.out)).mono ?_
    rintro e w1 ⟨rfl, g1⟩
    have G1 := Lib.hid (Bel.trans G.out g1)
    obtain ⟨t1, t2, t3, t4, f1, f2, f3, f4⟩ := T0.out.on g1
    clear g1 G T0
    go_wp2_with fail
    refine (H2.out _).mono ?_
    rintro e w2 ⟨rfl, g1⟩
    have G2 := Lib.hid (Bel.trans G1.out g1)
    clear g1 G1 t1 t2 t3 t4 f1 f2 f3 f4
    go_wp2_with fail
    refine (H3.out _ (HM.out.on G2.out) (K.out.on G2.out)).mono ?_
    rintro e w3 ⟨rfl, g1⟩
    have G3 := Lib.hid (Bel.trans G2.out g1)
    clear g1 G2
    go_wp2_with fail
    refine (H4.out _ (K.out.on G3.out)).mono ?_
    rintro e w4 ⟨rfl, g1⟩
    have G := Lib.hid (Bel.trans G3.out g1)
    clear g1 G3
    have e1 : (TT.toList == TT.toList) = true := by simp
    have e2 : (TE == TE) = true := by simp
    have e3 : (JT.toList == JT.toList) = true := by simp
    have e4 : (JE == JE) = true := by simp
    go_wp2_with (go_at_call 9; ((with_reducible refine (awake_any _ (HM.out.on G.out)).mono ?_); rintro e w' ⟨rfl, g⟩; replace G := Lib.hid (Bel.trans G.out g); clear g))
    go_ret
    exact ⟨rfl, G.out⟩
end Lex
end Go.Proofs.YtghjflmanldjlaaDoor
