/-
  Layer 8: the law SyntaxNormal.
-/
import Derived.Test.YtinadbomebgfaaaGreatDoorMH3
import Derived.Test.YtinadbomebgfaaaGreatDoorMH4
namespace Go.Proofs.YtinadbomebgfaaaGreatDoor
open Go.RowKit Go.ChangeShapes Go.WideShapes
namespace Lex
theorem toks_p : ∀ (n m p : Nat) (l : Txt), l.length ≤ n → (toks m p l).p ≤ p + l.length := by
  intro n
  induction n with
  | zero =>
    intro m p l h1
    obtain rfl := List.length_eq_zero_iff.1 (Nat.le_zero.1 h1)
    rw [toks_nil]
    exact Nat.zero_le _
  | succ n ih =>
    intro m p l h1
    by_cases hl : l = []
    · subst hl
      rw [toks_nil]
      exact Nat.zero_le _
    by_cases hm : m = 1000
    · subst hm
      rw [toks_full p hl]
      show p ≤ _
      omega
    by_cases he : (rdT l).e = 0
    · have hn := nxt_le he
      have i := ih (m + 1) (p + nxt l) (l.drop (nxt l)) (by rw [List.length_drop]; omega)
      rw [List.length_drop] at i
      rw [toks_step hl hm he]
      unfold addT
      split
      · show (toks _ _ _).p ≤ _
        omega
      · omega
    · rw [toks_bad hl hm he]
      have := rd_n (l := l)
      show p + (rdT l).n ≤ _
      omega
theorem tokens_p (s : Txt) : (tokens s).p ≤ s.length := by
  unfold tokens
  split
  · exact Nat.zero_le _
  · have h1 := toks_p _ 0 (skipN false s) (s.drop (skipN false s)) (Nat.le_refl _)
    have h2 := skip_le false s
    rw [List.length_drop] at h1
    omega
end Lex
namespace Syn
theorem off_le {l : List Lex.Tk} {z : Int} {r : List Ck} (hl : ∀ t ∈ l, Lex.okT t = true ∧ 0 ≤ t.a ∧ t.a < z) (hz : 0 ≤ z) : 0 ≤ offOf l z r ∧ offOf l z r ≤ z := by
  unfold offOf
  cases e : l[l.length - r.length]? with
  | none => exact ⟨hz, Int.le_refl _⟩
  | some t =>
    have := hl t (List.mem_of_getElem? e)
    dsimp only
    omega
/-- Parse comes to an error within the text, or to a program that Check accepts. -/
theorem parse_two (s : ByteArray) (w : World) (hm : Lex.ML w) : Calls Tryz.prog 9 #[.string s] w fun e w' => ((∃ a r : Int, e = .returned (.tuple #[.agg #[.slice none 0 0, .slice none 0 0], .int .i64 a, .int .i64 r]) ∧ r ≠ 0 ∧ 0 ≤ a ∧ a ≤ (s.size : Int)) ∨
    ∃ fs no n nc fo m fc, e = .returned (.tuple #[.agg #[.slice no n nc, .slice fo m fc], .int .i64 0, .int .i64 0]) ∧ chkE (flatF 0 fs) (funcF 0 fs) = 0 ∧ PAt w' no n fo m fs) ∧ Bel w w' := by
  have hsz := Lex.toL_len s
  by_cases he : (Lex.tokens s.toList).e = 0
  · refine (parse_rd s w hm he (20 * (Lex.tokens s.toList).l.length + 1) (Nat.le_refl _)).mono fun e w' k => ?_
    obtain ⟨k1, k2⟩ := k
    refine ⟨?_, k2⟩
    have hf := (Lex.tokens_facts he).2
    rw [hsz] at hf
    cases hX : rdG (20 * (Lex.tokens s.toList).l.length + 1) [] ((Lex.tokens s.toList).l.map Lex.core) with
    | bad r =>
      rw [hX] at k1
      exact Or.inl ⟨_, 1, k1, by decide, (off_le hf (by omega)).1, (off_le hf (by omega)).2⟩
    | ok fs r =>
      rw [hX] at k1
      unfold ParseOk at k1
      dsimp only at k1
      by_cases hc : chkE (flatF 0 fs) (funcF 0 fs) = 0
      · rw [if_pos hc] at k1
        obtain ⟨no, nn, nc, fo, m, fc, rfl, -, -, hN, hF, -, -⟩ := k1
        exact Or.inr ⟨fs, no, nn, nc, fo, m, fc, rfl, hc, hN, hF⟩
      · rw [if_neg hc] at k1
        exact Or.inl ⟨0, _, k1, hc, by omega, by omega⟩
  · refine (parse_lex s w he).mono fun e w' k => ?_
    have := Lex.tokens_p s.toList
    exact ⟨Or.inl ⟨_, _, k.1, he, by omega, by omega⟩, k.2⟩
/-- A printed program's text is parsed as the program. -/
theorem parse_printed (fs : List Fu) (hc : chkE (flatF 0 fs) (funcF 0 fs) = 0) (he : prE fs = 0) (T : ByteArray) (hT : T = ⟨(prT fs).toArray⟩) (w : World) (hm : Lex.ML w) : Calls Tryz.prog 9 #[.string T] w fun e w' => (∃ no n nc fo m fc, e = .returned (.tuple #[.agg #[.slice no n nc, .slice fo m fc], .int .i64 0, .int .i64 0]) ∧ PAt w' no n fo m fs) ∧ Bel w w' := by
  have hg := prog_good hc
  have ht : T.toList = txt (itW fs) := by rw [hT, tlB]; unfold prT; rw [if_pos he]
  have he2 : (Lex.tokens T.toList).e = 0 := by rw [ht]; exact he
  obtain ⟨K, hK⟩ := prog_reads fs hg
  have hck : (Lex.tokens T.toList).l.map Lex.core = cks (itW fs) := by
    rw [ht]
    rcases prog_lex fs hg with h | h
    · exact h.2
    · have : prE fs = 3 := h
      omega
  have h := parse_rd T w hm he2 (K + (20 * (Lex.tokens T.toList).l.length + 1)) (by omega)
  rw [hck, hK _ (by omega)] at h
  refine h.mono fun e w' k => ?_
  obtain ⟨k1, k2⟩ := k
  unfold ParseOk at k1
  dsimp only at k1
  rw [if_pos hc] at k1
  obtain ⟨no, nn, nc, fo, m, fc, rfl, -, -, hN, hF, -, -⟩ := k1
  exact ⟨⟨no, nn, nc, fo, m, fc, rfl, hN, hF⟩, k2⟩
theorem pr_limit {fs : List Fu} (hc : chkE (flatF 0 fs) (funcF 0 fs) = 0) : prE fs = 0 ∨ prE fs = 3 := by
  rcases prog_lex fs (prog_good hc) with h | h
  · exact Or.inl h.1
  · exact Or.inr h
theorem equal_prog (fs : List Fu) (hc : chkE (flatF 0 fs) (funcF 0 fs) = 0) (w : World) (no fo no2 fo2 : Option Addr) (n nc m fc n2 nc2 m2 fc2 : Nat) (h : PAt w no n fo m fs) (h2 : PAt w no2 n2 fo2 m2 fs) : Calls Tryz.prog 22 #[.agg #[.slice no n nc, .slice fo m fc], .agg #[.slice no2 n2 nc2, .slice fo2 m2 fc2]] w fun e w' => e = .returned (.bool true) ∧ Bel w w' := by
  have hn := prog_num hc h
  obtain rfl : n = n2 := by have := h.1.1; have := h2.1.1; omega
  obtain rfl : m = m2 := by have := h.2.1; have := h2.2.1; omega
  have hl := (chk_ok hc).1
  rw [flatF_len] at hl
  refine equal_yes no fo no2 fo2 n nc nc2 m fc fc2 _ _ (by omega) (by omega) (fun x hx => ?_) (fun x hx => by have := ex_wfF hc x hx; omega) w h.1 h.2 h2.1 h2.2
  obtain ⟨-, i2, i3⟩ := flatF_small fs 0 1000 (prog_good hc) (by omega) x hx
  exact ⟨by omega, by omega⟩
theorem print_two (fs : List Fu) (hc : chkE (flatF 0 fs) (funcF 0 fs) = 0) (w : World) (hm : Lex.ML w) (no fo : Option Addr) (n m nc fc : Nat) (h : PAt w no n fo m fs) : Calls Tryz.prog 15 #[.agg #[.slice no n nc, .slice fo m fc]] w fun e w' => e = .returned (.tuple #[.string ⟨(prT fs).toArray⟩, .int .i64 (prE fs)]) ∧ Bel w w' :=
  print_ok no fo n nc m fc fs (prog_good hc) w hm h.1 h.2 (ex_wf hc (prog_good hc)) hc
set_option maxRecDepth 100000 in
set_option maxHeartbeats 8000000 in
theorem law_normal (s : ByteArray) (w : World) (hm : Lex.ML w) : Calls Tryz.prog 7 #[.string s] w fun e w' => e = .returned (.bool true) ∧ Bel w w' := by
  have P1 := Lib.hid (fun W => parse_two s W)
  have HM := Lib.hid hm
  clear hm
  go_enter Tryz.func7, Tryz.ntmps7
  go_wp2_with fail
  refine (P1.out _ HM.out).mono ?_
  rintro e w1 ⟨⟨a, r, rfl, hr, ha1, ha2⟩ | ⟨fs, no, n, nc, fo, m, fc, rfl, hc, hP⟩, g⟩
  · have hne : (r != 0) = true := by simpa using hr
    have hB : Bel w (w1.alloc (.cells #[.slice none 0 0, .slice none 0 0] 25)) := Bel.trans g (Bel.alloc (Bel.refl w1) _)
    have G := Lib.hid hB
    have h1 : (0 ≤ a) = True := eq_true ha1
    have h2 : (a ≤ (s.size : Int)) = True := eq_true ha2
    clear g hB
    go_wp2_with fail
    refine (awake_any _ (HM.out.on G.out)).mono ?_
    rintro e w2 ⟨rfl, g⟩
    have G2 := Lib.hid (Bel.trans G.out g)
    clear g
    go_wp2_with fail
    go_ret
    exact ⟨rfl, G2.out⟩
  · have B1 := Bel.alloc (Bel.refl w1) (.cells #[.slice no n nc, .slice fo m fc] 25)
    obtain ⟨V, hV⟩ : ∃ V, w1.alloc (.cells #[.slice no n nc, .slice fo m fc] 25) = V := ⟨_, rfl⟩
    have B1 : Bel w1 V := by rw [← hV]; exact B1
    have b0 : V.cell? ⟨w1.heap.size, 0, none⟩ = some (.slice no n nc) := by rw [← hV]; exact World.cell?_alloc_new ..
    have b1 : V.cell? ⟨w1.heap.size, 1, none⟩ = some (.slice fo m fc) := by rw [← hV]; exact World.cell?_alloc_new ..
    have G1 := Lib.hid (Bel.trans g B1)
    have HP := Lib.hid (hP.on B1)
    have HV := Lib.hid hV
    have HC := Lib.hid hc
    clear g B1 hV hP hc
    go_wp2_with fail
    rw [HV.out]
    refine (check_prog fs HC.out _ (HM.out.on G1.out) _ _ _ _ _ _ HP.out).mono ?_
    rintro e w2 ⟨rfl, g⟩
    have b0 := g.cell' b0
    have b1 := g.cell' b1
    have G2 := Lib.hid (Bel.trans G1.out g)
    have HP2 := Lib.hid (HP.out.on g)
    clear g
    go_wp2_with fail
    refine (print_two fs HC.out _ (HM.out.on G2.out) _ _ _ _ _ _ HP2.out).mono ?_
    rintro e w3 ⟨rfl, g⟩
    have b0 := g.cell' b0
    have b1 := g.cell' b1
    have G3 := Lib.hid (Bel.trans G2.out g)
    have HP3 := Lib.hid (HP2.out.on g)
    clear g
    obtain ⟨T, hT⟩ : ∃ T : ByteArray, ⟨(prT fs).toArray⟩ = T := ⟨_, rfl⟩
    rw [hT]
    rcases pr_limit HC.out with h0 | h3
    · have Q := Lib.hid (fun W => parse_printed fs HC.out h0 T hT.symm W)
      have Q2 := Lib.hid (fun W => print_two fs HC.out W)
      rw [hT, h0] at Q2
      rw [h0]
      clear hT
      go_wp2_with fail
      refine (Q.out _ (HM.out.on G3.out)).mono ?_
      rintro e w4 ⟨⟨no2, n2, nc2, fo2, m2, fc2, rfl, hP⟩, g⟩
      have b0 := g.cell' b0
      have b1 := g.cell' b1
      have B4 := Bel.alloc (Bel.refl w4) (.cells #[.slice no2 n2 nc2, .slice fo2 m2 fc2] 25)
      obtain ⟨V4, hV4⟩ : ∃ V, w4.alloc (.cells #[.slice no2 n2 nc2, .slice fo2 m2 fc2] 25) = V := ⟨_, rfl⟩
      have B4 : Bel w4 V4 := by rw [← hV4]; exact B4
      have b0 := B4.cell' b0
      have b1 := B4.cell' b1
      have d0 : V4.cell? ⟨w4.heap.size, 0, none⟩ = some (.slice no2 n2 nc2) := by rw [← hV4]; exact World.cell?_alloc_new ..
      have d1 : V4.cell? ⟨w4.heap.size, 1, none⟩ = some (.slice fo2 m2 fc2) := by rw [← hV4]; exact World.cell?_alloc_new ..
      have G4 := Lib.hid (Bel.trans G3.out (Bel.trans g B4))
      have HP4 := Lib.hid ((HP3.out.on g).on B4)
      have HQ4 := Lib.hid (hP.on B4)
      have HV4 := Lib.hid hV4
      clear g B4 hV4 hP
      go_wp2_with fail
      rw [HV4.out]
      refine (Q2.out _ (HM.out.on G4.out) _ _ _ _ _ _ HQ4.out).mono ?_
      rintro e w5 ⟨rfl, g⟩
      have b0 := g.cell' b0
      have b1 := g.cell' b1
      have d0 := g.cell' d0
      have d1 := g.cell' d1
      have G5 := Lib.hid (Bel.trans G4.out g)
      have HP5 := Lib.hid (HP4.out.on g)
      have HQ5 := Lib.hid (HQ4.out.on g)
      clear g
      go_wp2_with fail
      refine (equal_prog fs HC.out _ _ _ _ _ _ _ _ _ _ _ _ _ HP5.out HQ5.out).mono ?_
      rintro e w6 ⟨rfl, g⟩
      have G6 := Lib.hid (Bel.trans G5.out g)
      clear g
      go_wp2_with fail
      refine (awake_any _ (HM.out.on G6.out)).mono ?_
      rintro e w7 ⟨rfl, g⟩
      have G7 := Lib.hid (Bel.trans G6.out g)
      clear g
      go_wp2_with fail
      go_ret
      exact ⟨by simp, G7.out⟩
    · rw [h3]
      clear hT
      go_wp2_with fail
      refine (awake_any _ (HM.out.on G3.out)).mono ?_
      rintro e w4 ⟨rfl, g⟩
      have G4 := Lib.hid (Bel.trans G3.out g)
      clear g
      go_wp2_with fail
      go_ret
      exact ⟨rfl, G4.out⟩
end Syn
end Go.Proofs.YtinadbomebgfaaaGreatDoor
