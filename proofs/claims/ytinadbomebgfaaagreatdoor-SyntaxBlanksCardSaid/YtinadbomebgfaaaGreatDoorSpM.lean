/-
  Layer 8: the law SyntaxBlanks.
-/
import Derived.Test.YtinadbomebgfaaaGreatDoorSpL
namespace Go.Proofs.YtinadbomebgfaaaGreatDoor
open Go.RowKit Go.ChangeShapes Go.WideShapes
namespace Lex
theorem spread_core : ∀ (l : List Tk) (p : Nat), (spread p l).map core = l.map core
  | [], _ => rfl
  | t :: r, p => by
    rw [spread, List.map_cons, List.map_cons, spread_core r]
    rfl
theorem all_ok {l : List Tk} (h : ∀ t ∈ l, okT t = true) : l.all okT = true := by
  rw [List.all_eq_true]
  exact h
theorem join_err {l : List Tk} (h : l.all okT = true) : joinE l = 0 ∨ joinE l = 3 := by
  unfold joinE
  split
  · exact Or.inr rfl
  rw [if_neg (by rw [h]; decide)]
  split
  · exact Or.inr rfl
  · exact Or.inl rfl
theorem ok_sml {t : Tk} (h : okT t = true) : (-9223372036854775808 ≤ t.i ∧ t.i ≤ 9223372036854775807) ∧ t.s.length ≤ 1000 := by
  have hl := (ok_len h).1
  refine ⟨?_, by omega⟩
  obtain ⟨k, s, i, a⟩ := t
  unfold okT at h
  dsimp only at h ⊢
  split at h
  · simp at h; omega
  split at h
  · simp at h; omega
  split at h
  · simp at h; omega
  split at h
  · simp at h; omega
  split at h
  · simp at h; omega
  split at h
  · simp at h; omega
  · cases h
end Lex
namespace Syn
theorem pAt_nil (w : World) : PAt w none 0 none 0 [] := ⟨⟨rfl, fun h => absurd h (Nat.lt_irrefl 0)⟩, ⟨rfl, fun h => absurd h (Nat.lt_irrefl 0)⟩⟩
/-- What both texts come to, where their tokens are the same: the same error and no program, or the same program. -/
def Both (X : RR (List Fu)) (w' : World) (e : Ending) : Prop := match X with
  | .bad _ => ∃ a : Int, e = .returned (.tuple #[.agg #[.slice none 0 0, .slice none 0 0], .int .i64 a, .int .i64 1])
  | .ok fs _ => if chkE (flatF 0 fs) (funcF 0 fs) = 0 then ∃ no n nc fo m fc, e = .returned (.tuple #[.agg #[.slice no n nc, .slice fo m fc], .int .i64 0, .int .i64 0]) ∧ PAt w' no n fo m fs
    else e = .returned (.tuple #[.agg #[.slice none 0 0, .slice none 0 0], .int .i64 0, .int .i64 (chkE (flatF 0 fs) (funcF 0 fs))])
theorem ok_both {l : List Lex.Tk} {z : Int} {X : RR (List Fu)} {w' : World} {e : Ending} (h : ParseOk l z X w' e) : Both X w' e := by
  unfold ParseOk at h
  unfold Both
  cases X with
  | bad r => exact ⟨_, h⟩
  | ok fs r =>
    dsimp only at h ⊢
    by_cases hc : chkE (flatF 0 fs) (funcF 0 fs) = 0
    · rw [if_pos hc] at h ⊢
      obtain ⟨no, nn, nc, fo, m, fc, rfl, -, -, hN, hF, -, -⟩ := h
      exact ⟨no, nn, nc, fo, m, fc, rfl, hN, hF⟩
    · rw [if_neg hc] at h ⊢
      exact h
/-- In three ways: no program and an error, twice the same. -/
theorem both_ways {X : RR (List Fu)} : (∃ r : Int, r ≠ 0 ∧ ∀ w' e, Both X w' e → ∃ a : Int, e = .returned (.tuple #[.agg #[.slice none 0 0, .slice none 0 0], .int .i64 a, .int .i64 r])) ∨ ∃ fs, chkE (flatF 0 fs) (funcF 0 fs) = 0 ∧ ∀ w' e, Both X w' e → ∃ no n nc fo m fc, e = .returned (.tuple #[.agg #[.slice no n nc, .slice fo m fc], .int .i64 0, .int .i64 0]) ∧ PAt w' no n fo m fs := by
  cases X with
  | bad r => exact Or.inl ⟨1, by decide, fun w' e h => h⟩
  | ok fs r =>
    by_cases hc : chkE (flatF 0 fs) (funcF 0 fs) = 0
    · refine Or.inr ⟨fs, hc, fun w' e h => ?_⟩
      unfold Both at h
      dsimp only at h
      rw [if_pos hc] at h
      exact h
    · refine Or.inl ⟨_, hc, fun w' e h => ?_⟩
      unfold Both at h
      dsimp only at h
      rw [if_neg hc] at h
      exact ⟨0, h⟩
theorem equal_nil (w : World) : Calls Tryz.prog 22 #[.agg #[.slice none 0 0, .slice none 0 0], .agg #[.slice none 0 0, .slice none 0 0]] w fun e w' => e = .returned (.bool true) ∧ Bel w w' :=
  equal_yes none none none none 0 0 0 0 0 0 [] [] (by decide) (by decide) (fun x hx => by cases hx) (fun x hx => by cases hx) w (pAt_nil w).1 (pAt_nil w).2 (pAt_nil w).1 (pAt_nil w).2
set_option maxRecDepth 100000 in
set_option maxHeartbeats 8000000 in
theorem law_blanks (s : ByteArray) (w : World) (hm : Lex.ML w) : Calls Tryz.prog 8 #[.string s] w fun e w' => e = .returned (.bool true) ∧ Bel w w' := by
  have HM := Lib.hid hm
  have HT := Lib.hid (fun W => Lex.tokens_any s W)
  by_cases he : (Lex.tokens s.toList).e = 0
  · obtain ⟨hn, hf⟩ := Lex.tokens_facts he
    have hall := Lex.all_ok (fun t ht => (hf t ht).1)
    obtain ⟨f, hf1, hf2⟩ : ∃ f, 20 * (Lex.tokens s.toList).l.length + 1 ≤ f ∧ 20 * (Lex.tokens s.toList).l.length + 1 ≤ f := ⟨_, Nat.le_refl _, Nat.le_refl _⟩
    have HP := Lib.hid (fun W hW => parse_rd s W hW he f hf1)
    have HJ := Lib.hid (fun (o : Option Addr) (n c : Nat) (hn : n ≤ 1000000) W hW hA => Lex.join_any (Lex.tokens s.toList).l o n c hn (fun t ht => Lex.ok_sml (hf t ht).1) W hW hA)
    have HL := Lib.hid hn
    obtain ⟨X, hX⟩ : ∃ X, rdG f [] ((Lex.tokens s.toList).l.map Lex.core) = X := ⟨_, rfl⟩
    rw [hX] at HP
    have hP2 : Lex.joinE (Lex.tokens s.toList).l = 0 → ∀ (T : ByteArray), T = ⟨(Lex.joinT (Lex.tokens s.toList).l).toArray⟩ → ∀ W, Lex.ML W → Calls Tryz.prog 9 #[.string T] W fun e w' => Both X w' e ∧ Bel W w' := fun h0 T hT W hW => by
      obtain ⟨j1, -⟩ := Lex.tokens_join h0
      have ht : T.toList = Lex.joinT (Lex.tokens s.toList).l := by rw [hT, tlB]
      have := parse_rd T W hW (by rw [ht, j1]) f (by rw [ht, j1]; dsimp only; rw [Lex.spread_len]; exact hf1)
      rw [ht, j1] at this
      dsimp only at this
      rw [Lex.spread_core, hX] at this
      exact this.mono fun e w' k => ⟨ok_both k.1, k.2⟩
    have HP2 := Lib.hid hP2
    have hj := Lex.join_err hall
    generalize Lex.tokens s.toList = R at *
    clear hm hX hP2 hf hn hall
    go_enter Tryz.func8, Tryz.ntmps8
    go_wp2_with fail
    refine (HP.out _ HM.out).mono ?_
    rintro e w1 ⟨hk, g⟩
    have hk2 := ok_both hk
    obtain ⟨J, hJ⟩ : ∃ J : ByteArray, ⟨(Lex.joinT R.l).toArray⟩ = J := ⟨_, rfl⟩
    have HJJ := Lib.hid hJ
    rw [hJ] at HJ
    rcases both_ways (X := X) with ⟨r, hr, hw⟩ | ⟨fs, hc, hw⟩
    · obtain ⟨a, rfl⟩ := hw _ _ hk2
      have HW := Lib.hid hw
      have B1 := Bel.alloc (Bel.refl w1) (.cells #[.slice none 0 0, .slice none 0 0] 25)
      obtain ⟨V, hV⟩ : ∃ V, w1.alloc (.cells #[.slice none 0 0, .slice none 0 0] 25) = V := ⟨_, rfl⟩
      have B1 : Bel w1 V := by rw [← hV]; exact B1
      have b0 : V.cell? ⟨w1.heap.size, 0, none⟩ = some (.slice none 0 0) := by rw [← hV]; exact World.cell?_alloc_new ..
      have b1 : V.cell? ⟨w1.heap.size, 1, none⟩ = some (.slice none 0 0) := by rw [← hV]; exact World.cell?_alloc_new ..
      have G1 := Lib.hid (Bel.trans g B1)
      have HV := Lib.hid hV
      have hrr : (r == r) = true := by simp
      clear hk hk2 hJ hw g B1 hV
      go_wp2_with fail
      rw [HV.out]
      refine (HT.out _).mono ?_
      rintro e w2 ⟨⟨o, n, c, rfl, hA, -, -⟩, g⟩
      have b0 := g.cell' b0
      have b1 := g.cell' b1
      have G2 := Lib.hid (Bel.trans G1.out g)
      have hnn : n ≤ 1000000 := by have := hA.1; have := HL.out; omega
      have HA := Lib.hid hA
      rw [he]
      clear g hA
      go_wp2_with fail
      refine (HJ.out o n c hnn _ (HM.out.on G2.out) HA.out).mono ?_
      rintro e w3 ⟨rfl, g⟩
      have b0 := g.cell' b0
      have b1 := g.cell' b1
      have G3 := Lib.hid (Bel.trans G2.out g)
      clear g
      rcases hj with h0 | h3
      · have Q := Lib.hid (HP2.out h0 J HJJ.out.symm)
        rw [h0]
        go_wp2_with fail
        refine (Q.out _ (HM.out.on G3.out)).mono ?_
        rintro e w4 ⟨hq, g⟩
        obtain ⟨a2, rfl⟩ := HW.out _ _ hq
        have b0 := g.cell' b0
        have b1 := g.cell' b1
        have B4 := Bel.alloc (Bel.refl w4) (.cells #[.slice none 0 0, .slice none 0 0] 25)
        obtain ⟨V4, hV4⟩ : ∃ V, w4.alloc (.cells #[.slice none 0 0, .slice none 0 0] 25) = V := ⟨_, rfl⟩
        have B4 : Bel w4 V4 := by rw [← hV4]; exact B4
        have b0 := B4.cell' b0
        have b1 := B4.cell' b1
        have d0 : V4.cell? ⟨w4.heap.size, 0, none⟩ = some (.slice none 0 0) := by rw [← hV4]; exact World.cell?_alloc_new ..
        have d1 : V4.cell? ⟨w4.heap.size, 1, none⟩ = some (.slice none 0 0) := by rw [← hV4]; exact World.cell?_alloc_new ..
        have G4 := Lib.hid (Bel.trans G3.out (Bel.trans g B4))
        have HV4 := Lib.hid hV4
        clear g B4 hV4 hq
        go_upto_region 9 with (fail)
        rw [HV4.out]
        go_wp2_with fail
        refine (equal_nil _).mono ?_
        rintro e w5 ⟨rfl, g⟩
        have G5 := Lib.hid (Bel.trans G4.out g)
        clear g
        go_wp2_with fail
        refine (awake_any _ (HM.out.on G5.out)).mono ?_
        rintro e w6 ⟨rfl, g⟩
        have G6 := Lib.hid (Bel.trans G5.out g)
        clear g
        go_wp2_with fail
        go_ret
        exact ⟨rfl, G6.out⟩
      · rw [h3]
        go_wp2_with fail
        refine (awake_any _ (HM.out.on G3.out)).mono ?_
        rintro e w4 ⟨rfl, g⟩
        have G4 := Lib.hid (Bel.trans G3.out g)
        clear g
        go_wp2_with fail
        go_ret
        exact ⟨rfl, G4.out⟩
    · obtain ⟨no, pn, nc, fo, m, fc, rfl, hP⟩ := hw _ _ hk2
      have HW := Lib.hid hw
      have HC := Lib.hid hc
      have B1 := Bel.alloc (Bel.refl w1) (.cells #[.slice no pn nc, .slice fo m fc] 25)
      obtain ⟨V, hV⟩ : ∃ V, w1.alloc (.cells #[.slice no pn nc, .slice fo m fc] 25) = V := ⟨_, rfl⟩
      have B1 : Bel w1 V := by rw [← hV]; exact B1
      have b0 : V.cell? ⟨w1.heap.size, 0, none⟩ = some (.slice no pn nc) := by rw [← hV]; exact World.cell?_alloc_new ..
      have b1 : V.cell? ⟨w1.heap.size, 1, none⟩ = some (.slice fo m fc) := by rw [← hV]; exact World.cell?_alloc_new ..
      have G1 := Lib.hid (Bel.trans g B1)
      have HP1 := Lib.hid (hP.on B1)
      have HV := Lib.hid hV
      clear hk hk2 hJ hw g B1 hV hP hc
      go_wp2_with fail
      rw [HV.out]
      refine (HT.out _).mono ?_
      rintro e w2 ⟨⟨o, n, c, rfl, hA, -, -⟩, g⟩
      have b0 := g.cell' b0
      have b1 := g.cell' b1
      have G2 := Lib.hid (Bel.trans G1.out g)
      have HP2' := Lib.hid (HP1.out.on g)
      have hnn : n ≤ 1000000 := by have := hA.1; have := HL.out; omega
      have HA := Lib.hid hA
      rw [he]
      clear g hA
      go_wp2_with fail
      refine (HJ.out o n c hnn _ (HM.out.on G2.out) HA.out).mono ?_
      rintro e w3 ⟨rfl, g⟩
      have b0 := g.cell' b0
      have b1 := g.cell' b1
      have G3 := Lib.hid (Bel.trans G2.out g)
      have HP3 := Lib.hid (HP2'.out.on g)
      clear g
      rcases hj with h0 | h3
      · have Q := Lib.hid (HP2.out h0 J HJJ.out.symm)
        rw [h0]
        go_wp2_with fail
        refine (Q.out _ (HM.out.on G3.out)).mono ?_
        rintro e w4 ⟨hq, g⟩
        obtain ⟨no2, n2, nc2, fo2, m2, fc2, rfl, hP⟩ := HW.out _ _ hq
        have b0 := g.cell' b0
        have b1 := g.cell' b1
        have B4 := Bel.alloc (Bel.refl w4) (.cells #[.slice no2 n2 nc2, .slice fo2 m2 fc2] 25)
        obtain ⟨V4, hV4⟩ : ∃ V, w4.alloc (.cells #[.slice no2 n2 nc2, .slice fo2 m2 fc2] 25) = V := ⟨_, rfl⟩
        have B4 : Bel w4 V4 := by rw [← hV4]; exact B4
        have b0 := B4.cell' b0
        have b1 := B4.cell' b1
        have d0 : V4.cell? ⟨w4.heap.size, 0, none⟩ = some (.slice no2 n2 nc2) := by rw [← hV4]; exact World.cell?_alloc_new ..
        have d1 : V4.cell? ⟨w4.heap.size, 1, none⟩ = some (.slice fo2 m2 fc2) := by rw [← hV4]; exact World.cell?_alloc_new ..
        have G4 := Lib.hid (Bel.trans G3.out (Bel.trans g B4))
        have HP4 := Lib.hid ((HP3.out.on g).on B4)
        have HQ4 := Lib.hid (hP.on B4)
        have HV4 := Lib.hid hV4
        clear g B4 hV4 hq hP
        go_upto_region 9 with (fail)
        rw [HV4.out]
        go_wp2_with fail
        refine (equal_prog fs HC.out _ _ _ _ _ _ _ _ _ _ _ _ _ HP4.out HQ4.out).mono ?_
        rintro e w5 ⟨rfl, g⟩
        have G5 := Lib.hid (Bel.trans G4.out g)
        clear g
        go_wp2_with fail
        refine (awake_any _ (HM.out.on G5.out)).mono ?_
        rintro e w6 ⟨rfl, g⟩
        have G6 := Lib.hid (Bel.trans G5.out g)
        clear g
        go_wp2_with fail
        go_ret
        exact ⟨rfl, G6.out⟩
      · rw [h3]
        go_wp2_with fail
        refine (awake_any _ (HM.out.on G3.out)).mono ?_
        rintro e w4 ⟨rfl, g⟩
        have G4 := Lib.hid (Bel.trans G3.out g)
        clear g
        go_wp2_with fail
        go_ret
        exact ⟨rfl, G4.out⟩
  · have HP := Lib.hid (fun W => parse_lex s W he)
    have hne : ((Lex.tokens s.toList).e != 0) = true := by simpa using he
    generalize Lex.tokens s.toList = R at *
    have hrr : (R.e == R.e) = true := by simp
    clear hm
    go_enter Tryz.func8, Tryz.ntmps8
    go_wp2_with fail
    refine (HP.out _).mono ?_
    rintro e w1 ⟨rfl, g⟩
    have G := Lib.hid (show Bel w (w1.alloc (.cells #[.slice none 0 0, .slice none 0 0] 25)) from Bel.trans g (Bel.alloc (Bel.refl w1) _))
    clear g
    go_wp2_with fail
    refine (HT.out _).mono ?_
    rintro e w2 ⟨⟨o, n, c, rfl, -, -, -⟩, g⟩
    have G2 := Lib.hid (Bel.trans G.out g)
    clear g
    go_wp2_with fail
    refine (awake_any _ (HM.out.on G2.out)).mono ?_
    rintro e w3 ⟨rfl, g⟩
    have G3 := Lib.hid (Bel.trans G2.out g)
    clear g
    go_wp2_with fail
    go_ret
    exact ⟨rfl, G3.out⟩
end Syn
end Go.Proofs.YtinadbomebgfaaaGreatDoor
