/-
  Layer 7: the law LexOffsets.
-/
import Derived.Test.YtghjflmanldjlaaDoorLexZ
namespace Go.Proofs.YtghjflmanldjlaaDoor
open Go.RowKit Go.ChangeShapes Go.WideShapes
namespace Lex

theorem placed_step {s : Txt} {L : List Tk} {q k : Nat} (h : k < L.length) (hp : Placed s q (L.drop k)) : ∃ p : Nat, L[k].a = p ∧ q ≤ p ∧ okT L[k] = true ∧ p + (wrt L[k]).length ≤ s.length ∧ (s.drop p).take (wrt L[k]).length = wrt L[k] ∧ Placed s (p + (wrt L[k]).length) (L.drop (k + 1)) := by
  rw [List.drop_eq_getElem_cons h] at hp
  exact hp
theorem ok_int {t : Tk} (h : okT t = true) : -9223372036854775808 ≤ t.i ∧ t.i ≤ 9223372036854775807 := by
  obtain ⟨k, s, i, a⟩ := t
  unfold okT at h
  dsimp only at h ⊢
  by_cases h3 : k = 3
  · subst h3
    rw [if_neg (by decide), if_neg (by decide), if_neg (by decide), if_neg (by decide), if_pos rfl, Bool.and_eq_true, Bool.and_eq_true, decide_eq_true_eq, decide_eq_true_eq] at h
    omega
  · have h0 : i = 0 := by
      repeat' split at h
      all_goals first | (rw [Bool.and_eq_true, beq_iff_eq] at h; exact h.1) | (exfalso; omega) | cases h
    omega
set_option maxRecDepth 100000 in
set_option maxHeartbeats 4000000 in
theorem law_offsets (s : ByteArray) (w : World) (hm : ML w) : Calls Tryd.prog 7 #[.string s] w fun e w' => e = .returned (.bool true) ∧ Bel w w' := by
  have HM := Lib.hid hm
  have G := Lib.hid (Bel.refl w)
  clear hm
  by_cases h5 : 5000 < s.size
  · go_enter Tryd.func7, Tryd.ntmps7
    go_wp2_with (go_at_call 9; ((with_reducible refine (awake_any _ (HM.out.on G.out)).mono ?_); rintro e w' ⟨rfl, g⟩; replace G := Lib.hid (Bel.trans G.out g); clear g))
    go_ret
    exact ⟨rfl, G.out⟩
  have H1 := Lib.hid (fun w => tokens_any s w)
  by_cases he : (tokens s.toList).e = 0
  · have hlen := tokens_len he
    have hpl : Hid (Placed s.toList 0 ((tokens s.toList).l.drop 0)) := Lib.hid (tokens_placed he)
    generalize tokens s.toList = R at *
    have heb : (R.e != 0) = false := by simpa using he
    clear he
    go_enter Tryd.func7, Tryd.ntmps7
    go_wp2_with fail
    refine (H1.out _).mono ?_
    rintro e w1 ⟨⟨o, n, c, rfl, hA, hc, hfr⟩, g1⟩
    have A1 := Lib.hid hA
    have G1 := Lib.hid g1
    have HLn := Lib.hid hA.1
    rw [hA.1] at hlen
    clear hA hc hfr g1 G H1
    go_wp2
    go_loopw [6, 7, 8, 9, 40] (fun a _ _ _ i wr => ∃ k q : Nat, i = .int .i64 (k : Int) ∧ a = .int .i64 (q : Int) ∧ k ≤ n ∧ q ≤ s.size ∧ Hid (Placed s.toList q (R.l.drop k)) ∧ Hid (TArg wr o n R.l) ∧ Hid (Bel w wr)) (fun _ _ _ _ i _ => n - (intOf i).toNat)
    case atStart => exact ⟨0, 0, rfl, rfl, Nat.zero_le _, Nat.zero_le _, hpl, A1, G1⟩
    case round =>
      obtain ⟨k, q, rfl, rfl, hk, hqs, hP, hAr, hB⟩ := hrel
      clear hpl A1 G1
      by_cases hq : k < n
      · have hkl : k < R.l.length := by rw [HLn.out]; exact hq
        obtain ⟨p, p1, p2, p3, p4, p5, p6⟩ := placed_step hkl hP.out
        obtain ⟨b, f, rfl, hcells⟩ := hAr.out.2 (by omega)
        obtain ⟨x1, x2, x3, x4⟩ := hcells k hkl
        have hi := ok_int p3
        obtain ⟨⟨tk, ts, ti, ta⟩, ht⟩ : ∃ t, R.l[k] = t := ⟨_, rfl⟩
        rw [ht] at x1 x2 x3 x4 p1 p3 p4 p5 p6 hi
        dsimp only at x1 x2 x3 x4 p1 hi
        subst p1
        obtain ⟨S, hS⟩ : ∃ S : ByteArray, ⟨ts.toArray⟩ = S := ⟨_, rfl⟩
        have hSl : ts = S.toList := by rw [← hS]; exact (tl _).symm
        rw [hS] at x2
        rw [hSl] at p3 p4 p5 p6
        have hsz := (ok_len p3).1
        dsimp only at hsz
        rw [toL_len] at hsz p4
        obtain ⟨y1, y2⟩ := txt_yes p3
        have HT := Lib.hid (fun w hm => text_any tk ti (p : Int) S hi (by omega) w hm)
        rw [y1, y2] at HT
        have hsl := fun w => cutS s p (p + (wrt ⟨tk, S.toList, ti, (p : Int)⟩).length) (p : Int) ((p + (wrt ⟨tk, S.toList, ti, (p : Int)⟩).length : Nat) : Int) rfl rfl (by omega) p4 w
        rw [Nat.add_sub_cancel_left, p5] at hsl
        obtain ⟨X, hX⟩ : ∃ X : ByteArray, ⟨(wrt ⟨tk, S.toList, ti, (p : Int)⟩).toArray⟩ = X := ⟨_, rfl⟩
        have hXl : wrt ⟨tk, S.toList, ti, (p : Int)⟩ = X.toList := by rw [← hX]; exact (tl _).symm
        rw [hX] at HT hsl
        rw [hXl, toL_len] at p4 p6 hsl
        rw [Int.natCast_add] at hsl
        have hP2 := Lib.hid p6
        clear hP hcells p3 p5 p6 hi ht hS hSl y1 y2 hX hXl hkl hsz
        go_wp2_with fail
        refine (HT.out _ (HM.out.on hB.out)).mono ?_
        rintro e w4 ⟨rfl, g1⟩
        have x5 := g1.cell x4
        have hA4 := Lib.hid (hAr.out.on g1)
        have G4 := Lib.hid (Bel.trans hB.out g1)
        have d1 : decide (p < q) = false := by simp; omega
        have d2 : IntKind.i64.wrap ((p : Int) + (X.size : Int)) = (p : Int) + (X.size : Int) := by rw [IntKind.wrap_i64]; omega
        have d3 : decide ((s.size : Int) < (p : Int) + (X.size : Int)) = false := by simp; omega
        have d4 : (X.toList != X.toList) = false := by simp
        clear g1 hB hAr HT x1 x2 x3 x4
        go_wp2_with fail
        go_quiet (fail)
        go_wp2_with fail
        go_roundw
        case rel => exact ⟨k + 1, p + X.size, by go_num, by go_num, by omega, by omega, hP2, Lib.hid (hA4.out.on (Bel.drewN (Bel.refl _) _)), Lib.hid (Bel.drewN G4.out _)⟩
        case measure => simp [intOf]; omega
      · have G := hB
        clear hB
        go_wp2_with (go_at_call 9; ((with_reducible refine (awake_any _ (HM.out.on G.out)).mono ?_); rintro e w' ⟨rfl, g⟩; replace G := Lib.hid (Bel.trans G.out g); clear g))
        go_ret
        exact ⟨rfl, G.out⟩
  · obtain ⟨hnil, hp⟩ := tokens_bad he
    rw [toL_len] at hp
    generalize tokens s.toList = R at *
    have heb : (R.e != 0) = true := by simpa using he
    clear he
    go_enter Tryd.func7, Tryd.ntmps7
    go_wp2_with fail
    refine (H1.out _).mono ?_
    rintro e w1 ⟨⟨o, n, c, rfl, hA, hc, hfr⟩, g1⟩
    obtain rfl : n = 0 := by rw [← hA.1, hnil]; rfl
    replace G := Lib.hid g1
    have d1 : decide ((R.p : Int) ≤ (s.size : Int)) = true := by simp; omega
    clear hA hc hfr g1 H1
    go_wp2_with (go_at_call 9; ((with_reducible refine (awake_any _ (HM.out.on G.out)).mono ?_); rintro e w' ⟨rfl, g⟩; replace G := Lib.hid (Bel.trans G.out g); clear g))
    go_ret
    exact ⟨rfl, G.out⟩
end Lex
end Go.Proofs.YtghjflmanldjlaaDoor
