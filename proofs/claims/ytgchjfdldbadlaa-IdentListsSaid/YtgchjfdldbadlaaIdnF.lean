/-
  Layer 5, the reference: begins, Matches, Covers.
-/
import Derived.Test.YtgchjfdldbadlaaIdnE
import Derived.Deep.DeepCutAuto
namespace Go.Proofs.Ytgchjfdldbadlaa
open Go.RowKit
namespace Idn

theorem tl (l : List UInt8) : (⟨l.toArray⟩ : ByteArray).toList = l := Go.ByteArray.toList_mk _
theorem cutH (s : ByteArray) (j : Nat) (zj : Int) (hj : zj = (j : Int)) (h2 : j ≤ s.size) (w : World) :
    (Instr.slice 9 (.string s) none (some (.int .i64 zj)) none).run Try.prog w = .ok (.string ⟨(s.toList.take j).toArray⟩) w := by
  subst hj
  rw [run_slice_string_h w 9 s Try.underlying9 .i64 (j : Int) (by omega) (by omega)]
  simp only [Int.toNat_natCast]
  rw [Lib.extract_eq, toL, List.drop_zero, Nat.sub_zero]
theorem cutE (s : ByteArray) (i : Nat) (zi : Int) (hi : zi = (i : Int)) (h : i ≤ s.size) (w : World) :
    (Instr.slice 9 (.string s) (some (.int .i64 zi)) none none).run Try.prog w = .ok (.string ⟨(s.toList.drop i).toArray⟩) w := by
  subst hi
  have h2 := Lib.extract_eq s i s.size
  rw [run_slice_string_l w 9 s Try.underlying9 .i64 (i : Int) (by omega) (by omega)]
  simp only [Int.toNat_natCast]
  rw [h2, ← toL, List.take_of_length_le (by rw [List.length_drop, toL_len]; exact Nat.le_refl _)]
theorem rbegins_any (s p : ByteArray) (w : World) :
    Calls Try.prog 53 #[.string s, .string p] w fun e w' => e = .returned (.bool (p.toList.isPrefixOf s.toList)) ∧ w = w' := by
  have hl := toL_len s
  have hl2 := toL_len p
  by_cases h : p.size ≤ s.size
  · have sl := fun w => cutH s p.size (p.size : Int) rfl h w
    obtain ⟨T, hT⟩ : ∃ T : ByteArray, ⟨(s.toList.take p.size).toArray⟩ = T := ⟨_, rfl⟩
    rw [hT] at sl
    have hTl : T.toList = s.toList.take p.size := by rw [← hT, tl]
    obtain ⟨b, hb⟩ : ∃ b, (T.toList == p.toList) = b := ⟨_, rfl⟩
    have hz := Lib.hid (show p.toList.isPrefixOf s.toList = b by
      rw [← hb, hTl, Bool.eq_iff_iff, List.isPrefixOf_iff_prefix, beq_iff_eq, List.prefix_iff_eq_take, hl2]
      exact eq_comm)
    clear hTl hT hl hl2
    go_enter Try.func53, Try.ntmps53
    go_wp2
    go_ret
    exact ⟨by rw [hz.out]; rfl, rfl⟩
  · have hz := Lib.hid (show p.toList.isPrefixOf s.toList = false by
      cases hb : p.toList.isPrefixOf s.toList with
      | false => rfl
      | true => have := (List.isPrefixOf_iff_prefix.1 hb).length_le; omega)
    clear hl hl2
    go_enter Try.func53, Try.ntmps53
    go_wp2
    go_ret
    exact ⟨by rw [hz.out]; rfl, rfl⟩
theorem pat_size {s : ByteArray} (h : patB s.toList = true) : 1 ≤ s.size ∧ s.size ≤ 64 := by
  rw [← toL_len]
  unfold patB at h
  simp only [Bool.and_eq_true, decide_eq_true_eq] at h
  exact h.1.1
theorem cutLastB (s : ByteArray) (T : ByteArray) (hT : T.toList = s.toList.dropLast) (h : 1 ≤ s.size) (w : World) :
    (Instr.slice 9 (.string s) none (some (.int .i64 ((s.size : Int) - 1))) none).run Try.prog w = .ok (.string T) w := by
  rw [cutH s (s.size - 1) _ (by omega) (by omega) w, ← drop_last, ← hT, toL]
set_option maxHeartbeats 400000 in
theorem rmatches_any (p s : ByteArray) (hp : p.size ≤ maxLen) (w : World) :
    Calls Try.prog 26 #[.string p, .string s] w fun e w' => e = .returned (.bool (matB p.toList s.toList)) ∧ w = w' := by
  cases hP : patB p.toList with
  | false =>
    have hz := Lib.hid (show matB p.toList s.toList = false by unfold matB; rw [hP]; rfl)
    have H := Lib.hid hP
    clear hP
    go_enter Try.func26, Try.ntmps26
    go_wp2_with (go_at_call 15; refine (rpattern_any _ hp _).mono ?_; rintro e w' ⟨rfl, rfl⟩; rw [H.out])
    go_ret
    exact ⟨by rw [hz.out]; rfl, rfl⟩
  | true =>
    obtain ⟨h1, h2⟩ := pat_size hP
    have H := Lib.hid hP
    cases hO : openB p.toList with
    | false =>
      obtain ⟨b, hb⟩ : ∃ b, (s.toList == p.toList) = b := ⟨_, rfl⟩
      have hz := Lib.hid (show matB p.toList s.toList = b by unfold matB; rw [hP, hO, if_neg (by decide), hb]; rfl)
      have H2 := Lib.hid hO
      clear hP hO
      go_enter Try.func26, Try.ntmps26
      go_wp2_with (first | (go_at_call 15; refine (rpattern_any _ hp _).mono ?_; rintro e w' ⟨rfl, rfl⟩; rw [H.out]) | (go_at_call 52; refine (ropen_any _ (by omega) hp _).mono ?_; rintro e w' ⟨rfl, rfl⟩; rw [H2.out]))
      go_ret
      exact ⟨by rw [hz.out]; rfl, rfl⟩
    | true =>
      obtain ⟨T, hT⟩ : ∃ T : ByteArray, T.toList = p.toList.dropLast := ⟨⟨p.toList.dropLast.toArray⟩, tl _⟩
      have sl := fun w => cutLastB p T hT h1 w
      have hz := Lib.hid (show matB p.toList s.toList = T.toList.isPrefixOf s.toList by unfold matB; rw [hP, hO, if_pos rfl, hT]; rfl)
      have H2 := Lib.hid hO
      have hb := Lib.hid (rbegins_any s T)
      generalize T.toList.isPrefixOf s.toList = b at hb hz
      clear hP hO hT
      go_enter Try.func26, Try.ntmps26
      go_wp2_with (first | (go_at_call 15; refine (rpattern_any _ hp _).mono ?_; rintro e w' ⟨rfl, rfl⟩; rw [H.out]) | (go_at_call 52; refine (ropen_any _ (by omega) hp _).mono ?_; rintro e w' ⟨rfl, rfl⟩; rw [H2.out]) | (go_at_call 53; refine (hb.out _).mono ?_; rintro e w' ⟨rfl, rfl⟩))
      go_ret
      exact ⟨by rw [hz.out]; rfl, rfl⟩
theorem turn {P : Program} {f : Nat} {args : Array Value} {w : World} {E : Ending} (h : Calls P f args w fun e w' => e = E ∧ w = w') : Calls P f args w fun e w' => e = E ∧ w' = w := h.mono fun _ _ ⟨he, hw⟩ => ⟨he, hw.symm⟩
theorem cov_no1 {p q : List UInt8} (h : patB p = false) : covB p q = false := by unfold covB; rw [h]; rfl
theorem cov_no2 {p q : List UInt8} (h2 : patB q = false) : covB p q = false := by unfold covB; rw [h2]; simp
theorem cov_shutB {p q : List UInt8} (h : patB p = true) (h2 : patB q = true) (h3 : openB q = false) : covB p q = matB p q := by
  unfold covB
  rw [h, h2, h3, if_neg (by decide)]
  rfl
theorem cov_openB {p q : List UInt8} (h : patB p = true) (h2 : patB q = true) (h3 : openB q = true) : covB p q = (openB p && p.dropLast.isPrefixOf q.dropLast) := by
  unfold covB
  rw [h, h2, h3, if_pos rfl]
  rfl
set_option maxHeartbeats 1000000 in
theorem rcovers_any (p q : ByteArray) (hp : p.size ≤ maxLen) (hq : q.size ≤ maxLen) (w : World) :
    Calls Try.prog 28 #[.string p, .string q] w fun e w' => e = .returned (.bool (covB p.toList q.toList)) ∧ Bel w w' := by
  have HP := Lib.hid (rpattern_any p hp)
  have HQ := Lib.hid (rpattern_any q hq)
  cases hP : patB p.toList with
  | false =>
    have hz := Lib.hid (cov_no1 (q := q.toList) hP)
    rw [hP] at HP
    clear hP
    go_enter Try.func28, Try.ntmps28
    go_wp2_with (go_at_call 15; ((with_reducible refine (HP.out _).mono ?_); rintro e w' ⟨rfl, rfl⟩))
    go_ret
    exact ⟨by rw [hz.out]; rfl, Bel.refl _⟩
  | true =>
    cases hQ : patB q.toList with
    | false =>
      have hz := Lib.hid (cov_no2 (p := p.toList) hQ)
      rw [hP] at HP
      rw [hQ] at HQ
      clear hP hQ
      go_enter Try.func28, Try.ntmps28
      go_wp2_with (go_at_call 15; first | ((with_reducible refine (HP.out _).mono ?_); rintro e w' ⟨rfl, rfl⟩) | ((with_reducible refine (HQ.out _).mono ?_); rintro e w' ⟨rfl, rfl⟩))
      go_ret
      exact ⟨by rw [hz.out]; rfl, Bel.refl _⟩
    | true =>
      obtain ⟨q1, q2⟩ := pat_size hQ
      obtain ⟨p1, p2⟩ := pat_size hP
      have OP := Lib.hid (ropen_any p (by omega) hp)
      have OQ := Lib.hid (ropen_any q (by omega) hq)
      rw [hP] at HP
      rw [hQ] at HQ
      cases hO : openB q.toList with
      | false =>
        have hz := Lib.hid (cov_shutB hP hQ hO)
        have HM := Lib.hid (rmatches_any p q hp)
        generalize matB p.toList q.toList = b at hz HM
        rw [hO] at OQ
        clear hP hQ hO
        go_enter Try.func28, Try.ntmps28
        go_wp2_with (first | (go_at_call 15; first | ((with_reducible refine (HP.out _).mono ?_); rintro e w' ⟨rfl, rfl⟩) | ((with_reducible refine (HQ.out _).mono ?_); rintro e w' ⟨rfl, rfl⟩)) | (go_at_call 52; ((with_reducible refine (OQ.out _).mono ?_); rintro e w' ⟨rfl, rfl⟩)) | (go_at_call 26; ((with_reducible refine (HM.out _).mono ?_); rintro e w' ⟨rfl, rfl⟩)))
        go_ret
        exact ⟨by rw [hz.out]; rfl, Bel.refl _⟩
      | true =>
        rw [hO] at OQ
        obtain ⟨T, hT⟩ : ∃ T : ByteArray, T.toList = p.toList.dropLast := ⟨⟨p.toList.dropLast.toArray⟩, tl _⟩
        obtain ⟨U, hU⟩ : ∃ U : ByteArray, U.toList = q.toList.dropLast := ⟨⟨q.toList.dropLast.toArray⟩, tl _⟩
        have sl := fun w => cutLastB p T hT p1 w
        have su := fun w => cutLastB q U hU q1 w
        have hz := Lib.hid ((cov_openB hP hQ hO).trans (by rw [← hT, ← hU]) : covB p.toList q.toList = (openB p.toList && T.toList.isPrefixOf U.toList))
        have HB := Lib.hid (rbegins_any U T)
        generalize T.toList.isPrefixOf U.toList = b at HB hz
        clear hP hQ hO hT hU
        have wp : IntKind.i64.wrap ((p.size : Int) - 1) = (p.size : Int) - 1 := by rw [IntKind.wrap_i64]; omega
        have wq : IntKind.i64.wrap ((q.size : Int) - 1) = (q.size : Int) - 1 := by rw [IntKind.wrap_i64]; omega
        cases hO2 : openB p.toList with
        | false =>
          rw [hO2] at OP hz
          clear hO2
          go_enter Try.func28, Try.ntmps28
          go_upto_region 5 with (first | (go_at_call 15; first | ((with_reducible refine (HP.out _).mono ?_); rintro e w' ⟨rfl, rfl⟩) | ((with_reducible refine (HQ.out _).mono ?_); rintro e w' ⟨rfl, rfl⟩)) | (go_at_call 52; ((with_reducible refine (OQ.out _).mono ?_); rintro e w' ⟨rfl, rfl⟩)))
          go_quiet (first | (go_at_call 52; exact Calls.quiet_of_same (turn (OP.out _))) | (go_at_call 53; exact Calls.quiet_of_same (turn (HB.out _))))
          go_wp2
          go_ret
          exact ⟨by rw [hz.out]; rfl, (Bel.refl w).drewN _⟩
        | true =>
          rw [hO2, Bool.true_and] at hz
          rw [hO2] at OP
          clear hO2
          go_enter Try.func28, Try.ntmps28
          go_upto_region 5 with (first | (go_at_call 15; first | ((with_reducible refine (HP.out _).mono ?_); rintro e w' ⟨rfl, rfl⟩) | ((with_reducible refine (HQ.out _).mono ?_); rintro e w' ⟨rfl, rfl⟩)) | (go_at_call 52; ((with_reducible refine (OQ.out _).mono ?_); rintro e w' ⟨rfl, rfl⟩)))
          go_quiet (first | (go_at_call 52; exact Calls.quiet_of_same (turn (OP.out _))) | (go_at_call 53; exact Calls.quiet_of_same (turn (HB.out _))))
          go_wp2
          go_ret
          exact ⟨by rw [hz.out]; rfl, (Bel.refl w).drewN _⟩
end Idn
end Go.Proofs.Ytgchjfdldbadlaa
