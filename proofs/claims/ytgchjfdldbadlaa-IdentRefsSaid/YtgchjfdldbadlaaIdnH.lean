/-
  Layer 5, the code: Pattern, Matches, Covers.
-/
import Derived.Test.YtgchjfdldbadlaaIdnF
import Derived.Test.YtgchjfdldbadlaaShelf
namespace Go.Proofs.Ytgchjfdldbadlaa
open Go.RowKit
namespace Idn

/-- What precedes an asterisk at the end. -/
def trim (l : List UInt8) : List UInt8 := if openB l then l.dropLast else l
theorem suffix_star (l : List UInt8) : Lib.hasSuffix l [42] = openB l := by
  unfold Lib.hasSuffix openB
  rw [Bool.eq_iff_iff, List.isSuffixOf_iff_suffix, beq_iff_eq]
  constructor
  · rintro ⟨r, rfl⟩
    simp
  · intro h
    exact ⟨l.dropLast, by rw [List.getLast?_eq_some_iff] at h; obtain ⟨y, rfl⟩ := h; simp⟩
theorem trim_star (l : List UInt8) : Lib.trimSuffix l [42] = trim l := by
  unfold Lib.trimSuffix trim
  rw [suffix_star]
  split
  · rw [List.dropLast_eq_take]; rfl
  · rfl
theorem star_part : partB 42 = false := by decide
theorem pat_code (l : List UInt8) : patB l = (l == [42] || (decide (l.length ≤ 64) && idB (trim l))) := by
  rcases List.eq_nil_or_concat l with rfl | ⟨r, c, rfl⟩
  · rfl
  · rw [List.concat_eq_append]
    have hO : openB (r ++ [c]) = (c == 42) := by
      unfold openB
      rw [List.getLast?_append]
      simp
    have hP : patB (r ++ [c]) = (decide (r.length + 1 ≤ 64) && r.all partB && (partB c || c == 42)) := by
      unfold patB
      rw [List.getLast?_append]
      simp
    rw [hP]
    unfold trim
    rw [hO]
    have hd : (r ++ [c]).dropLast = r := by simp
    have hl : (r ++ [c]).length = r.length + 1 := by simp
    by_cases h : c = 42
    · subst h
      rw [if_pos (by decide), hd, hl]
      cases r with
      | nil => rfl
      | cons x t =>
        have e : ((x :: t) ++ [42] == [(42 : UInt8)]) = false := by simp
        rw [e]
        unfold idB
        cases (x :: t).all partB with
        | false => simp
        | true =>
          rw [Bool.eq_iff_iff]
          simp
          omega
    · have e : (c == 42) = false := by simpa using h
      have e2 : (r ++ [c] == [(42 : UInt8)]) = false := by
        rw [beq_eq_false_iff_ne]
        intro k
        cases r with
        | nil => simp at k; exact h k
        | cons x t => simp at k
      rw [e, e2, if_neg (by decide), hl]
      unfold idB
      rw [hl, List.all_append]
      cases r.all partB with
      | false => simp
      | true =>
        cases hc : partB c with
        | false => simp [hc]
        | true =>
          rw [Bool.eq_iff_iff]
          simp [hc]
theorem cov_code (p q : List UInt8) : covB p q = (patB q && matB p q) := by
  cases hQ : patB q with
  | false => rw [cov_no2 hQ]; rfl
  | true =>
    cases hP : patB p with
    | false =>
      rw [cov_no1 hP]
      unfold matB
      rw [hP]
      rfl
    | true =>
      cases hO : openB q with
      | false => rw [cov_shutB hP hQ hO]; rfl
      | true =>
        rw [cov_openB hP hQ hO, Bool.true_and]
        unfold matB
        rw [hP, Bool.true_and]
        cases hO2 : openB p with
        | false =>
          rw [Bool.false_and, if_neg (by decide)]
          symm
          rw [beq_eq_false_iff_ne]
          rintro rfl
          rw [hO2] at hO
          cases hO
        | true =>
          rw [Bool.true_and, if_pos rfl]
          have hq : q = q.dropLast ++ [42] := by
            unfold openB at hO
            rw [beq_iff_eq, List.getLast?_eq_some_iff] at hO
            obtain ⟨y, rfl⟩ := hO
            simp
          have hall : p.dropLast.all partB = true := by
            unfold patB at hP
            simp only [Bool.and_eq_true] at hP
            exact hP.1.2
          rw [Bool.eq_iff_iff, List.isPrefixOf_iff_prefix, List.isPrefixOf_iff_prefix]
          constructor
          · intro h
            rw [hq]
            exact h.trans (List.prefix_append _ _)
          · rintro ⟨r, hr⟩
            rcases List.eq_nil_or_concat r with rfl | ⟨r', c, rfl⟩
            · rw [List.append_nil] at hr
              rw [hr] at hall
              rw [hq] at hall
              simp [star_part] at hall
            · refine ⟨r', ?_⟩
              have := congrArg List.dropLast hr
              simpa using this
theorem cutSuf (s T : ByteArray) (b : Bool) (hT : T.toList = trim s.toList) (hb : openB s.toList = b) (hs : s.size ≤ maxLen) (w : World) :
    Calls Try.prog 40 #[.string s, .string ⟨#[42]⟩] w fun e w' => e = .returned (.tuple #[.string T, .bool b]) ∧ w = w' := by
  refine (Try.strings_CutSuffix s ⟨#[42]⟩ w (by unfold maxLen at hs; omega)).mono fun e w' ⟨he, hw⟩ => ⟨?_, hw.symm⟩
  have e1 : (⟨#[42]⟩ : ByteArray).data.toList = [42] := rfl
  rw [he, e1, ← toL, trim_star, suffix_star, hb, ← hT, toL]
set_option maxHeartbeats 400000 in
theorem pattern_any (s : ByteArray) (hs : s.size ≤ maxLen) (w : World) :
    Calls Try.prog 14 #[.string s] w fun e w' => e = .returned (.bool (patB s.toList)) ∧ Bel w w' := by
  obtain ⟨T, hT⟩ : ∃ T : ByteArray, T.toList = trim s.toList := ⟨⟨(trim s.toList).toArray⟩, tl _⟩
  have hP := pat_code s.toList
  rw [← hT, toL_len] at hP
  have HC := Lib.hid (cutSuf s T _ hT rfl hs)
  have HI := Lib.hid (id_any T)
  generalize openB s.toList = ob at HC
  generalize idB T.toList = ib at HI hP
  obtain ⟨sb, hsb⟩ : ∃ sb, (s.toList == [42]) = sb := ⟨_, rfl⟩
  rw [hsb] at hP
  have hz := Lib.hid hP
  clear hP hT
  unfold maxLen at hs
  by_cases h64 : s.size ≤ 64
  · have hz2 := Lib.hid (hz.out.trans (by rw [decide_eq_true h64, Bool.true_and]) : patB s.toList = (sb || ib))
    clear hz
    cases sb with
    | true =>
      go_enter Try.func14, Try.ntmps14
      go_wp2_with (go_at_call 40; ((with_reducible refine (HC.out _).mono ?_); rintro e w' ⟨rfl, rfl⟩))
      go_ret
      exact ⟨by rw [hz2.out]; rfl, Bel.refl _⟩
    | false =>
      go_enter Try.func14, Try.ntmps14
      go_wp2_with fail
      refine (HC.out _).mono ?_
      rintro e w' ⟨rfl, rfl⟩
      go_wp2_with fail
      refine (HI.out _).mono ?_
      rintro e w' ⟨rfl, g⟩
      go_wp2_with fail
      go_ret
      exact ⟨by rw [hz2.out]; rfl, g⟩
  · have hz2 := Lib.hid (hz.out.trans (by rw [decide_eq_false h64, Bool.false_and, Bool.or_false]) : patB s.toList = sb)
    clear hz
    cases sb
    all_goals
      go_enter Try.func14, Try.ntmps14
      go_wp2_with (go_at_call 40; ((with_reducible refine (HC.out _).mono ?_); rintro e w' ⟨rfl, rfl⟩))
      go_ret
      exact ⟨by rw [hz2.out]; rfl, Bel.refl _⟩
set_option maxHeartbeats 400000 in
theorem matches_any (p s : ByteArray) (hp : p.size ≤ maxLen) (w : World) :
    Calls Try.prog 25 #[.string p, .string s] w fun e w' => e = .returned (.bool (matB p.toList s.toList)) ∧ Bel w w' := by
  have HP := Lib.hid (pattern_any p hp)
  cases hP : patB p.toList with
  | false =>
    have hz := Lib.hid (show matB p.toList s.toList = false by unfold matB; rw [hP]; rfl)
    rw [hP] at HP
    clear hP
    go_enter Try.func25, Try.ntmps25
    go_wp2_with fail
    refine (HP.out _).mono ?_
    rintro e w' ⟨rfl, g⟩
    go_wp2_with fail
    go_ret
    exact ⟨by rw [hz.out]; rfl, g⟩
  | true =>
    rw [hP] at HP
    obtain ⟨T, hT⟩ : ∃ T : ByteArray, T.toList = trim p.toList := ⟨⟨(trim p.toList).toArray⟩, tl _⟩
    cases hO : openB p.toList with
    | false =>
      have HC := Lib.hid (cutSuf p T _ hT hO hp)
      obtain ⟨b, hb⟩ : ∃ b, (p.toList == s.toList) = b := ⟨_, rfl⟩
      have hz := Lib.hid (show matB p.toList s.toList = b by unfold matB; rw [hP, hO, if_neg (by decide), ← hb, Bool.true_and, Bool.eq_iff_iff, beq_iff_eq, beq_iff_eq]; exact eq_comm)
      clear hP hO hT
      go_enter Try.func25, Try.ntmps25
      go_wp2_with fail
      refine (HP.out _).mono ?_
      rintro e w' ⟨rfl, g⟩
      go_wp2_with fail
      refine (HC.out _).mono ?_
      rintro e w' ⟨rfl, rfl⟩
      go_wp2_with fail
      go_ret
      exact ⟨by rw [hz.out]; rfl, g⟩
    | true =>
      have HC := Lib.hid (cutSuf p T _ hT hO hp)
      have HB := Lib.hid (fun W => Try.strings_HasPrefix s T W)
      have hz := Lib.hid (show matB p.toList s.toList = Lib.hasPrefix s.data.toList T.data.toList by unfold matB Lib.hasPrefix; rw [hP, hO, if_pos rfl, ← toL, ← toL, hT, trim, hO, if_pos rfl]; rfl)
      generalize Lib.hasPrefix s.data.toList T.data.toList = b at HB hz
      clear hP hO hT
      go_enter Try.func25, Try.ntmps25
      go_wp2_with fail
      refine (HP.out _).mono ?_
      rintro e w' ⟨rfl, g⟩
      go_wp2_with fail
      refine (HC.out _).mono ?_
      rintro e w' ⟨rfl, rfl⟩
      go_wp2_with fail
      refine (HB.out _).mono ?_
      rintro e w' ⟨rfl, rfl⟩
      go_wp2_with fail
      go_ret
      exact ⟨by rw [hz.out]; rfl, g⟩
theorem covers_any (p q : ByteArray) (hp : p.size ≤ maxLen) (hq : q.size ≤ maxLen) (w : World) :
    Calls Try.prog 27 #[.string p, .string q] w fun e w' => e = .returned (.bool (covB p.toList q.toList)) ∧ Bel w w' := by
  have HP := Lib.hid (pattern_any q hq)
  have HM := Lib.hid (matches_any p q hp)
  have hz := Lib.hid (cov_code p.toList q.toList)
  generalize covB p.toList q.toList = c at hz ⊢
  generalize patB q.toList = a at HP hz
  generalize matB p.toList q.toList = b at HM hz
  cases a with
  | false =>
    go_enter Try.func27, Try.ntmps27
    go_wp2_with fail
    refine (HP.out _).mono ?_
    rintro e w' ⟨rfl, g⟩
    go_wp2_with fail
    go_ret
    exact ⟨by rw [hz.out]; rfl, g⟩
  | true =>
    go_enter Try.func27, Try.ntmps27
    go_wp2_with fail
    refine (HP.out _).mono ?_
    rintro e w1 ⟨rfl, g⟩
    go_wp2_with fail
    refine (HM.out _).mono ?_
    rintro e w2 ⟨rfl, g2⟩
    go_wp2_with fail
    go_ret
    exact ⟨by rw [hz.out]; rfl, Bel.trans g g2⟩
end Idn
end Go.Proofs.Ytgchjfdldbadlaa
