/-
  The laws over texts: the walks.
-/
import Derived.Test.YtiailoglcmidoaaNumL
namespace Go.Proofs.Ytiailoglcmidoaa
open Go.RowKit
namespace Num

theorem law_forms (n : Int) (s : ByteArray) (h1 : -9223372036854775808 ≤ n) (h2 : n ≤ 9223372036854775807) (hs : s.size ≤ maxLen) (w : World) :
    Calls Try.prog 3 #[.int .i64 n, .string s] w fun e w' => e = .returned (.bool true) ∧ Grown w w' := by
  have HP := Lib.hid fun w => parse_any s hs w
  have HR := Lib.hid fun w => rparse_any s hs w
  have HF := Lib.hid fun w => format_any n h1 h2 w
  have HG := Lib.hid fun w => rformat_any n h1 h2 w
  unfold pair at HP HR
  unfold maxLen at hs
  generalize parV s.toList = x at *
  generalize parE s.toList = y at *
  generalize (⟨(fmtL n).toArray⟩ : ByteArray) = f at *
  generalize hv : vld n = v at *
  have HV := Lib.hid hv
  clear hv
  by_cases hl : 200 < s.size
  · go_enter Try.func3, Try.ntmps3
    go_wp2_with (go_at_call 10; refine (awake_any _).mono ?_; rintro e w' ⟨rfl, hg⟩)
    go_ret
    exact ⟨rfl, hg⟩
  · have hl' : s.size ≤ 200 := by omega
    go_enter Try.func3, Try.ntmps3
    go_wp2_with (first
      | (go_at_call 11; refine (HP.out _).mono ?_; rintro e w' ⟨rfl, rfl⟩)
      | (go_at_call 12; refine (HR.out _).mono ?_; rintro e w' ⟨rfl, rfl⟩)
      | (go_at_call 13; refine (valid_any _ _).mono ?_; rintro e w' ⟨rfl, rfl⟩; rw [HV.out])
      | (go_at_call 14; refine (rvalid_any _ _).mono ?_; rintro e w' ⟨rfl, rfl⟩; rw [HV.out])
      | (go_at_call 15; refine (HF.out _).mono ?_; rintro e w1 ⟨rfl, g1⟩)
      | (go_at_call 16; refine (HG.out _).mono ?_; rintro e w' ⟨rfl, rfl⟩)
      | (go_at_call 10; refine (awake_any _).mono ?_; rintro e w2 ⟨rfl, g2⟩))
    go_ret
    exact ⟨rfl, Gr.trans g1 g2⟩

theorem law_roundTrips (n : Int) (s : ByteArray) (h1 : -9223372036854775808 ≤ n) (h2 : n ≤ 9223372036854775807) (hs : s.size ≤ maxLen) (w : World) :
    Calls Try.prog 4 #[.int .i64 n, .string s] w fun e w' => e = .returned (.bool true) ∧ Grown w w' := by
  have HF := Lib.hid fun w => format_any n h1 h2 w
  have HP := Lib.hid fun w => parse_any s hs w
  have hfl : (fmtL n).length ≤ maxLen := by
    have := ndF_le 18 (abz n).toNat
    unfold maxLen fmtL
    rw [List.length_append, digs_len]
    split <;> simp <;> omega
  have HQ := Lib.hid fun w => parse_any ⟨(fmtL n).toArray⟩ hfl w
  have ht : (⟨(fmtL n).toArray⟩ : ByteArray).toList = fmtL n := Go.ByteArray.toList_mk _
  rw [ht] at HQ
  obtain ⟨p1, p2⟩ := parse_fmt n h1 h2
  rw [p1, p2] at HQ
  clear ht p1 p2 hfl
  have hback := fmt_parse s.toList
  unfold pair at HP HQ
  generalize (⟨(fmtL n).toArray⟩ : ByteArray) = f at *
  unfold maxLen at hs
  by_cases hl : 200 < s.size
  · go_enter Try.func4, Try.ntmps4
    go_wp2_with (go_at_call 10; refine (awake_any _).mono ?_; rintro e w' ⟨rfl, hg⟩)
    go_ret
    exact ⟨rfl, hg⟩
  have hl' : s.size ≤ 200 := by omega
  clear hl
  by_cases hp : parE s.toList = 0
  · obtain ⟨hv, hf⟩ := hback hp
    rw [hp] at HP
    have HX := Lib.hid hv
    have hvb := vld_true hv
    have hb := fun w => format_any (parV s.toList) (by omega) (by omega) w
    rw [hf, show (⟨s.toList.toArray⟩ : ByteArray) = s from ByteArray.ext (by rw [Go.ByteArray.toList_eq])] at hb
    have HB := Lib.hid hb
    clear hback hv hf hp hb hvb
    generalize parV s.toList = b at *
    cases hvn : vld n
    · have HV := Lib.hid hvn
      rw [hvn] at HQ
      simp only [Bool.false_eq_true, if_false] at HQ
      clear hvn
      go_enter Try.func4, Try.ntmps4
      go_wp2_with fail
      refine (HF.out _).mono ?_
      rintro e w1 ⟨rfl, g1⟩
      go_wp2_with fail
      refine (HQ.out _).mono ?_
      rintro e w' ⟨rfl, rfl⟩
      go_wp2_with fail
      refine (valid_any _ _).mono ?_
      rintro e w' ⟨rfl, rfl⟩
      rw [HV.out]
      go_wp2_with fail
      refine (HP.out _).mono ?_
      rintro e w' ⟨rfl, rfl⟩
      go_wp2_with fail
      refine (valid_any _ _).mono ?_
      rintro e w' ⟨rfl, rfl⟩
      rw [HX.out]
      go_wp2_with fail
      refine (HB.out _).mono ?_
      rintro e w3 ⟨rfl, g3⟩
      go_wp2_with fail
      refine (awake_any _).mono ?_
      rintro e w2 ⟨rfl, g2⟩
      go_wp2
      go_ret
      exact ⟨rfl, Gr.trans g1 (Gr.trans g3 g2)⟩
    · have HV := Lib.hid hvn
      rw [hvn] at HQ
      simp only [if_true] at HQ
      clear hvn
      go_enter Try.func4, Try.ntmps4
      go_wp2_with fail
      refine (HF.out _).mono ?_
      rintro e w1 ⟨rfl, g1⟩
      go_wp2_with fail
      refine (HQ.out _).mono ?_
      rintro e w' ⟨rfl, rfl⟩
      go_wp2_with fail
      refine (valid_any _ _).mono ?_
      rintro e w' ⟨rfl, rfl⟩
      rw [HV.out]
      go_wp2_with fail
      refine (HP.out _).mono ?_
      rintro e w' ⟨rfl, rfl⟩
      go_wp2_with fail
      refine (valid_any _ _).mono ?_
      rintro e w' ⟨rfl, rfl⟩
      rw [HX.out]
      go_wp2_with fail
      refine (HB.out _).mono ?_
      rintro e w3 ⟨rfl, g3⟩
      go_wp2_with fail
      refine (awake_any _).mono ?_
      rintro e w2 ⟨rfl, g2⟩
      go_wp2
      go_ret
      exact ⟨rfl, Gr.trans g1 (Gr.trans g3 g2)⟩
  · have hpb : (parE s.toList != 0) = true := by simpa using hp
    clear hback hp
    generalize parV s.toList = b at *
    generalize parE s.toList = x at *
    cases hvn : vld n
    · have HV := Lib.hid hvn
      rw [hvn] at HQ
      simp only [Bool.false_eq_true, if_false] at HQ
      clear hvn
      go_enter Try.func4, Try.ntmps4
      go_wp2_with fail
      refine (HF.out _).mono ?_
      rintro e w1 ⟨rfl, g1⟩
      go_wp2_with fail
      refine (HQ.out _).mono ?_
      rintro e w' ⟨rfl, rfl⟩
      go_wp2_with fail
      refine (valid_any _ _).mono ?_
      rintro e w' ⟨rfl, rfl⟩
      rw [HV.out]
      go_wp2_with fail
      refine (HP.out _).mono ?_
      rintro e w' ⟨rfl, rfl⟩
      go_wp2_with fail
      refine (awake_any _).mono ?_
      rintro e w2 ⟨rfl, g2⟩
      go_wp2
      go_ret
      exact ⟨rfl, Gr.trans g1 g2⟩
    · have HV := Lib.hid hvn
      rw [hvn] at HQ
      simp only [if_true] at HQ
      clear hvn
      go_enter Try.func4, Try.ntmps4
      go_wp2_with fail
      refine (HF.out _).mono ?_
      rintro e w1 ⟨rfl, g1⟩
      go_wp2_with fail
      refine (HQ.out _).mono ?_
      rintro e w' ⟨rfl, rfl⟩
      go_wp2_with fail
      refine (valid_any _ _).mono ?_
      rintro e w' ⟨rfl, rfl⟩
      rw [HV.out]
      go_wp2_with fail
      refine (HP.out _).mono ?_
      rintro e w' ⟨rfl, rfl⟩
      go_wp2_with fail
      refine (awake_any _).mono ?_
      rintro e w2 ⟨rfl, g2⟩
      go_wp2
      go_ret
      exact ⟨rfl, Gr.trans g1 g2⟩

end Num
end Go.Proofs.Ytiailoglcmidoaa
