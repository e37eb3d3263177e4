/-
  Layer 7, the reference: strings in quotes.
-/
import Derived.Test.YtghjflmanldjlaaDoorLexN
namespace Go.Proofs.YtghjflmanldjlaaDoor
open Go.RowKit Go.ChangeShapes Go.WideShapes
namespace Lex

/-- What the reference's text answers. -/
def TxtR (p : Nat) (R : Rd) (e : Ending) : Prop := ∃ (t : ByteArray) (en pl : Int), e = .returned (.tuple #[.string t, .int .i64 en, .int .i64 pl, .int .i64 R.e]) ∧ (R.e = 0 → t = ⟨R.s.toArray⟩ ∧ en = ((p + R.n : Nat) : Int)) ∧ (R.e ≠ 0 → pl = ((p + R.n : Nat) : Int))
set_option maxHeartbeats 4000000 in
theorem rtext_any (s : ByteArray) (hs : s.size ≤ 1000000) (p : Nat) (hp : p < s.size) (w : World) :
    Calls Tryd.prog 42 #[.string s, .int .i64 (p : Int)] w fun e w' => TxtR p (strT 0 1 (s.toList.drop (p + 1))) e ∧ w = w' := by
  obtain ⟨R, hR⟩ : ∃ R, strT 0 1 (s.toList.drop (p + 1)) = R := ⟨_, rfl⟩
  have hN : Hid (addC (⟨#[]⟩ : ByteArray).toList (strT 0 1 (s.toList.drop (p + 1))) = R) := Lib.hid (by rw [show (⟨#[]⟩ : ByteArray).toList = [] from tl [], addC_nil, hR])
  rw [hR]
  clear hR
  go_enter Tryd.func42, Tryd.ntmps42
  go_wp2
  go_loop [8, 9] (fun o i => ∃ (k j m : Nat) (O : ByteArray), o = .string O ∧ i = .int .i64 (k : Int) ∧ 1 ≤ k ∧ k ≤ s.size ∧ m ≤ 200 ∧ Hid (O.size = m) ∧ Hid (k = p + j) ∧ Hid (addC O.toList (strT m j (s.toList.drop k)) = R)) (fun _ i => s.size - (intOf i).toNat)
  case atStart => exact ⟨p + 1, 1, 0, ⟨#[]⟩, rfl, by go_num, by omega, by omega, by omega, Lib.hid rfl, Lib.hid rfl, hN⟩
  case round =>
    obtain ⟨k, j, m, O, rfl, rfl, hk1, hk, hm, hO, hj, hr⟩ := hrel
    clear hN
    by_cases hq : k < s.size
    · have hr0 := hr.out
      rw [drop_get s k hq] at hr0
      clear hr
      obtain ⟨c, hc⟩ : ∃ c, s[k] = c := ⟨_, rfl⟩
      rw [hc] at hr0
      have c1 := size_lit c
      have hi := fun w => idx_str s .i64 (k : Int) k rfl hq w
      rw [hc] at hi
      by_cases c34 : c = 34
      · subst c34
        rw [str_end] at hr0
        have hr1 : (⟨4, O.toList ++ [], 0, j + 1, 0⟩ : Rd) = R := hr0
        rw [List.append_nil] at hr1
        subst hr1
        simp only [toNat34.1] at hi
        clear hr0
        go_wp2
        refine bodyPost_ret (results_tmp4 rfl _ _ _) rfl ?_
        exact ⟨⟨_, _, _, rfl, fun _ => ⟨(str_back O).symm, by have := hj.out; show (k : Int) + 1 = ((p + (j + 1) : Nat) : Int); omega⟩, fun h => absurd rfl h⟩, rfl⟩
      have n34 : ((c.toNat : Int) == 34) = false := (neb 34 (by omega) c34).1
      cases hctl : (c < 32 || 126 < c) with
      | true =>
        rw [str_bad _ c34 hctl, addC_bad _ _ _ (by decide)] at hr0
        subst hr0
        rw [ctl_byte, Bool.or_eq_true, decide_eq_true_eq, decide_eq_true_eq] at hctl
        clear c34
        by_cases hlt : (c.toNat : Int) < 32
        · clear hctl
          go_wp2
          refine bodyPost_ret (results_tmp4 rfl _ _ _) rfl ?_
          exact ⟨⟨_, _, _, rfl, fun h => (by cases h), fun _ => by have := hj.out; show (k : Int) = ((p + j : Nat) : Int); omega⟩, rfl⟩
        · have hgt : 126 < (c.toNat : Int) := by omega
          clear hctl
          go_wp2
          refine bodyPost_ret (results_tmp4 rfl _ _ _) rfl ?_
          exact ⟨⟨_, _, _, rfl, fun h => (by cases h), fun _ => by have := hj.out; show (k : Int) = ((p + j : Nat) : Int); omega⟩, rfl⟩
      | false =>
        have hctl2 := hctl
        rw [ctl_byte, Bool.or_eq_false_iff, decide_eq_false_iff_not, decide_eq_false_iff_not] at hctl2
        obtain ⟨hlt, hgt⟩ := hctl2
        by_cases c92 : c = 92
        · subst c92
          simp only [toNat34.2] at hi hlt hgt n34
          clear hlt hgt hctl
          by_cases hq1 : k + 1 < s.size
          · have hz : decide ((s.size : Int) ≤ (k : Int) + 1) = false := by simp; omega
            rw [drop_get s (k + 1) hq1] at hr0
            obtain ⟨d, hd⟩ : ∃ d, s[k + 1] = d := ⟨_, rfl⟩
            have hi2 := fun w => idx_str s .i64 ((k : Int) + 1) (k + 1) (by omega) hq1 w
            have sl := fun w => cut1 s (k + 1) ((k : Int) + 1) ((k : Int) + 1 + 1) (by omega) (by omega) hq1 w
            rw [hd] at hr0 hi2 sl
            cases he : escB d with
            | false =>
              rw [str_esc_bad (r := d :: s.toList.drop (k + 1 + 1)) he, addC_bad _ _ _ (by decide)] at hr0
              subst hr0
              have e1 : ((d.toNat : Int) != 34) = true := (neb 34 (by omega) (by rintro rfl; cases he)).2
              have e2 : ((d.toNat : Int) != 92) = true := (neb 92 (by omega) (by rintro rfl; cases he)).2
              clear he hd
              go_wp2
              refine bodyPost_ret (results_tmp4 rfl _ _ _) rfl ?_
              exact ⟨⟨_, _, _, rfl, fun h => (by cases h), fun _ => by have := hj.out; show (k : Int) = ((p + j : Nat) : Int); omega⟩, rfl⟩
            | true =>
              have hd2 : d = 34 ∨ d = 92 := by unfold escB at he; simpa using he
              by_cases hm2 : m = 200
              · subst hm2
                rw [str_esc_full _ he, addC_bad _ _ _ (by decide)] at hr0
                subst hr0
                have hOs : ((O.size : Int) == 200) = true := by rw [hO.out]; rfl
                clear he hd
                rcases hd2 with rfl | rfl
                all_goals
                  simp only [toNat34.1, toNat34.2] at hi2
                  go_wp2
                  refine bodyPost_ret (results_tmp4 rfl _ _ _) rfl ?_
                  exact ⟨⟨_, _, _, rfl, fun h => (by cases h), fun _ => by simp [bad]⟩, rfl⟩
              · rw [str_esc _ he hm2, addC_addC, ← app_list] at hr0
                have hr2 := Lib.hid hr0
                have hOs : ((O.size : Int) == 200) = false := by rw [hO.out]; simp; omega
                have d1 := size_lit d
                have hOb : O.size ≤ 200 := by rw [hO.out]; exact hm
                clear he hd hr0
                rcases hd2 with rfl | rfl
                all_goals
                  simp only [toNat34.1, toNat34.2] at hi2
                  go_wp2
                  go_round
                  case rel => exact ⟨k + 2, j + 2, m + 1, _, rfl, by go_num, by omega, by omega, by omega, Lib.hid (by rw [ByteArray.size_append, hO.out]; rfl), Lib.hid (by have := hj.out; omega), hr2⟩
                  case measure => simp [intOf]; omega
          · have hz : decide ((s.size : Int) ≤ (k : Int) + 1) = true := by simp; omega
            rw [drop_end s (by omega), str_esc_bad (r := []) rfl, addC_bad _ _ _ (by decide)] at hr0
            subst hr0
            go_wp2
            refine bodyPost_ret (results_tmp4 rfl _ _ _) rfl ?_
            exact ⟨⟨_, _, _, rfl, fun h => (by cases h), fun _ => by have := hj.out; show (k : Int) = ((p + j : Nat) : Int); omega⟩, rfl⟩
        · have n92 : ((c.toNat : Int) == 92) = false := (neb 92 (by omega) c92).1
          by_cases hm2 : m = 200
          · subst hm2
            rw [str_full _ c34 hctl c92, addC_bad _ _ _ (by decide)] at hr0
            subst hr0
            have hOs : ((O.size : Int) == 200) = true := by rw [hO.out]; rfl
            clear hctl c34 c92
            go_wp2
            refine bodyPost_ret (results_tmp4 rfl _ _ _) rfl ?_
            exact ⟨⟨_, _, _, rfl, fun h => (by cases h), fun _ => by simp [bad]⟩, rfl⟩
          · rw [str_byte _ c34 hctl c92 hm2, addC_addC, ← app_list] at hr0
            have hr2 := Lib.hid hr0
            have hOs : ((O.size : Int) == 200) = false := by rw [hO.out]; simp; omega
            have hOb : O.size ≤ 200 := by rw [hO.out]; exact hm
            have sl := fun w => cut1 s k (k : Int) ((k : Int) + 1) rfl rfl hq w
            rw [hc] at sl
            clear hctl c34 c92 hr0
            go_wp2
            go_round
            case rel => exact ⟨k + 1, j + 1, m + 1, _, rfl, by go_num, by omega, by omega, by omega, Lib.hid (by rw [ByteArray.size_append, hO.out]; rfl), Lib.hid (by have := hj.out; omega), hr2⟩
            case measure => simp [intOf]; omega
    · have hr0 := hr.out
      rw [drop_end s (by omega), str_nil, addC_bad _ _ _ (by decide)] at hr0
      subst hr0
      clear hr
      go_wp2
      refine bodyPost_ret (results_tmp4 rfl _ _ _) rfl ?_
      exact ⟨⟨_, _, _, rfl, fun h => (by cases h), fun _ => by simp [bad]⟩, rfl⟩
end Lex
end Go.Proofs.YtghjflmanldjlaaDoor
