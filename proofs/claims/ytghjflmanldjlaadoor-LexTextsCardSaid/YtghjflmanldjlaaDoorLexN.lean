/-
  Layer 7, the reference: integers and strings at a place.
-/
import Derived.Test.YtghjflmanldjlaaDoorLexM
namespace Go.Proofs.YtghjflmanldjlaaDoor
open Go.RowKit Go.ChangeShapes Go.WideShapes
namespace Lex

theorem cut1 (s : ByteArray) (i : Nat) (zi zj : Int) (hi : zi = (i : Int)) (hj : zj = (i : Int) + 1) (h : i < s.size) (w : World) :
    (Instr.slice 9 (.string s) (some (.int .i64 zi)) (some (.int .i64 zj)) none).run Tryd.prog w = .ok (.string ⟨#[s[i]]⟩) w := by
  subst hi hj
  rw [run_slice_string_if w 9 s .i64 .i64 (i : Int) ((i : Int) + 1) Tryd.underlying9, if_pos ⟨by omega, by omega⟩, if_pos ⟨by omega, by omega⟩, Lib.extract_eq]
  have e1 : ((i : Int) + 1).toNat = i + 1 := by omega
  have e2 : s.data.toList.drop i = s[i] :: s.data.toList.drop (i + 1) := by
    have hl : i < s.toList.length := by rw [toL_len]; exact h
    have := List.drop_eq_getElem_cons hl
    rw [toL_get s i h, toL] at this
    exact this
  rw [e1, Int.toNat_natCast, e2, show i + 1 - i = 1 by omega]
  rfl
theorem size_lit (c : UInt8) : (⟨#[c]⟩ : ByteArray).size = 1 := rfl
theorem app_list (X : ByteArray) (c : UInt8) : (X ++ (⟨#[c]⟩ : ByteArray)).toList = X.toList ++ [c] := by
  rw [toL, toL]
  simp [ByteArray.data_append]
theorem results_tmp4 {fn : Func} {t u v x : Tmp} (h : fn.results = #[.tmp t, .tmp u, .tmp v, .tmp x]) (tmps : Array Value) (P : Program) (w : World) :
    (results fn tmps).run P w = .ok (.tuple #[tmps.getD t Go.undef, tmps.getD u Go.undef, tmps.getD v Go.undef, tmps.getD x Go.undef]) w := by
  simp [results, h]
theorem par_zero {T : Txt} (h : T.all digB = true) (h0 : T.head? = some 48) (h2 : 1 < T.length) : Num.parE T = 1 := by
  have hn : Num.negL T = false := by
    unfold Num.negL Lib.hasPrefix
    cases T with
    | nil => cases h0
    | cons c r => obtain rfl := Option.some.inj h0; rfl
  have hb : Num.bodyL T = T := by
    have : Lib.hasPrefix T [45] = false := hn
    rw [Num.bodyL, Lib.trimPrefix, this]; rfl
  have hd : Num.decB T = false := by
    unfold Num.decB
    rw [Bool.and_eq_false_iff]
    right
    rw [h0]
    cases T with
    | nil => cases h0
    | cons c r =>
      cases r with
      | nil => simp at h2
      | cons d q => simp
  unfold Num.parE Num.okL
  rw [hb, hd]
  rfl
/-- What the reference's number answers. -/
def NumR (q : Nat) (V E : Int) (e : Ending) : Prop := ∃ v en : Int, e = .returned (.tuple #[.int .i64 v, .int .i64 en, .int .i64 E]) ∧ (E = 0 → v = V ∧ en = (q : Int))
set_option maxHeartbeats 1000000 in
theorem rnumber_any (s : ByteArray) (hs : s.size ≤ 1000000) (p : Nat) (hp : p < s.size) (hd0 : digB s[p] = true) (w : World) :
    Calls Tryd.prog 41 #[.string s, .int .i64 (p : Int)] w fun e w' => NumR (p + spanN digB (s.toList.drop p)) (Num.parV ((s.toList.drop p).take (spanN digB (s.toList.drop p)))) (Num.parE ((s.toList.drop p).take (spanN digB (s.toList.drop p)))) e ∧ w = w' := by
  have hle := span_le digB (s.toList.drop p)
  rw [List.length_drop, toL_len] at hle
  have hall := (span_all digB (s.toList.drop p)).1
  have h1 : 1 ≤ spanN digB (s.toList.drop p) := by rw [drop_get s p hp, spanN, if_pos hd0]; omega
  have hh : ((s.toList.drop p).take (spanN digB (s.toList.drop p))).head? = some s[p] := by
    rw [drop_get s p hp] at h1 ⊢
    obtain ⟨j, hj⟩ : ∃ j, spanN digB (s[p] :: s.toList.drop (p + 1)) = j + 1 := ⟨_, (Nat.sub_add_cancel h1).symm⟩
    rw [hj, List.take_succ_cons]; rfl
  have hlen : ((s.toList.drop p).take (spanN digB (s.toList.drop p))).length = spanN digB (s.toList.drop p) := by rw [List.length_take, List.length_drop, toL_len, Nat.min_eq_left hle]
  obtain ⟨N, hN0⟩ : ∃ N, spanN digB (s.toList.drop p) = N := ⟨_, rfl⟩
  obtain ⟨q, hq0⟩ : ∃ q, p + N = q := ⟨_, rfl⟩
  have hN := Lib.hid (show p + spanN digB (s.toList.drop p) = q by rw [hN0, hq0])
  rw [hN0] at hle hall h1 hh hlen ⊢
  rw [hq0]
  clear hN0
  have s1 := fun w => cutS s p q (p : Int) (q : Int) rfl rfl (by omega) (by omega) w
  rw [show q - p = N by omega] at s1
  obtain ⟨T, hT⟩ : ∃ T : ByteArray, ⟨((s.toList.drop p).take N).toArray⟩ = T := ⟨_, rfl⟩
  have hTl : (s.toList.drop p).take N = T.toList := by rw [← hT]; exact (tl _).symm
  have hTs : T.size ≤ maxLen := by rw [← toL_len, ← hTl, hlen]; unfold maxLen; omega
  rw [hT] at s1
  rw [hTl] at hall hh hlen ⊢
  clear hTl hT
  have HP := Lib.hid (fun w => Num.rparse_any T hTs w)
  unfold Num.pair at HP
  have hz0 : s[p] = 48 → p + 1 < q → Num.parE T.toList = 1 := fun g1 g2 => par_zero hall (by rw [hh, g1]) (by omega)
  have hqb : q ≤ s.size ∧ p < q := by omega
  obtain ⟨c, hc⟩ : ∃ c, s[p] = c := ⟨_, rfl⟩
  have hi := fun w => idx_str s .i64 (p : Int) p rfl hp w
  rw [hc] at hi hz0
  clear hall hh hlen hTs hc hd0 hq0
  generalize Num.parV T.toList = V at *
  generalize Num.parE T.toList = E at *
  have hz := Lib.hid hz0
  clear hz0
  go_enter Tryd.func41, Tryd.ntmps41
  go_wp2
  go_loop [7] (fun i => ∃ k : Nat, i = .int .i64 (k : Int) ∧ p ≤ k ∧ k ≤ s.size ∧ Hid (k + spanN digB (s.toList.drop k) = q)) (fun i => s.size - (intOf i).toNat)
  case atStart => exact ⟨p, rfl, Nat.le_refl _, by omega, hN⟩
  case round =>
    obtain ⟨k, rfl, hpk, hk, hr⟩ := hrel
    clear hN
    by_cases hq : k < s.size ∧ digB (s.toList.getD k 0) = true
    · obtain ⟨hq, hd⟩ := hq
      rw [List.getD_eq_getElem?_getD, List.getElem?_eq_getElem (by rw [toL_len]; exact hq), Option.getD_some, toL_get s k hq] at hd
      have hst := (span_step digB s k hq).symm.trans hr.out
      have hr2 : Hid (k + 1 + spanN digB (s.toList.drop (k + 1)) = q) := Lib.hid (by rw [← hst, if_pos hd])
      have H := Lib.hid ((dig_byte s[k]).symm.trans hd)
      clear hd hst hr hi s1
      go_wp2_with (go_at_call 40; refine (digit_any _ _).mono ?_; rintro e w' ⟨rfl, rfl⟩; rw [H.out])
      go_round
      case rel => exact ⟨k + 1, by go_num, by omega, by omega, hr2⟩
      case measure => simp [intOf]; omega
    · have hr2 : k = q := by
        by_cases hq2 : k < s.size
        · have hd : ¬ digB s[k] = true := fun h => hq ⟨hq2, by rw [List.getD_eq_getElem?_getD, List.getElem?_eq_getElem (by rw [toL_len]; exact hq2), Option.getD_some, toL_get s k hq2]; exact h⟩
          have hst := (span_step digB s k hq2).symm.trans hr.out
          rw [if_neg hd] at hst
          exact hst
        · exact (span_stop digB s k hq2).symm.trans hr.out
      by_cases hq2 : k < s.size
      · have hd : digB s[k] = false := by rw [← Bool.not_eq_true]; exact fun h => hq ⟨hq2, by rw [List.getD_eq_getElem?_getD, List.getElem?_eq_getElem (by rw [toL_len]; exact hq2), Option.getD_some, toL_get s k hq2]; exact h⟩
        have H := Lib.hid ((dig_byte s[k]).symm.trans hd)
        clear hr hd hq
        subst hr2
        by_cases hc : c = 48 ∧ p + 1 < k
        · obtain ⟨rfl, hN1⟩ := hc
          have hE := hz.out rfl hN1
          subst hE
          have e48 : (48 : UInt8).toNat = 48 := rfl
          simp only [e48] at hi
          have hgt : decide ((p : Int) + 1 < (k : Int)) = true := by simp; omega
          clear hz
          go_wp2_with ((go_at_call 40; refine (digit_any _ _).mono ?_; rintro e w' ⟨rfl, rfl⟩; rw [H.out]))
          go_ret3
          exact ⟨⟨_, _, rfl, fun h => by cases h⟩, rfl⟩
        · have hrest : ((c.toNat : Int) == 48) = false ∨ (c = 48 ∧ decide ((p : Int) + 1 < (k : Int)) = false) := by
            by_cases h48 : c = 48
            · right; have hng : ¬ p + 1 < k := fun g => hc ⟨h48, g⟩; exact ⟨h48, by simp; omega⟩
            · left; exact (neb 48 (by omega) h48).1
          clear hz hc
          rcases hrest with g | ⟨rfl, g⟩
          · go_wp2_with (first | (go_at_call 40; refine (digit_any _ _).mono ?_; rintro e w' ⟨rfl, rfl⟩; rw [H.out]) | (go_at_call 55; ((with_reducible refine (HP.out _).mono ?_); rintro e w' ⟨rfl, rfl⟩)))
            go_ret3
            exact ⟨⟨_, _, rfl, fun _ => ⟨rfl, rfl⟩⟩, rfl⟩
          · have e48 : (48 : UInt8).toNat = 48 := rfl
            simp only [e48] at hi
            go_wp2_with (first | (go_at_call 40; refine (digit_any _ _).mono ?_; rintro e w' ⟨rfl, rfl⟩; rw [H.out]) | (go_at_call 55; ((with_reducible refine (HP.out _).mono ?_); rintro e w' ⟨rfl, rfl⟩)))
            go_ret3
            exact ⟨⟨_, _, rfl, fun _ => ⟨rfl, rfl⟩⟩, rfl⟩
      · clear hr hq
        subst hr2
        by_cases hc : c = 48 ∧ p + 1 < k
        · obtain ⟨rfl, hN1⟩ := hc
          have hE := hz.out rfl hN1
          subst hE
          have e48 : (48 : UInt8).toNat = 48 := rfl
          simp only [e48] at hi
          have hgt : decide ((p : Int) + 1 < (k : Int)) = true := by simp; omega
          clear hz
          go_wp2_with (fail)
          go_ret3
          exact ⟨⟨_, _, rfl, fun h => by cases h⟩, rfl⟩
        · have hrest : ((c.toNat : Int) == 48) = false ∨ (c = 48 ∧ decide ((p : Int) + 1 < (k : Int)) = false) := by
            by_cases h48 : c = 48
            · right; have hng : ¬ p + 1 < k := fun g => hc ⟨h48, g⟩; exact ⟨h48, by simp; omega⟩
            · left; exact (neb 48 (by omega) h48).1
          clear hz hc
          rcases hrest with g | ⟨rfl, g⟩
          · go_wp2_with (first | fail | (go_at_call 55; ((with_reducible refine (HP.out _).mono ?_); rintro e w' ⟨rfl, rfl⟩)))
            go_ret3
            exact ⟨⟨_, _, rfl, fun _ => ⟨rfl, rfl⟩⟩, rfl⟩
          · have e48 : (48 : UInt8).toNat = 48 := rfl
            simp only [e48] at hi
            go_wp2_with (first | fail | (go_at_call 55; ((with_reducible refine (HP.out _).mono ?_); rintro e w' ⟨rfl, rfl⟩)))
            go_ret3
            exact ⟨⟨_, _, rfl, fun _ => ⟨rfl, rfl⟩⟩, rfl⟩
end Lex
end Go.Proofs.YtghjflmanldjlaaDoor
