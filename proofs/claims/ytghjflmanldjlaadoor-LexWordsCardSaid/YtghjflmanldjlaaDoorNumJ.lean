/-
  The contract of the reference's Parse.
-/
import Derived.Test.YtghjflmanldjlaaDoorNumI
namespace Go.Proofs.YtghjflmanldjlaaDoor
open Go.RowKit
namespace Num

def FormIs (s : ByteArray) (b : Bool) : Prop := ∀ w : World, Calls Tryd.prog 65 #[.string s] w fun e w' => e = .returned (.bool b) ∧ w = w'

set_option maxHeartbeats 1000000 in
theorem rparse_neg (s : ByteArray) (B : List UInt8) (hB : Hid (B = s.toList.drop 1)) (hs : s.size ≤ maxLen) (hpos : 0 < s.size) (h45 : (s[0].toNat : Int) = 45) (hform : Hid (FormIs s true))
    (HA : Hid (∀ k, 1 ≤ k → ∀ h : k < s.size, 48 ≤ (s[k].toNat : Int) ∧ (s[k].toNat : Int) ≤ 57)) (w : World) :
    Calls Tryd.prog 55 #[.string s] w fun e w' => e = pair (finV true (scan 0 B)) (finE (scan 0 B)) ∧ w = w' := by
  unfold maxLen at hs
  unfold pair
  have h45b : ((s[0].toNat : Int) == 45) = true := by simpa using h45
  clear h45
  go_enter Tryd.func55, Tryd.ntmps55
  go_wp2_with (go_at_call 65; refine (hform.out _).mono ?_; rintro e w' ⟨rfl, rfl⟩)
  go_loop [5, 20] (fun n i => ∃ (a k : Nat), k ≤ s.size ∧ i = .int .i64 (k : Int) ∧ n = .int .i64 (a : Int) ∧ a ≤ 1000000000000 ∧ Hid (scan 0 B = scan a (s.toList.drop (max k 1))) ∧ (k = 0 → a = 0)) (fun _ i => s.size - (intOf i).toNat)
  case atStart => exact ⟨0, 0, Nat.zero_le _, rfl, rfl, by omega, Lib.hid (by rw [hB.out]; rfl), fun _ => rfl⟩
  case round =>
    obtain ⟨a, k, hk, rfl, rfl, ha, hr, hz0⟩ := hrel
    by_cases hlt : k < s.size
    · by_cases hk0 : k = 0
      · subst hk0
        obtain rfl : a = 0 := hz0 rfl
        clear hz0
        go_wp2
        go_round
        case rel => exact ⟨0, 1, by omega, rfl, rfl, by omega, Lib.hid (by rw [hB.out]; rfl), fun _ => rfl⟩
        case measure => simp [intOf]; omega
      have hk1 : 1 ≤ k := by omega
      have hr' : scan 0 B = scan a (s.toList.drop k) := by have := hr.out; rw [Nat.max_eq_left hk1] at this; exact this
      obtain ⟨c1, c2⟩ := HA.out k hk1 hlt
      have hlt' : k < s.toList.length := by rw [toList_len]; exact hlt
      have hg := toList_get s hlt hlt'
      have hsd := scan_drop (a := a) hlt'
      rw [hg] at hsd
      have HS := Lib.hid hsd
      have HR := Lib.hid hr'
      have hno : ((s[k].toNat : Int) == 45) = false := by rw [beq_eq_false_iff_ne]; omega
      clear hsd hg hlt' hr' hz0 hr
      by_cases hm : 10 * (a : Int) + ((s[k].toNat : Int) - 48) ≤ 1000000000000
      · have hn := Lib.hid (show scan 0 B = scan (a * 10 + (s[k].toNat - 48)) (s.toList.drop (k + 1)) by rw [HR.out, HS.out, if_pos (by omega)])
        go_wp2
        go_round
        case rel => exact ⟨a * 10 + (s[k].toNat - 48), k + 1, by omega, by go_num, congrArg (Value.int .i64) (by omega), by omega, Lib.hid (by rw [Nat.max_eq_left (by omega)]; exact hn.out), fun h => absurd h (by omega)⟩
        case measure => simp [intOf]; omega
      · have hz := Lib.hid (show scan 0 B = none by rw [HR.out, HS.out, if_neg (by omega)])
        go_wp2
        go_ret2
        exact ⟨by rw [hz.out]; rfl, rfl⟩
    · have hz := Lib.hid (show scan 0 B = some a by
        have := hr.out
        rw [List.drop_eq_nil_of_le (i := max k 1) (by rw [toList_len]; omega)] at this
        exact this)
      clear hz0
      go_wp2
      go_ret2
      exact ⟨by rw [hz.out]; rfl, rfl⟩

set_option maxHeartbeats 1000000 in
theorem rparse_pos (s : ByteArray) (B : List UInt8) (hB : Hid (B = s.toList.drop 0)) (hs : s.size ≤ maxLen) (hpos : 0 < s.size) (hform : Hid (FormIs s true))
    (HA : Hid (∀ k, ∀ h : k < s.size, 48 ≤ (s[k].toNat : Int) ∧ (s[k].toNat : Int) ≤ 57)) (w : World) :
    Calls Tryd.prog 55 #[.string s] w fun e w' => e = pair (finV false (scan 0 B)) (finE (scan 0 B)) ∧ w = w' := by
  unfold maxLen at hs
  unfold pair
  have h45b : ((s[0].toNat : Int) == 45) = false := by
    have := HA.out 0 hpos
    rw [beq_eq_false_iff_ne]; omega
  go_enter Tryd.func55, Tryd.ntmps55
  go_wp2_with (go_at_call 65; refine (hform.out _).mono ?_; rintro e w' ⟨rfl, rfl⟩)
  go_loop [5, 20] (fun n i => ∃ (a k : Nat), k ≤ s.size ∧ i = .int .i64 (k : Int) ∧ n = .int .i64 (a : Int) ∧ a ≤ 1000000000000 ∧ Hid (scan 0 B = scan a (s.toList.drop (max k 0))) ∧ (k = 0 → a = 0)) (fun _ i => s.size - (intOf i).toNat)
  case atStart => exact ⟨0, 0, Nat.zero_le _, rfl, rfl, by omega, Lib.hid (by rw [hB.out]; rfl), fun _ => rfl⟩
  case round =>
    obtain ⟨a, k, hk, rfl, rfl, ha, hr, hz0⟩ := hrel
    by_cases hlt : k < s.size
    · have hr' : scan 0 B = scan a (s.toList.drop k) := by have := hr.out; rw [Nat.max_eq_left (Nat.zero_le k)] at this; exact this
      obtain ⟨c1, c2⟩ := HA.out k hlt
      have hlt' : k < s.toList.length := by rw [toList_len]; exact hlt
      have hg := toList_get s hlt hlt'
      have hsd := scan_drop (a := a) hlt'
      rw [hg] at hsd
      have HS := Lib.hid hsd
      have HR := Lib.hid hr'
      have hno : ((s[k].toNat : Int) == 45) = false := by rw [beq_eq_false_iff_ne]; omega
      clear hsd hg hlt' hr' hz0 hr
      by_cases hm : 10 * (a : Int) + ((s[k].toNat : Int) - 48) ≤ 1000000000000
      · have hn := Lib.hid (show scan 0 B = scan (a * 10 + (s[k].toNat - 48)) (s.toList.drop (k + 1)) by rw [HR.out, HS.out, if_pos (by omega)])
        go_wp2
        go_round
        case rel => exact ⟨a * 10 + (s[k].toNat - 48), k + 1, by omega, by go_num, congrArg (Value.int .i64) (by omega), by omega, Lib.hid (by rw [Nat.max_eq_left (by omega)]; exact hn.out), fun h => absurd h (by omega)⟩
        case measure => simp [intOf]; omega
      · have hz := Lib.hid (show scan 0 B = none by rw [HR.out, HS.out, if_neg (by omega)])
        go_wp2
        go_ret2
        exact ⟨by rw [hz.out]; rfl, rfl⟩
    · have hz := Lib.hid (show scan 0 B = some a by
        have := hr.out
        rw [List.drop_eq_nil_of_le (i := max k 0) (by rw [toList_len]; omega)] at this
        exact this)
      clear hz0
      go_wp2
      go_ret2
      exact ⟨by rw [hz.out]; rfl, rfl⟩

theorem rparse_no (s : ByteArray) (hs : s.size ≤ maxLen) (hform : Hid (FormIs s false)) (w : World) :
    Calls Tryd.prog 55 #[.string s] w fun e w' => e = pair 0 1 ∧ w = w' := by
  unfold maxLen at hs
  unfold pair
  by_cases hpos : 0 < s.size
  · cases h45 : ((s[0].toNat : Int) == 45)
    all_goals
      go_enter Tryd.func55, Tryd.ntmps55
      go_wp2_with (go_at_call 65; refine (hform.out _).mono ?_; rintro e w' ⟨rfl, rfl⟩)
      go_ret2
      exact ⟨rfl, rfl⟩
  · have hz : s.size ≤ 0 := by omega
    go_enter Tryd.func55, Tryd.ntmps55
    go_wp2_with (go_at_call 65; refine (hform.out _).mono ?_; rintro e w' ⟨rfl, rfl⟩)
    go_ret2
    exact ⟨rfl, rfl⟩

theorem prefix45 (a : UInt8) (r : List UInt8) : Lib.hasPrefix (a :: r) [45] = (a == 45) := by
  show ((45 : UInt8) == a && true) = (a == 45)
  rw [Bool.and_true, BEq.comm]
theorem rparse_any (s : ByteArray) (hs : s.size ≤ maxLen) (w : World) :
    Calls Tryd.prog 55 #[.string s] w fun e w' => e = pair (parV s.toList) (parE s.toList) ∧ w = w' := by
  have hlen := toList_len s
  by_cases hpos : 0 < s.size
  · by_cases h45 : s[0] = 45
    · have hL : s.toList = 45 :: s.toList.drop 1 := by
        rcases h : s.toList with _ | ⟨a, r⟩
        · rw [h] at hlen; simp at hlen; omega
        · have := toList_get s hpos (by omega)
          simp only [h] at this
          simp at this
          rw [this, h45]
          rfl
      have hneg : negL s.toList = true := by rw [hL, negL, prefix45]; rfl
      have hbody : bodyL s.toList = s.toList.drop 1 := by
        have : Lib.hasPrefix s.toList [45] = true := hneg
        simp [bodyL, Lib.trimPrefix, this]
      have h45i : (s[0].toNat : Int) = 45 := by rw [h45]; rfl
      obtain ⟨t, ht⟩ : ∃ t, s.extract 1 s.size = t := ⟨_, rfl⟩
      have htl : t.toList = s.toList.drop 1 := by
        rw [← ht, Go.ByteArray.toList_eq, Go.ByteArray.toList_eq]; simp [List.take_of_length_le]
      have hts : t.size ≤ maxLen := by
        have := toList_len t
        rw [htl, List.length_drop, hlen] at this
        omega
      have hf : FormIs s (okL s.toList) := fun w => by
        have := form_neg s t hs hpos h45i ht hts w
        rw [htl, ← hbody] at this
        rw [okL, hneg, Bool.true_and]
        exact this
      unfold parV parE
      cases hok : okL s.toList
      · rw [hok] at hf
        exact rparse_no s hs (Lib.hid hf) w
      · rw [hok] at hf
        rw [hneg, hbody]
        refine rparse_neg s _ (Lib.hid rfl) hs hpos h45i (Lib.hid hf) (Lib.hid fun k hk h => ?_) w
        have hall : t.toList.all isDig = true := by
          rw [htl, ← hbody]
          simp only [okL, decB, Bool.and_eq_true] at hok
          exact hok.1.1
        have hk' : k - 1 < t.toList.length := by rw [htl, List.length_drop, hlen]; omega
        have hd := all_get hall hk'
        have e : t.toList[k - 1] = s[k] := by
          have h1 : k < s.toList.length := by omega
          rw [← toList_get s h h1]
          simp only [htl, List.getElem_drop]
          congr 1
          omega
        rw [e] at hd
        exact dig_bd hd
    · have hneg : negL s.toList = false := by
        rcases h : s.toList with _ | ⟨a, r⟩
        · rfl
        · have := toList_get s hpos (by omega)
          simp only [h] at this
          simp at this
          rw [negL, prefix45, this]
          simpa using h45
      have hbody : bodyL s.toList = s.toList := by
        have : Lib.hasPrefix s.toList [45] = false := hneg
        simp [bodyL, Lib.trimPrefix, this]
      have hf : FormIs s (okL s.toList) := fun w => by
        have := form_pos s hs (fun h => by
          rw [beq_eq_false_iff_ne]
          intro e
          exact h45 (UInt8.toNat_inj.1 (by have : s[0].toNat = 45 := by omega
                                           exact this.trans rfl))) w
        rw [okL, hneg, hbody, Bool.false_and]
        simpa using this
      unfold parV parE
      cases hok : okL s.toList
      · rw [hok] at hf
        exact rparse_no s hs (Lib.hid hf) w
      · rw [hok] at hf
        rw [hneg, hbody]
        refine rparse_pos s _ (Lib.hid rfl) hs hpos (Lib.hid hf) (Lib.hid fun k h => ?_) w
        have hall : s.toList.all isDig = true := by
          rw [okL, hbody] at hok
          simp only [decB, Bool.and_eq_true] at hok
          exact hok.1.1
        exact upto_of_all hall k h
  · have hnil : s.toList = [] := List.eq_nil_of_length_eq_zero (by omega)
    have hf : FormIs s false := fun w => by
      have := form_pos s hs (fun h => absurd h hpos) w
      rw [hnil] at this
      exact this
    rw [hnil]
    exact rparse_no s hs (Lib.hid hf) w

end Num
end Go.Proofs.YtghjflmanldjlaaDoor
