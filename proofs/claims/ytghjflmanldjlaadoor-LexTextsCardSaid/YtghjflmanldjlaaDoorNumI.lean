/-
  The contracts of the reference's form and Parse.
-/
import Derived.Test.YtghjflmanldjlaaDoorNumH
namespace Go.Proofs.YtghjflmanldjlaaDoor
open Go.RowKit
namespace Num

theorem upto_step {t : ByteArray} {k : Nat} (h : ∀ j, j < k → ∀ h : j < t.size, 48 ≤ (t[j].toNat : Int) ∧ (t[j].toNat : Int) ≤ 57) {hk : k < t.size} (g : 48 ≤ (t[k].toNat : Int) ∧ (t[k].toNat : Int) ≤ 57) :
    ∀ j, j < k + 1 → ∀ h : j < t.size, 48 ≤ (t[j].toNat : Int) ∧ (t[j].toNat : Int) ≤ 57 := by
  intro j hj h'
  rcases Nat.lt_or_ge j k with h1 | h1
  · exact h j h1 h'
  · obtain rfl : j = k := by omega
    exact g
theorem toList_get (t : ByteArray) {k : Nat} (h : k < t.size) (h' : k < t.toList.length) : t.toList[k] = t[k] := by
  simp only [Go.ByteArray.toList_eq t]; rfl
theorem toList_len (t : ByteArray) : t.toList.length = t.size := by rw [Go.ByteArray.toList_eq t]; simp
theorem all_of_upto {t : ByteArray} {k : Nat} (hk : t.size ≤ k) (h : ∀ j, j < k → ∀ h : j < t.size, 48 ≤ (t[j].toNat : Int) ∧ (t[j].toNat : Int) ≤ 57) : t.toList.all isDig = true := by
  rw [List.all_eq_true]
  intro x hx
  obtain ⟨j, hj, rfl⟩ := List.getElem_of_mem hx
  have hj' : j < t.size := by rw [← toList_len]; exact hj
  have := h j (by omega) hj'
  rw [toList_get t hj' hj]
  exact dig_of this.1 this.2
theorem upto_of_all {t : ByteArray} (h : t.toList.all isDig = true) (k : Nat) (hk : k < t.size) : 48 ≤ (t[k].toNat : Int) ∧ (t[k].toNat : Int) ≤ 57 := by
  have hj : k < t.toList.length := by rw [toList_len]; exact hk
  rw [← toList_get t hk hj]
  exact dig_bd (all_get h hj)

def okT (l : List UInt8) : Bool := decB l

set_option maxHeartbeats 1000000 in
/-- form behind a sign: what follows is t. -/
theorem form_neg (s t : ByteArray) (hs : s.size ≤ maxLen) (hpos : 0 < s.size) (h45 : (s[0].toNat : Int) = 45) (ht : s.extract 1 s.size = t) (hts : t.size ≤ maxLen) (w : World) :
    Calls Tryd.prog 65 #[.string s] w fun e w' => e = .returned (.bool (decB t.toList && !(t.toList == [48]))) ∧ w = w' := by
  unfold maxLen at hs hts
  have hll := toList_len t
  have h45b : ((s[0].toNat : Int) == 45) = true := by simpa using h45
  clear h45
  by_cases hz : t.size = 0
  · have hd : decB t.toList = false := by
      have : t.toList = [] := List.eq_nil_of_length_eq_zero (by omega)
      rw [this]; rfl
    rw [hd, Bool.false_and]
    have hzl : t.toList.length = 0 := by omega
    clear hll hd
    go_enter Tryd.func65, Tryd.ntmps65
    go_wp2
    go_ret
    exact ⟨rfl, rfl⟩
  have hp : 0 < t.size := by omega
  have hg := toList_get t hp (by omega)
  have hhead : t.toList.head? = some t[0] := by rw [List.head?_eq_getElem?, List.getElem?_eq_getElem (by omega), hg]
  have hne : t.toList ≠ [] := fun h => by rw [h] at hll; simp at hll; omega
  by_cases h48 : t[0] = 48
  · have hd : (decB t.toList && !(t.toList == [48])) = false := by
      rw [decB, hhead, h48]
      simp only [bne_self_eq_false, Bool.and_false, Bool.or_false]
      cases t.toList == [48] <;> simp
    rw [hd]
    have h48b : ((t[0].toNat : Int) == 48) = true := by rw [h48]; rfl
    clear hll hd hg hhead hne h48
    go_enter Tryd.func65, Tryd.ntmps65
    go_wp2
    go_ret
    exact ⟨rfl, rfl⟩
  have hd : (decB t.toList && !(t.toList == [48])) = t.toList.all isDig := by
    have e1 : (t.toList == [48]) = false := by
      rw [beq_eq_false_iff_ne]
      intro e
      rw [e] at hhead
      simp at hhead
      exact h48 hhead.symm
    have e2 : (some t[0] != some (48 : UInt8)) = true := by simpa using h48
    have e3 : t.toList.isEmpty = false := by simpa using hne
    rw [decB, hhead, e1, e2, e3]
    simp
  rw [hd]
  have h48b : ((t[0].toNat : Int) == 48) = false := by
    rw [beq_eq_false_iff_ne]
    intro e
    exact h48 (UInt8.toNat_inj.1 (by have : t[0].toNat = 48 := by omega
                                     exact this.trans rfl))
  have hzb : ((t.size : Int) == 0) = false := by rw [beq_eq_false_iff_ne]; omega
  cases hall : t.toList.all isDig
  · have HN := Lib.hid hall
    clear hll hd hg hhead hne h48 hall
    rcases Nat.lt_or_ge 1 t.size with g1 | g1
    all_goals
      go_enter Tryd.func65, Tryd.ntmps65
      go_wp2
      go_loop [39] (fun i => ∃ k : Nat, k ≤ t.size ∧ i = .int .i64 (k : Int) ∧ Hid (∀ j, j < k → ∀ h : j < t.size, 48 ≤ (t[j].toNat : Int) ∧ (t[j].toNat : Int) ≤ 57)) (fun i => t.size - (intOf i).toNat)
      case atStart => exact ⟨0, Nat.zero_le _, rfl, Lib.hid (fun j h => absurd h (by omega))⟩
      case round =>
        obtain ⟨k, hk, rfl, ha⟩ := hrel
        by_cases hlt : k < t.size
        · by_cases c1 : (t[k].toNat : Int) < 48
          · go_wp2
            go_ret
            exact ⟨rfl, rfl⟩
          have c1' : 48 ≤ (t[k].toNat : Int) := by omega
          by_cases c2 : 57 < (t[k].toNat : Int)
          · go_wp2
            go_ret
            exact ⟨rfl, rfl⟩
          · have c2' : (t[k].toNat : Int) ≤ 57 := by omega
            go_wp2
            go_round
            case rel => exact ⟨k + 1, by omega, by go_num, Lib.hid (upto_step ha.out ⟨c1', c2'⟩)⟩
            case measure => simp [intOf]; omega
        · exact absurd (all_of_upto (by omega) ha.out) (by rw [HN.out]; simp)
  · have HA := Lib.hid (upto_of_all hall)
    clear hll hd hg hhead hne h48 hall
    rcases Nat.lt_or_ge 1 t.size with g1 | g1
    all_goals
      go_enter Tryd.func65, Tryd.ntmps65
      go_wp2
      go_loop [39] (fun i => ∃ k : Nat, k ≤ t.size ∧ i = .int .i64 (k : Int)) (fun i => t.size - (intOf i).toNat)
      case atStart => exact ⟨0, Nat.zero_le _, rfl⟩
      case round =>
        obtain ⟨k, hk, rfl⟩ := hrel
        by_cases hlt : k < t.size
        · obtain ⟨c1, c2⟩ := HA.out k hlt
          go_wp2
          go_round
          case rel => exact ⟨k + 1, by omega, by go_num⟩
          case measure => simp [intOf]; omega
        · go_wp2
          go_ret
          exact ⟨rfl, rfl⟩

set_option maxHeartbeats 1000000 in
/-- form without a sign. -/
theorem form_pos (t : ByteArray) (hts : t.size ≤ maxLen) (hno : ∀ h : 0 < t.size, ((t[0].toNat : Int) == 45) = false) (w : World) :
    Calls Tryd.prog 65 #[.string t] w fun e w' => e = .returned (.bool (decB t.toList)) ∧ w = w' := by
  unfold maxLen at hts
  have hll := toList_len t
  by_cases hz : t.size = 0
  · have hd : decB t.toList = false := by
      have : t.toList = [] := List.eq_nil_of_length_eq_zero (by omega)
      rw [this]; rfl
    rw [hd]
    clear hll hd hno
    go_enter Tryd.func65, Tryd.ntmps65
    go_wp2
    go_ret
    exact ⟨rfl, rfl⟩
  have hp : 0 < t.size := by omega
  have hno' := hno hp
  clear hno
  have hg := toList_get t hp (by omega)
  have hhead : t.toList.head? = some t[0] := by rw [List.head?_eq_getElem?, List.getElem?_eq_getElem (by omega), hg]
  have hne : t.toList ≠ [] := fun h => by rw [h] at hll; simp at hll; omega
  have hzb : ((t.size : Int) == 0) = false := by rw [beq_eq_false_iff_ne]; omega
  by_cases h48 : t[0] = 48
  · have h48b : ((t[0].toNat : Int) == 48) = true := by rw [h48]; rfl
    by_cases h1 : 1 < t.size
    · have hd : decB t.toList = false := by
        have e1 : (t.toList == [48]) = false := by
          rw [beq_eq_false_iff_ne]
          intro e
          rw [e] at hll
          simp at hll
          omega
        rw [decB, hhead, h48, e1]
        simp
      rw [hd]
      clear hll hd hg hhead hne h48
      go_enter Tryd.func65, Tryd.ntmps65
      go_wp2
      go_ret
      exact ⟨rfl, rfl⟩
    · have hd : decB t.toList = true := by
        have : t.toList = [48] := by
          rcases h : t.toList with _ | ⟨a, r⟩
          · exact absurd h hne
          · rw [h] at hhead hll
            simp at hhead hll
            have : r = [] := List.eq_nil_of_length_eq_zero (by omega)
            rw [this, hhead, h48]
        rw [this]; rfl
      have hall : t.toList.all isDig = true := by
        rw [decB, Bool.and_eq_true] at hd
        exact hd.1
      rw [hd]
      have h1' : t.size = 1 := by omega
      have HA := Lib.hid (upto_of_all hall)
      have h1b : t.size ≤ 1 := by omega
      clear hll hd hg hhead hne h48 hall h1'
      go_enter Tryd.func65, Tryd.ntmps65
      go_wp2
      go_loop [39] (fun i => ∃ k : Nat, k ≤ t.size ∧ i = .int .i64 (k : Int)) (fun i => t.size - (intOf i).toNat)
      case atStart => exact ⟨0, Nat.zero_le _, rfl⟩
      case round =>
        obtain ⟨k, hk, rfl⟩ := hrel
        by_cases hlt : k < t.size
        · obtain ⟨c1, c2⟩ := HA.out k hlt
          go_wp2
          go_round
          case rel => exact ⟨k + 1, by omega, by go_num⟩
          case measure => simp [intOf]; omega
        · go_wp2
          go_ret
          exact ⟨rfl, rfl⟩
  have hd : decB t.toList = t.toList.all isDig := by
    have e2 : (some t[0] != some (48 : UInt8)) = true := by simpa using h48
    have e3 : t.toList.isEmpty = false := by simpa using hne
    rw [decB, hhead, e2, e3]
    simp
  rw [hd]
  have h48b : ((t[0].toNat : Int) == 48) = false := by
    rw [beq_eq_false_iff_ne]
    intro e
    exact h48 (UInt8.toNat_inj.1 (by have : t[0].toNat = 48 := by omega
                                     exact this.trans rfl))
  cases hall : t.toList.all isDig
  · have HN := Lib.hid hall
    clear hll hd hg hhead hne h48 hall
    rcases Nat.lt_or_ge 1 t.size with g1 | g1
    all_goals
      go_enter Tryd.func65, Tryd.ntmps65
      go_wp2
      go_loop [39] (fun i => ∃ k : Nat, k ≤ t.size ∧ i = .int .i64 (k : Int) ∧ Hid (∀ j, j < k → ∀ h : j < t.size, 48 ≤ (t[j].toNat : Int) ∧ (t[j].toNat : Int) ≤ 57)) (fun i => t.size - (intOf i).toNat)
      case atStart => exact ⟨0, Nat.zero_le _, rfl, Lib.hid (fun j h => absurd h (by omega))⟩
      case round =>
        obtain ⟨k, hk, rfl, ha⟩ := hrel
        by_cases hlt : k < t.size
        · by_cases c1 : (t[k].toNat : Int) < 48
          · go_wp2
            go_ret
            exact ⟨rfl, rfl⟩
          have c1' : 48 ≤ (t[k].toNat : Int) := by omega
          by_cases c2 : 57 < (t[k].toNat : Int)
          · go_wp2
            go_ret
            exact ⟨rfl, rfl⟩
          · have c2' : (t[k].toNat : Int) ≤ 57 := by omega
            go_wp2
            go_round
            case rel => exact ⟨k + 1, by omega, by go_num, Lib.hid (upto_step ha.out ⟨c1', c2'⟩)⟩
            case measure => simp [intOf]; omega
        · exact absurd (all_of_upto (by omega) ha.out) (by rw [HN.out]; simp)
  · have HA := Lib.hid (upto_of_all hall)
    clear hll hd hg hhead hne h48 hall
    rcases Nat.lt_or_ge 1 t.size with g1 | g1
    all_goals
      go_enter Tryd.func65, Tryd.ntmps65
      go_wp2
      go_loop [39] (fun i => ∃ k : Nat, k ≤ t.size ∧ i = .int .i64 (k : Int)) (fun i => t.size - (intOf i).toNat)
      case atStart => exact ⟨0, Nat.zero_le _, rfl⟩
      case round =>
        obtain ⟨k, hk, rfl⟩ := hrel
        by_cases hlt : k < t.size
        · obtain ⟨c1, c2⟩ := HA.out k hlt
          go_wp2
          go_round
          case rel => exact ⟨k + 1, by omega, by go_num⟩
          case measure => simp [intOf]; omega
        · go_wp2
          go_ret
          exact ⟨rfl, rfl⟩

end Num
end Go.Proofs.YtghjflmanldjlaaDoor
