/-
  The contract of Parse.
-/
import Derived.Test.YtghjflmanldjlaaDoorNumG
namespace Go.Proofs.YtghjflmanldjlaaDoor
open Go.RowKit
namespace Num

/-- The number that digits make behind a, unless it is too great. -/
def scan : Nat → List UInt8 → Option Nat
  | a, [] => some a
  | a, c :: r => if a * 10 + (c.toNat - 48) ≤ 1000000000000 then scan (a * 10 + (c.toNat - 48)) r else none
def negL (l : List UInt8) : Bool := Lib.hasPrefix l [45]
def bodyL (l : List UInt8) : List UInt8 := Lib.trimPrefix l [45]
def okL (l : List UInt8) : Bool := decB (bodyL l) && !(negL l && bodyL l == [48])
def finV (neg : Bool) : Option Nat → Int
  | some n => if neg then -(n : Int) else n
  | none => 0
def finE : Option Nat → Int
  | some _ => 0
  | none => 2
def parV (l : List UInt8) : Int := if okL l then finV (negL l) (scan 0 (bodyL l)) else 0
def parE (l : List UInt8) : Int := if okL l then finE (scan 0 (bodyL l)) else 1
theorem scan_drop {l : List UInt8} {k a : Nat} (h : k < l.length) : scan a (l.drop k) = if a * 10 + (l[k].toNat - 48) ≤ 1000000000000 then scan (a * 10 + (l[k].toNat - 48)) (l.drop (k + 1)) else none := by
  rw [List.drop_eq_getElem_cons h, scan]

/-- The loop of Parse, whatever stands ahead of it. -/
theorem bodyL_len (l : List UInt8) : (bodyL l).length ≤ l.length := by
  unfold bodyL Lib.trimPrefix
  split
  · simp
  · exact Nat.le_refl _

def isDecimalOk (d : ByteArray) : Prop := ∀ w : World, Calls Tryd.prog 63 #[.string d] w fun e w' => e = .returned (.bool true) ∧ w = w'
set_option maxHeartbeats 1000000 in
theorem parse_core (s d : ByteArray) (neg : Bool) (hs : d.size ≤ maxLen) (w : World)
    (hcut : Hid (∀ w, Calls Tryd.prog 62 #[.string s, .string ⟨#[45]⟩] w fun e w' => e = .returned (.tuple #[.string d, .bool neg]) ∧ w' = w))
    (hd : Hid (decB d.toList = true)) (hn : Hid ((neg && d.toList == [48]) = false)) :
    Calls Tryd.prog 53 #[.string s] w fun e w' => e = pair (finV neg (scan 0 d.toList)) (finE (scan 0 d.toList)) ∧ w = w' := by
  unfold maxLen at hs
  have hx : d.toList = d.data.toList := Go.ByteArray.toList_eq d
  have HL : Hid (d.toList.length = d.size) := Lib.hid (by rw [hx]; simp)
  have HA : Hid (d.toList.all isDig = true) := by
    refine Lib.hid ?_
    have := hd.out
    simp only [decB, Bool.and_eq_true] at this
    exact this.1
  have HI : Hid (isDecimalOk d) := by
    refine Lib.hid fun w => ?_
    have := isDecimal_any d hs w
    rw [← hx, hd.out] at this
    exact this
  have HX := Lib.hid hx
  clear hx
  have hn' := hn.out
  cases neg
  · clear hn'
    go_enter Tryd.func53, Tryd.ntmps53
    go_wp2_with (first | (go_at_call 62; refine (hcut.out _).mono ?_; rintro e w' ⟨rfl, rfl⟩) | (go_at_call 63; refine (HI.out _).mono ?_; rintro e w' ⟨rfl, rfl⟩))
    go_loop [6, 25] (fun n i => ∃ (a k : Nat), k ≤ d.size ∧ i = .int .i64 (k : Int) ∧ n = .int .i64 (a : Int) ∧ a ≤ 1000000000000 ∧ Hid (scan 0 d.toList = scan a (d.toList.drop k))) (fun _ i => d.size - (intOf i).toNat)
    case atStart => exact ⟨0, 0, Nat.zero_le _, rfl, rfl, by omega, Lib.hid rfl⟩
    case round =>
      obtain ⟨a, k, hk, rfl, rfl, ha, hr⟩ := hrel
      by_cases hlt : k < d.size
      · have hlt' : k < d.toList.length := by rw [HL.out]; exact hlt
        have hg : d.toList[k] = d[k] := by simp only [HX.out]; rfl
        obtain ⟨c1, c2⟩ := dig_bd (all_get HA.out hlt')
        rw [hg] at c1 c2
        have hsd := scan_drop (a := a) hlt'
        rw [hg] at hsd
        have HS := Lib.hid hsd
        clear hsd hg hlt'
        by_cases hm : (a : Int) * 10 + ((d[k].toNat : Int) - 48) ≤ 1000000000000
        · have hv := Lib.hid (vld_of (n := (a : Int) * 10 + ((d[k].toNat : Int) - 48)) (by omega) hm)
          go_wp2_with (go_at_call 64; refine (valid_any _ _).mono ?_; rintro e w' ⟨rfl, rfl⟩; rw [hv.out])
          go_round
          case rel => exact ⟨a * 10 + (d[k].toNat - 48), k + 1, by omega, by go_num, congrArg (Value.int .i64) (by omega), by omega, Lib.hid (by rw [hr.out, HS.out, if_pos (by omega)])⟩
          case measure => simp [intOf]; omega
        · have hv := Lib.hid (vld_not (n := (a : Int) * 10 + ((d[k].toNat : Int) - 48)) (by omega))
          have hz := Lib.hid (show scan 0 d.toList = none by rw [hr.out, HS.out, if_neg (by omega)])
          go_wp2_with (go_at_call 64; refine (valid_any _ _).mono ?_; rintro e w' ⟨rfl, rfl⟩; rw [hv.out])
          go_ret2
          exact ⟨by rw [hz.out]; rfl, rfl⟩
      · have hz := Lib.hid (show scan 0 d.toList = some a by rw [hr.out, List.drop_eq_nil_of_le (by rw [HL.out]; omega)]; rfl)
        go_wp2
        go_ret2
        exact ⟨by rw [hz.out]; rfl, rfl⟩
  · have hz0 : (d.toList == [48]) = false := by simpa using hn'
    clear hn'
    go_enter Tryd.func53, Tryd.ntmps53
    go_wp2_with (first | (go_at_call 62; refine (hcut.out _).mono ?_; rintro e w' ⟨rfl, rfl⟩) | (go_at_call 63; refine (HI.out _).mono ?_; rintro e w' ⟨rfl, rfl⟩))
    go_loop [6, 25] (fun n i => ∃ (a k : Nat), k ≤ d.size ∧ i = .int .i64 (k : Int) ∧ n = .int .i64 (a : Int) ∧ a ≤ 1000000000000 ∧ Hid (scan 0 d.toList = scan a (d.toList.drop k))) (fun _ i => d.size - (intOf i).toNat)
    case atStart => exact ⟨0, 0, Nat.zero_le _, rfl, rfl, by omega, Lib.hid rfl⟩
    case round =>
      obtain ⟨a, k, hk, rfl, rfl, ha, hr⟩ := hrel
      by_cases hlt : k < d.size
      · have hlt' : k < d.toList.length := by rw [HL.out]; exact hlt
        have hg : d.toList[k] = d[k] := by simp only [HX.out]; rfl
        obtain ⟨c1, c2⟩ := dig_bd (all_get HA.out hlt')
        rw [hg] at c1 c2
        have hsd := scan_drop (a := a) hlt'
        rw [hg] at hsd
        have HS := Lib.hid hsd
        clear hsd hg hlt'
        by_cases hm : (a : Int) * 10 + ((d[k].toNat : Int) - 48) ≤ 1000000000000
        · have hv := Lib.hid (vld_of (n := (a : Int) * 10 + ((d[k].toNat : Int) - 48)) (by omega) hm)
          go_wp2_with (go_at_call 64; refine (valid_any _ _).mono ?_; rintro e w' ⟨rfl, rfl⟩; rw [hv.out])
          go_round
          case rel => exact ⟨a * 10 + (d[k].toNat - 48), k + 1, by omega, by go_num, congrArg (Value.int .i64) (by omega), by omega, Lib.hid (by rw [hr.out, HS.out, if_pos (by omega)])⟩
          case measure => simp [intOf]; omega
        · have hv := Lib.hid (vld_not (n := (a : Int) * 10 + ((d[k].toNat : Int) - 48)) (by omega))
          have hz := Lib.hid (show scan 0 d.toList = none by rw [hr.out, HS.out, if_neg (by omega)])
          go_wp2_with (go_at_call 64; refine (valid_any _ _).mono ?_; rintro e w' ⟨rfl, rfl⟩; rw [hv.out])
          go_ret2
          exact ⟨by rw [hz.out]; rfl, rfl⟩
      · have hz := Lib.hid (show scan 0 d.toList = some a by rw [hr.out, List.drop_eq_nil_of_le (by rw [HL.out]; omega)]; rfl)
        go_wp2
        go_ret2
        exact ⟨by rw [hz.out]; rfl, rfl⟩

theorem parse_no (s d : ByteArray) (neg b : Bool) (w : World)
    (hcut : Hid (∀ w, Calls Tryd.prog 62 #[.string s, .string ⟨#[45]⟩] w fun e w' => e = .returned (.tuple #[.string d, .bool neg]) ∧ w' = w))
    (hd : Hid (∀ w : World, Calls Tryd.prog 63 #[.string d] w fun e w' => e = .returned (.bool b) ∧ w = w')) (hn : (b && !(neg && d.toList == [48])) = false) :
    Calls Tryd.prog 53 #[.string s] w fun e w' => e = pair 0 1 ∧ w = w' := by
  unfold pair
  cases b
  · clear hn
    go_enter Tryd.func53, Tryd.ntmps53
    go_wp2_with (first | (go_at_call 62; refine (hcut.out _).mono ?_; rintro e w' ⟨rfl, rfl⟩) | (go_at_call 63; refine (hd.out _).mono ?_; rintro e w' ⟨rfl, rfl⟩))
    go_ret2
    exact ⟨rfl, rfl⟩
  · cases neg
    · simp at hn
    · have hz : d.toList = [48] := by simpa using hn
      clear hn
      go_enter Tryd.func53, Tryd.ntmps53
      go_wp2_with (first | (go_at_call 62; refine (hcut.out _).mono ?_; rintro e w' ⟨rfl, rfl⟩) | (go_at_call 63; refine (hd.out _).mono ?_; rintro e w' ⟨rfl, rfl⟩))
      go_ret2
      exact ⟨rfl, rfl⟩
theorem parse_any (s : ByteArray) (hs : s.size ≤ maxLen) (w : World) :
    Calls Tryd.prog 53 #[.string s] w fun e w' => e = pair (parV s.toList) (parE s.toList) ∧ w = w' := by
  have hx : s.toList = s.data.toList := Go.ByteArray.toList_eq s
  have hcut := Lib.hid (fun w => Tryd.strings_CutPrefix s ⟨#[45]⟩ w)
  have h45 : (⟨#[45]⟩ : ByteArray).data.toList = [45] := rfl
  rw [h45, ← hx] at hcut
  have hb : bodyL s.toList = Lib.trimPrefix s.toList [45] := rfl
  have hn : negL s.toList = Lib.hasPrefix s.toList [45] := rfl
  rw [← hb, ← hn] at hcut
  clear hb hn h45
  have hdl : (⟨(bodyL s.toList).toArray⟩ : ByteArray).toList = bodyL s.toList := Go.ByteArray.toList_mk _
  have hds : (⟨(bodyL s.toList).toArray⟩ : ByteArray).size ≤ maxLen := by
    have h1 := bodyL_len s.toList
    have h2 : s.toList.length = s.size := by rw [hx]; simp
    show (bodyL s.toList).toArray.size ≤ maxLen
    simp only [List.size_toArray]
    omega
  unfold parV parE okL
  generalize hd : (⟨(bodyL s.toList).toArray⟩ : ByteArray) = d at *
  rw [← hdl]
  generalize negL s.toList = neg at *
  cases hok : (decB d.toList && !(neg && d.toList == [48]))
  · have hI : Hid (∀ w : World, Calls Tryd.prog 63 #[.string d] w fun e w' => e = .returned (.bool (decB d.toList)) ∧ w = w') := Lib.hid fun w => by
      have := isDecimal_any d hds w
      rw [← Go.ByteArray.toList_eq d] at this
      exact this
    exact parse_no s d neg _ w hcut hI hok
  · obtain ⟨h1, h2⟩ : decB d.toList = true ∧ (neg && d.toList == [48]) = false := by
      rw [Bool.and_eq_true, Bool.not_eq_true'] at hok
      exact hok
    exact parse_core s d neg hds w hcut (Lib.hid h1) (Lib.hid h2)

end Num
end Go.Proofs.YtghjflmanldjlaaDoor
