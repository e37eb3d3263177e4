/-
  What Parse and its reference read.
-/
import Derived.Test.YtghjflmanldjlaaDoorNumA
import Derived.Test.YtghjflmanldjlaaDoorShelf
namespace Go.Proofs.YtghjflmanldjlaaDoor
open Go.RowKit
namespace Num

def isDig (c : UInt8) : Bool := decide (48 ≤ c.toNat) && decide (c.toNat ≤ 57)
/-- The decimal form of a number that is not negative. -/
def decB (l : List UInt8) : Bool := l.all isDig && (l == [48] || (!l.isEmpty && l.head? != some 48))

theorem all_take {l : List UInt8} {k : Nat} (h : k < l.length) : (l.take (k + 1)).all isDig = ((l.take k).all isDig && isDig l[k]) := by
  rw [List.take_succ_eq_append_getElem h, List.all_append, List.all_cons, List.all_nil, Bool.and_true]
theorem dig_of {c : UInt8} (h1 : 48 ≤ (c.toNat : Int)) (h2 : (c.toNat : Int) ≤ 57) : isDig c = true := by
  simp only [isDig, Bool.and_eq_true, decide_eq_true_eq]; omega
theorem dig_bd {c : UInt8} (h : isDig c = true) : 48 ≤ (c.toNat : Int) ∧ (c.toNat : Int) ≤ 57 := by
  simp only [isDig, Bool.and_eq_true, decide_eq_true_eq] at h; omega
theorem all_get {l : List UInt8} (h : l.all isDig = true) {k : Nat} (hk : k < l.length) : isDig l[k] = true := List.all_eq_true.1 h _ (List.getElem_mem hk)
theorem not_all {l : List UInt8} {k : Nat} (h : k < l.length) (hk : isDig l[k] = false) : l.all isDig = false := by
  rw [List.all_eq_false]
  exact ⟨l[k], List.getElem_mem h, by simp [hk]⟩

set_option maxHeartbeats 1000000 in
theorem isDecimal_any (s : ByteArray) (hs : s.size ≤ maxLen) (w : World) :
    Calls Tryd.prog 63 #[.string s] w fun e w' => e = .returned (.bool (decB s.data.toList)) ∧ w = w' := by
  unfold maxLen at hs
  have hll : s.data.toList.length = s.size := by simp
  by_cases hall : s.data.toList.all isDig = true
  · have hx : s.toList = s.data.toList := Go.ByteArray.toList_eq s
    have H := Lib.hid hall
    have HL := Lib.hid hll
    by_cases g1 : s.toList = [48]
    · have hd := Lib.hid (show decB s.data.toList = true by rw [← hx, g1]; rfl)
      rw [hd.out]
      clear hx hall hll
      go_enter Tryd.func63, Tryd.ntmps63
      go_wp2
      go_loop [6] (fun i => ∃ k : Nat, k ≤ s.size ∧ i = .int .i64 (k : Int)) (fun i => s.size - (intOf i).toNat)
      case atStart => exact ⟨0, Nat.zero_le _, rfl⟩
      case round =>
        obtain ⟨k, hk, rfl⟩ := hrel
        by_cases hlt : k < s.size
        · obtain ⟨c1, c2⟩ := dig_bd (all_get H.out (k := k) (by rw [HL.out]; exact hlt))
          have c1' : 48 ≤ (s[k].toNat : Int) := c1
          have c2' : (s[k].toNat : Int) ≤ 57 := c2
          clear c1 c2
          go_wp2
          go_round
          case rel => exact ⟨k + 1, by omega, by go_num⟩
          case measure => simp [intOf]; omega
        · go_wp2
          go_ret
          exact ⟨rfl, rfl⟩
    by_cases g2 : s.toList = []
    · have hd := Lib.hid (show decB s.data.toList = false by rw [← hx, g2]; rfl)
      rw [hd.out]
      clear hx hall hll
      go_enter Tryd.func63, Tryd.ntmps63
      go_wp2
      go_loop [6] (fun i => ∃ k : Nat, k ≤ s.size ∧ i = .int .i64 (k : Int)) (fun i => s.size - (intOf i).toNat)
      case atStart => exact ⟨0, Nat.zero_le _, rfl⟩
      case round =>
        obtain ⟨k, hk, rfl⟩ := hrel
        by_cases hlt : k < s.size
        · obtain ⟨c1, c2⟩ := dig_bd (all_get H.out (k := k) (by rw [HL.out]; exact hlt))
          have c1' : 48 ≤ (s[k].toNat : Int) := c1
          have c2' : (s[k].toNat : Int) ≤ 57 := c2
          clear c1 c2
          go_wp2
          go_round
          case rel => exact ⟨k + 1, by omega, by go_num⟩
          case measure => simp [intOf]; omega
        · go_wp2
          go_ret
          exact ⟨rfl, rfl⟩
    have hpos : 0 < s.size := by
      rw [← hll]; rw [hx] at g2; exact List.length_pos_iff.2 g2
    have hd : decB s.data.toList = ((s[0].toNat : Int) != 48) := by
      have e1 : s.data.toList.head? = some s[0] := by
        rw [List.head?_eq_getElem?, List.getElem?_eq_getElem (by omega)]; rfl
      rw [hx] at g1 g2
      simp only [decB, hall, e1, Bool.true_and]
      have : (s.data.toList == [48]) = false := by simpa using g1
      have e2 : s.data.toList.isEmpty = false := by simpa using g2
      rw [this, e2]
      by_cases h : s[0] = 48
      · simp [h]
      · have h0 : s[0].toNat ≠ 48 := fun e => h (UInt8.toNat_inj.1 (e.trans rfl))
        have h1 : (some s[0] != some (48 : UInt8)) = true := by simpa using h
        have h2 : ((s[0].toNat : Int) != 48) = true := by rw [bne_iff_ne]; omega
        rw [h1, h2]
        rfl
    rw [hd]
    have hgb : Hid ((s.toList == [48]) = false ∧ s.toList.isEmpty = false) := Lib.hid ⟨by simpa using g1, by simpa using g2⟩
    clear hd hx hall hll
    go_enter Tryd.func63, Tryd.ntmps63
    go_wp2
    go_loop [6] (fun i => ∃ k : Nat, k ≤ s.size ∧ i = .int .i64 (k : Int)) (fun i => s.size - (intOf i).toNat)
    case atStart => exact ⟨0, Nat.zero_le _, rfl⟩
    case round =>
      obtain ⟨k, hk, rfl⟩ := hrel
      by_cases hlt : k < s.size
      · obtain ⟨c1, c2⟩ := dig_bd (all_get H.out (k := k) (by rw [HL.out]; exact hlt))
        have c1' : 48 ≤ (s[k].toNat : Int) := c1
        have c2' : (s[k].toNat : Int) ≤ 57 := c2
        clear c1 c2
        go_wp2
        go_round
        case rel => exact ⟨k + 1, by omega, by go_num⟩
        case measure => simp [intOf]; omega
      · go_wp2
        go_ret
        exact ⟨by simp [hgb.out.1, hgb.out.2], rfl⟩
  · have hall' : s.data.toList.all isDig = false := by simpa using hall
    have hd : decB s.data.toList = false := by simp [decB, hall']
    rw [hd]
    have H := Lib.hid hall'
    have HL := Lib.hid hll
    clear hall hall' hd hll
    go_enter Tryd.func63, Tryd.ntmps63
    go_wp2
    go_loop [6] (fun i => ∃ k : Nat, k ≤ s.size ∧ i = .int .i64 (k : Int) ∧ Hid ((s.data.toList.take k).all isDig = true)) (fun i => s.size - (intOf i).toNat)
    case atStart => exact ⟨0, Nat.zero_le _, rfl, Lib.hid (by simp)⟩
    case round =>
      obtain ⟨k, hk, rfl, ha⟩ := hrel
      by_cases hlt : k < s.size
      · have hst := Lib.hid (all_take (l := s.data.toList) (k := k) (by rw [HL.out]; exact hlt))
        by_cases c1 : (s[k].toNat : Int) < 48
        · go_wp2
          go_ret
          exact ⟨rfl, rfl⟩
        by_cases c2 : 57 < (s[k].toNat : Int)
        · have c1' : 48 ≤ (s[k].toNat : Int) := by omega
          go_wp2
          go_ret
          exact ⟨rfl, rfl⟩
        · have c1' : 48 ≤ (s[k].toNat : Int) := by omega
          have c2' : (s[k].toNat : Int) ≤ 57 := by omega
          go_wp2
          go_round
          case rel => exact ⟨k + 1, by omega, by go_num, Lib.hid (by rw [hst.out, ha.out]; exact dig_of c1' c2')⟩
          case measure => simp [intOf]; omega
      · have he : k = s.size := by omega
        have hc := ha.out
        rw [he, ← HL.out, List.take_length, H.out] at hc
        exact absurd hc (by simp)

end Num
end Go.Proofs.YtghjflmanldjlaaDoor
