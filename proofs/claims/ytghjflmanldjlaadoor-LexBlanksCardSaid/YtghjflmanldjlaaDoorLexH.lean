/-
  Layer 7: blanks and comments, in the reference and in the code.
-/
import Derived.Test.YtghjflmanldjlaaDoorLexG
import Derived.Test.YtghjflmanldjlaaDoorShelf
namespace Go.Proofs.YtghjflmanldjlaaDoor
open Go.RowKit
namespace Lex

theorem eqb {c : UInt8} (n : Nat) (hn : n < 256) (h : c = UInt8.ofNat n) : ((c.toNat : Int) == (n : Int)) = true := by rw [byte_is c n hn, h]; simp
theorem neb {c : UInt8} (n : Nat) (hn : n < 256) (h : c ≠ UInt8.ofNat n) : ((c.toNat : Int) == (n : Int)) = false ∧ ((c.toNat : Int) != (n : Int)) = true := by
  have e := byte_is c n hn
  have : (c == UInt8.ofNat n) = false := by simpa using h
  rw [this] at e
  exact ⟨e, by unfold bne; rw [e]; rfl⟩
theorem blank_ways {c : UInt8} (h : blankB c = true) : c = 32 ∨ c = 9 ∨ c = 10 := by unfold blankB at h; simpa [or_assoc] using h
theorem blank_nots {c : UInt8} (h : blankB c = false) : c ≠ 32 ∧ c ≠ 9 ∧ c ≠ 10 := by
  refine ⟨?_, ?_, ?_⟩ <;> (rintro rfl; cases h)
theorem nat32 : (32 : UInt8).toNat = 32 ∧ (9 : UInt8).toNat = 9 ∧ (10 : UInt8).toNat = 10 ∧ (47 : UInt8).toNat = 47 := ⟨rfl, rfl, rfl, rfl⟩
set_option maxHeartbeats 1000000 in
theorem rskip_any (s : ByteArray) (hs : s.size ≤ maxLen) (p : Nat) (hp : p ≤ s.size) (w : World) :
    Calls Tryd.prog 24 #[.string s, .int .i64 (p : Int)] w fun e w' => e = .returned (.int .i64 ((p + skipN false (s.toList.drop p) : Nat) : Int)) ∧ w = w' := by
  unfold maxLen at hs
  obtain ⟨N, hN0⟩ : ∃ N, p + skipN false (s.toList.drop p) = N := ⟨_, rfl⟩
  have hN := Lib.hid hN0
  rw [hN0]
  clear hN0
  go_enter Tryd.func24, Tryd.ntmps24
  go_wp2
  go_loop [1] (fun i => ∃ k : Nat, i = .int .i64 (k : Int) ∧ k ≤ s.size ∧ Hid (k + skipN false (s.toList.drop k) = N)) (fun i => s.size - (intOf i).toNat)
  case atStart => exact ⟨p, rfl, hp, hN⟩
  case round =>
    obtain ⟨k, rfl, hk, hr⟩ := hrel
    clear hN
    by_cases hq : k < s.size
    · have hr0 := hr.out
      rw [drop_get s k hq] at hr0
      clear hr
      obtain ⟨c, hc⟩ : ∃ c, s[k] = c := ⟨_, rfl⟩
      rw [hc] at hr0
      have hi := fun w => idx_str s .i64 (k : Int) k rfl hq w
      rw [hc] at hi
      clear hc
      by_cases hb : blankB c = true
      · rw [skip_blank _ hb] at hr0
        have hr2 : Hid (k + 1 + skipN false (s.toList.drop (k + 1)) = N) := Lib.hid (by omega)
        clear hr0
        rcases blank_ways hb with rfl | rfl | rfl
        all_goals
          simp only [nat32.1, nat32.2.1, nat32.2.2.1] at hi
          go_wp2
          go_round
          case rel => exact ⟨k + 1, by go_num, by omega, hr2⟩
          case measure => simp [intOf]; omega
      · rw [Bool.not_eq_true] at hb
        obtain ⟨b1, b2, b3⟩ := blank_nots hb
        have f1 : ((c.toNat : Int) == 32) = false := (neb 32 (by omega) b1).1
        have f2 : ((c.toNat : Int) == 9) = false := (neb 9 (by omega) b2).1
        have f3 : ((c.toNat : Int) == 10) = false := (neb 10 (by omega) b3).1
        clear b1 b2 b3
        by_cases h47 : c = 47
        · subst h47
          simp only [nat32.2.2.2] at hi f1 f2 f3
          by_cases hq1 : k + 1 < s.size
          · obtain ⟨d, hd⟩ : ∃ d, s[k + 1] = d := ⟨_, rfl⟩
            have hi2 := fun w => idx_str s .i64 ((k : Int) + 1) (k + 1) (by omega) hq1 w
            have hz : decide ((s.size : Int) ≤ (k : Int) + 1) = false := by simp; omega
            rw [drop_get s (k + 1) hq1, hd] at hr0
            rw [hd] at hi2
            by_cases d47 : d = 47
            · subst d47
              rw [skip_note] at hr0
              have hk47 : s[k] ≠ 10 := by
                intro e
                have := hi w
                rw [idx_str s .i64 (k : Int) k rfl hq w, e] at this
                simp at this
              have hin : Hid (k + skipN true (s.toList.drop k) = N) := Lib.hid (by
                rw [← hr0, drop_get s k hq, drop_get s (k + 1) hq1, hd]
                congr 2
                have := hi w
                rw [idx_str s .i64 (k : Int) k rfl hq w] at this
                simp at this
                have e47 : s[k] = 47 := UInt8.toNat_inj.1 (by rw [nat32.2.2.2]; omega)
                rw [e47])
              simp only [nat32.2.2.2] at hi2
              clear hr0 hd hb
              go_wp2
              go_loop [1] (fun i => ∃ j : Nat, i = .int .i64 (j : Int) ∧ k ≤ j ∧ j ≤ s.size ∧ Hid (j + skipN true (s.toList.drop j) = N)) (fun i => s.size - (intOf i).toNat)
              case atStart => exact ⟨k, rfl, Nat.le_refl _, hk, hin⟩
              case round =>
                obtain ⟨j, rfl, hkj, hj, hr⟩ := hrel
                clear hi hi2 f1 f2 f3 hin
                by_cases hqj : j < s.size
                · have hr1 := hr.out
                  rw [drop_get s j hqj] at hr1
                  clear hr
                  by_cases d10 : s[j] = 10
                  · have hjk : k < j := by
                      rcases Nat.lt_or_eq_of_le hkj with h | h
                      · exact h
                      · subst h; exact absurd d10 hk47
                    rw [d10, skip_out] at hr1
                    have hr2 : Hid (j + skipN false (s.toList.drop j) = N) := Lib.hid (by rw [drop_get s j hqj, d10]; exact hr1)
                    have hi3 := fun w => idx_str s .i64 (j : Int) j rfl hqj w
                    rw [d10] at hi3
                    simp only [nat32.2.2.1] at hi3
                    clear hr1 d10 hk47
                    go_wp2
                    go_round
                    case rel => exact ⟨j, rfl, hj, hr2⟩
                    case measure => simp [intOf]; omega
                  · rw [skip_in _ d10] at hr1
                    have hr2 : Hid (j + 1 + skipN true (s.toList.drop (j + 1)) = N) := Lib.hid (by omega)
                    have f3 : ((s[j].toNat : Int) != 10) = true := (neb 10 (by omega) d10).2
                    clear hr1 d10
                    go_wp2
                    go_round
                    case rel => exact ⟨j + 1, by go_num, by omega, by omega, hr2⟩
                    case measure => simp [intOf]; omega
                · have hjk : k < j := by omega
                  have hr2 : Hid (j + skipN false (s.toList.drop j) = N) := Lib.hid (by rw [← hr.out, drop_end s (by omega)]; rfl)
                  clear hr
                  go_wp2
                  go_round
                  case rel => exact ⟨j, rfl, hj, hr2⟩
                  case measure => simp [intOf]; omega
            · have f4 : ((d.toNat : Int) != 47) = true := (neb 47 (by omega) d47).2
              rw [skip_none _ hb (by rw [List.head?_cons]; simp [d47])] at hr0
              obtain rfl : k = N := by omega
              clear hr0 hd hb d47
              go_wp2
              go_ret
              exact ⟨rfl, rfl⟩
          · rw [drop_end s (by omega), skip_none _ hb (by simp)] at hr0
            obtain rfl : k = N := by omega
            clear hr0 hb
            go_wp2
            go_ret
            exact ⟨rfl, rfl⟩
        · have f4 : ((c.toNat : Int) != 47) = true := (neb 47 (by omega) h47).2
          rw [skip_none _ hb (by simp [h47])] at hr0
          obtain rfl : k = N := by omega
          clear hr0 hb h47
          by_cases hq1 : k + 1 < s.size
          · have hz : decide ((s.size : Int) ≤ (k : Int) + 1) = false := by simp; omega
            go_wp2
            go_ret
            exact ⟨rfl, rfl⟩
          · have hz : decide ((s.size : Int) ≤ (k : Int) + 1) = true := by simp; omega
            go_wp2
            go_ret
            exact ⟨rfl, rfl⟩
    · have hr2 : k = N := by have := hr.out; rw [drop_end s (by omega)] at this; exact this
      subst hr2
      clear hr
      go_wp2
      go_ret
      exact ⟨rfl, rfl⟩
end Lex
end Go.Proofs.YtghjflmanldjlaaDoor
