/-
  Layer 7, the reference: Text.
-/
import Derived.Test.YtghjflmanldjlaaDoorLexU
import Derived.Deep.DeepCutAuto
namespace Go.Proofs.YtghjflmanldjlaaDoor
open Go.RowKit Go.ChangeShapes Go.WideShapes
namespace Lex

theorem print_byte (c : UInt8) : printB c = (!decide ((c.toNat : Int) < 32) && !decide (126 < (c.toNat : Int))) := by
  unfold printB
  rw [Bool.eq_iff_iff]
  simp [UInt8.le_iff_toNat_le]
  omega
theorem print_step (s : ByteArray) (k : Nat) (h : k < s.size) : (s.toList.drop k).all printB = (printB s[k] && (s.toList.drop (k + 1)).all printB) := by
  rw [drop_get s k h, List.all_cons]
/-- What the reference's quoted answers. -/
def quoV (s : Txt) : Ending := if s.all printB then .returned (.tuple #[.string ⟨(34 :: (quo s ++ [34])).toArray⟩, .bool (decide (s.length ≤ 200))]) else .returned (.tuple #[.string ⟨#[]⟩, .bool false])
set_option maxHeartbeats 4000000 in
theorem rquoted_any (s : ByteArray) (hs : s.size ≤ 1000000) (w : World) :
    Calls Tryd.prog 30 #[.string s] w fun e w' => e = quoV s.toList ∧ w = w' := by
  have hV : quoV s.toList = if s.toList.all printB then .returned (.tuple #[.string ⟨(34 :: (quo s.toList ++ [34])).toArray⟩, .bool (decide (s.size ≤ 200))]) else .returned (.tuple #[.string ⟨#[]⟩, .bool false]) := by unfold quoV; rw [toL_len]
  obtain ⟨V, hV0⟩ : ∃ V, quoV s.toList = V := ⟨_, rfl⟩
  rw [hV0] at hV ⊢
  have HV := Lib.hid hV
  have hA : Hid ((s.toList.drop 0).all printB = s.toList.all printB) := Lib.hid rfl
  have hQ : Hid ((⟨#[34]⟩ : ByteArray).toList ++ quo (s.toList.drop 0) = 34 :: quo s.toList) := Lib.hid (by rw [show (⟨#[34]⟩ : ByteArray).toList = [34] from tl _]; rfl)
  generalize s.toList.all printB = B at hV hA HV
  generalize quo s.toList = Q at hQ HV hV
  clear hV hV0
  have l34 := size_lit 34
  have l92 := size_lit 92
  go_enter Tryd.func30, Tryd.ntmps30
  go_wp2
  go_loop [4, 5, 8] (fun o _ i => ∃ (k : Nat) (O : ByteArray), i = .int .i64 (k : Int) ∧ o = .string O ∧ k ≤ s.size ∧ O.size ≤ 1 + 2 * k ∧ Hid ((s.toList.drop k).all printB = B) ∧ Hid (O.toList ++ quo (s.toList.drop k) = 34 :: Q)) (fun _ _ i => s.size - (intOf i).toNat)
  case atStart => exact ⟨0, ⟨#[34]⟩, rfl, rfl, Nat.zero_le _, by rw [l34]; omega, hA, hQ⟩
  case round =>
    obtain ⟨k, O, rfl, rfl, hk, hO, hr, hq⟩ := hrel
    clear hA hQ
    by_cases hlt : k < s.size
    · have hr0 := hr.out
      have hq0 := hq.out
      rw [print_step s k hlt] at hr0
      rw [drop_get s k hlt, quo_cons] at hq0
      clear hr hq
      obtain ⟨c, hc⟩ : ∃ c, s[k] = c := ⟨_, rfl⟩
      have hi := fun w => idx_str s .i64 (k : Int) k rfl hlt w
      have sl := fun w => cut1 s k (k : Int) ((k : Int) + 1) rfl rfl hlt w
      rw [hc] at hr0 hq0 hi sl
      have lc := size_lit c
      clear hc
      by_cases hp : printB c = true
      · rw [hp, Bool.true_and] at hr0
        have hr2 := Lib.hid hr0
        rw [print_byte, Bool.and_eq_true, Bool.not_eq_true', Bool.not_eq_true', decide_eq_false_iff_not, decide_eq_false_iff_not] at hp
        obtain ⟨p1, p2⟩ := hp
        by_cases c34 : c = 34
        · subst c34
          simp only [toNat34.1] at hi p1 p2
          have hq2 : Hid (((O ++ (⟨#[92]⟩ : ByteArray)) ++ (⟨#[34]⟩ : ByteArray)).toList ++ quo (s.toList.drop (k + 1)) = 34 :: Q) := Lib.hid (by rw [app_list, app_list, ← hq0]; simp)
          clear hr0 hq0
          go_wp2
          go_round
          case rel => exact ⟨k + 1, _, by go_num, rfl, by omega, by rw [ByteArray.size_append, ByteArray.size_append, l92, l34]; omega, hr2, hq2⟩
          case measure => simp [intOf]; omega
        have n34 : ((c.toNat : Int) == 34) = false := (neb 34 (by omega) c34).1
        by_cases c92 : c = 92
        · subst c92
          simp only [toNat34.2] at hi p1 p2 n34
          have hq2 : Hid (((O ++ (⟨#[92]⟩ : ByteArray)) ++ (⟨#[92]⟩ : ByteArray)).toList ++ quo (s.toList.drop (k + 1)) = 34 :: Q) := Lib.hid (by rw [app_list, app_list, ← hq0]; simp)
          clear hr0 hq0
          go_wp2
          go_round
          case rel => exact ⟨k + 1, _, by go_num, rfl, by omega, by rw [ByteArray.size_append, ByteArray.size_append, l92]; omega, hr2, hq2⟩
          case measure => simp [intOf]; omega
        · have n92 : ((c.toNat : Int) == 92) = false := (neb 92 (by omega) c92).1
          have hq2 : Hid ((O ++ (⟨#[c]⟩ : ByteArray)).toList ++ quo (s.toList.drop (k + 1)) = 34 :: Q) := Lib.hid (by rw [app_list, ← hq0]; simp [c34, c92])
          clear hr0 hq0 c34 c92
          go_wp2
          go_round
          case rel => exact ⟨k + 1, _, by go_num, rfl, by omega, by rw [ByteArray.size_append, lc]; omega, hr2, hq2⟩
          case measure => simp [intOf]; omega
      · have hp2 : printB c = false := by simpa using hp
        rw [hp2, Bool.false_and] at hr0
        subst hr0
        have hZ := HV.out
        rw [if_neg (by decide)] at hZ
        subst hZ
        rw [print_byte, Bool.and_eq_false_iff, Bool.not_eq_false', Bool.not_eq_false', decide_eq_true_eq, decide_eq_true_eq] at hp2
        clear HV hp hq0
        by_cases p1 : (c.toNat : Int) < 32
        · clear hp2
          go_wp2
          go_ret2
          exact ⟨rfl, rfl⟩
        · have p2 : 126 < (c.toNat : Int) := by omega
          clear hp2
          go_wp2
          go_ret2
          exact ⟨rfl, rfl⟩
    · obtain rfl : k = s.size := by omega
      have hr0 := hr.out
      have hq0 := hq.out
      rw [drop_end s (Nat.le_refl _)] at hr0 hq0
      have hB : true = B := hr0
      subst hB
      have hZ := HV.out
      rw [if_pos rfl] at hZ
      subst hZ
      have hF : Hid (O ++ (⟨#[34]⟩ : ByteArray) = ⟨(34 :: (Q ++ [34])).toArray⟩) := Lib.hid (by
        have e : O.toList = 34 :: Q := by rw [← hq0]; simp [quo]
        rw [← str_back (O ++ (⟨#[34]⟩ : ByteArray)), app_list, e]; rfl)
      clear hr hq hr0 hq0 HV
      go_wp2
      go_ret2
      exact ⟨by rw [← hF.out]; simp; omega, rfl⟩
theorem turn {f : Nat} {args : Array Value} {E : Ending} {w : World} (h : Calls Tryd.prog f args w fun e w' => e = E ∧ w = w') : Calls Tryd.prog f args w fun e w' => e = E ∧ w' = w := h.mono fun _ _ k => ⟨k.1, k.2.symm⟩
end Lex
end Go.Proofs.YtghjflmanldjlaaDoor
