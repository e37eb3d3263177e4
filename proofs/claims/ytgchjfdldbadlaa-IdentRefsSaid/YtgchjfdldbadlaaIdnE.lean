/-
  Layer 5, the reference: Name, ID, Pattern, find, open, begins.
-/
import Derived.Test.YtgchjfdldbadlaaIdnD
import Derived.Lib.Strings
import Derived.SliceStrings
import Derived.Laws.DeepStrings4
namespace Go.Proofs.Ytgchjfdldbadlaa
open Go.RowKit
namespace Idn

theorem tail_yes {r : Int} (h : tailR r = true) : smallR r = true ∨ (smallR r = false ∧ digR r = true) ∨ (smallR r = false ∧ digR r = false ∧ r = 45) ∨ (smallR r = false ∧ digR r = false ∧ ¬ r = 45 ∧ r = 95) := by
  unfold tailR at h
  cases hs : smallR r <;> cases hd : digR r <;> simp_all
  omega
theorem tail_no {r : Int} (h : tailR r = false) : smallR r = false ∧ digR r = false ∧ ¬ r = 45 ∧ ¬ r = 95 := by
  unfold tailR at h
  cases hs : smallR r <;> cases hd : digR r <;> simp_all
set_option maxHeartbeats 400000 in
theorem rname_any (s : ByteArray) (hs : s.size ≤ maxLen) (w : World) :
    Calls Try.prog 11 #[.string s] w fun e w' => e = .returned (.bool (nameB s.toList)) ∧ w = w' := by
  unfold maxLen at hs
  by_cases h0 : s.size = 0
  · have hz := Lib.hid (name_no (Or.inl h0))
    obtain rfl := empty_str h0
    go_enter Try.func11, Try.ntmps11
    go_wp2
    go_ret
    exact ⟨by rw [hz.out]; rfl, rfl⟩
  by_cases h1 : 24 < s.size
  · have hz := Lib.hid (name_no (Or.inr h1))
    go_enter Try.func11, Try.ntmps11
    go_wp2
    go_ret
    exact ⟨by rw [hz.out]; rfl, rfl⟩
  have hN := nm_name s (by omega) (by omega)
  have hst := nm_step s 0 (by omega)
  rw [if_pos rfl, ← small_byte] at hst
  cases hsm : smallR (s[0].toNat : Int) with
  | false =>
    rw [hsm, Bool.false_and] at hst
    have hz := Lib.hid (hN.symm.trans hst)
    have H := Lib.hid hsm
    clear hsm hst hN
    go_enter Try.func11, Try.ntmps11
    go_wp2_with (go_at_call 36; refine (rsmall_any _ _).mono ?_; rintro e w' ⟨rfl, rfl⟩; rw [H.out])
    go_ret
    exact ⟨by rw [hz.out]; rfl, rfl⟩
  | true =>
    rw [hsm, Bool.true_and] at hst
    have hz := Lib.hid (hst.symm.trans hN)
    have H := Lib.hid hsm
    clear hsm hst hN
    go_enter Try.func11, Try.ntmps11
    go_wp2_with (go_at_call 36; refine (rsmall_any _ _).mono ?_; rintro e w' ⟨rfl, rfl⟩; rw [H.out])
    go_loop [3] (fun i => ∃ k : Nat, i = .int .i64 (k : Int) ∧ 1 ≤ k ∧ k ≤ s.size ∧ Hid (nmAt s.toList k = nameB s.toList)) (fun i => s.size - (intOf i).toNat)
    case atStart => exact ⟨1, rfl, by omega, by omega, hz⟩
    case round =>
      obtain ⟨k, rfl, hk1, hk, hr⟩ := hrel
      clear H hz
      by_cases hp : k < s.size
      · have hst := nm_step s k hp
        rw [if_neg (by omega), ← tail_byte] at hst
        have hst2 := hr.out.symm.trans hst
        clear hst hr
        cases ht : tailR (s[k].toNat : Int) with
        | true =>
          rw [ht, Bool.true_and] at hst2
          have hn := Lib.hid hst2.symm
          clear hst2
          rcases tail_yes ht with hsm | ⟨hsm, hdg⟩ | ⟨hsm, hdg, h45⟩ | ⟨hsm, hdg, h45, h95⟩
          · have H := Lib.hid hsm
            have H2 := Lib.hid True.intro
            clear hsm ht
            go_wp2_with (first | (go_at_call 36; refine (rsmall_any _ _).mono ?_; rintro e w' ⟨rfl, rfl⟩; rw [H.out]) | (go_at_call 37; refine (rdigit_any _ _).mono ?_; rintro e w' ⟨rfl, rfl⟩; rw [H2.out]))
            go_round
            case rel => exact ⟨k + 1, by go_num, by omega, by omega, hn⟩
            case measure => simp [intOf]; omega
          all_goals
            first | rw [h95] at hsm hdg | rw [h45] at hsm hdg | skip
            have H := Lib.hid hsm
            have H2 := Lib.hid hdg
            clear hsm hdg ht
            go_wp2_with (first | (go_at_call 36; refine (rsmall_any _ _).mono ?_; rintro e w' ⟨rfl, rfl⟩; rw [H.out]) | (go_at_call 37; refine (rdigit_any _ _).mono ?_; rintro e w' ⟨rfl, rfl⟩; rw [H2.out]))
            go_round
            case rel => exact ⟨k + 1, by go_num, by omega, by omega, hn⟩
            case measure => simp [intOf]; omega
        | false =>
          rw [ht, Bool.false_and] at hst2
          have hn := Lib.hid hst2
          obtain ⟨hsm, hdg, g45, g95⟩ := tail_no ht
          have h45 : ((s[k].toNat : Int) != 45) = true := by simpa using g45
          have h95 : ((s[k].toNat : Int) != 95) = true := by simpa using g95
          clear g45 g95
          have H := Lib.hid hsm
          have H2 := Lib.hid hdg
          clear hsm hdg ht hst2
          go_wp2_with (first | (go_at_call 36; refine (rsmall_any _ _).mono ?_; rintro e w' ⟨rfl, rfl⟩; rw [H.out]) | (go_at_call 37; refine (rdigit_any _ _).mono ?_; rintro e w' ⟨rfl, rfl⟩; rw [H2.out]))
          go_ret
          exact ⟨by rw [hn.out]; rfl, rfl⟩
      · obtain rfl : k = s.size := by omega
        have hz := Lib.hid ((nm_end s (by omega)).symm.trans hr.out)
        clear hr
        go_wp2
        go_ret
        exact ⟨by rw [← hz.out]; rfl, rfl⟩
theorem rid_any (s : ByteArray) (hs : s.size ≤ maxLen) (w : World) :
    Calls Try.prog 13 #[.string s] w fun e w' => e = .returned (.bool (idB s.toList)) ∧ w = w' := by
  unfold maxLen at hs
  by_cases h0 : s.size = 0
  · have hz := Lib.hid (id_no (Or.inl h0))
    obtain rfl := empty_str h0
    go_enter Try.func13, Try.ntmps13
    go_wp2
    go_ret
    exact ⟨by rw [hz.out]; rfl, rfl⟩
  by_cases h1 : 64 < s.size
  · have hz := Lib.hid (id_no (Or.inr h1))
    go_enter Try.func13, Try.ntmps13
    go_wp2
    go_ret
    exact ⟨by rw [hz.out]; rfl, rfl⟩
  have hN := Lib.hid (id_id s (by omega) (by omega))
  go_enter Try.func13, Try.ntmps13
  go_wp2
  go_loop [3] (fun i => ∃ k : Nat, i = .int .i64 (k : Int) ∧ k ≤ s.size ∧ Hid (idAt s.toList k = idB s.toList)) (fun i => s.size - (intOf i).toNat)
  case atStart => exact ⟨0, rfl, by omega, hN⟩
  case round =>
    obtain ⟨k, rfl, hk, hr⟩ := hrel
    by_cases hp : k < s.size
    · have hst := id_step s k hp
      rw [← part_byte] at hst
      cases ht : partR (s[k].toNat : Int) with
      | true =>
        rw [ht, Bool.true_and] at hst
        have hn := Lib.hid (hst.symm.trans hr.out)
        have H := Lib.hid ht
        clear hst hr ht
        go_wp2_with (go_at_call 39; refine (rpart_any _ _).mono ?_; rintro e w' ⟨rfl, rfl⟩; rw [H.out])
        go_round
        case rel => exact ⟨k + 1, by go_num, by omega, hn⟩
        case measure => simp [intOf]; omega
      | false =>
        rw [ht, Bool.false_and] at hst
        have hn := Lib.hid (hst.symm.trans hr.out)
        have H := Lib.hid ht
        clear hst hr ht
        go_wp2_with (go_at_call 39; refine (rpart_any _ _).mono ?_; rintro e w' ⟨rfl, rfl⟩; rw [H.out])
        go_ret
        exact ⟨by rw [← hn.out]; rfl, rfl⟩
    · obtain rfl : k = s.size := by omega
      have hz := Lib.hid ((id_end s).symm.trans hr.out)
      clear hr
      go_wp2
      go_ret
      exact ⟨by rw [← hz.out]; rfl, rfl⟩
theorem pat_no {s : ByteArray} (h : s.size = 0 ∨ 64 < s.size) : patB s.toList = false := by
  have hl := toL_len s
  unfold patB
  rcases h with h | h
  · rw [decide_eq_false (show ¬ 1 ≤ s.toList.length by omega)]; rfl
  · rw [decide_eq_false (show ¬ s.toList.length ≤ 64 by omega)]; simp
/-- The last byte of a pattern. -/
def lastB (c : UInt8) : Bool := partB c || c == 42
theorem last_get (s : ByteArray) (h : 0 < s.size) : s.toList.getLast? = some (s[s.size - 1]'(by omega)) := by
  have hl := toL_len s
  rw [List.getLast?_eq_getElem?, hl, List.getElem?_eq_getElem (by omega), toL_get s (s.size - 1) (by omega)]
theorem drop_last (s : ByteArray) : s.toList.dropLast = s.toList.take (s.size - 1) := by
  rw [List.dropLast_eq_take, toL_len]
def ptAt (s : ByteArray) (k : Nat) : Bool := (s.toList.dropLast.drop k).all partB
theorem pat_parts (s : ByteArray) (h : 0 < s.size) (h2 : s.size ≤ 64) : patB s.toList = (ptAt s 0 && lastB (s[s.size - 1]'(by omega))) := by
  have hl := toL_len s
  unfold patB ptAt lastB
  rw [List.drop_zero, decide_eq_true (show 1 ≤ s.toList.length by omega), decide_eq_true (show s.toList.length ≤ 64 by omega), last_get s h]
  rfl
theorem pt_step (s : ByteArray) (k : Nat) (h : k + 1 < s.size) : ptAt s k = (partB s[k] && ptAt s (k + 1)) := by
  have hl : k < s.toList.length := by rw [toL_len]; omega
  have hl2 : k < s.toList.dropLast.length := by rw [List.length_dropLast, toL_len]; omega
  have e := List.drop_eq_getElem_cons hl2
  rw [List.getElem_dropLast, toL_get s k (by omega)] at e
  unfold ptAt
  rw [e, List.all_cons]
theorem pt_end (s : ByteArray) (k : Nat) (h : s.size ≤ k + 1) : ptAt s k = true := by
  unfold ptAt
  rw [List.drop_of_length_le (by rw [List.length_dropLast, toL_len]; omega)]
  rfl
theorem byte_is42 (c : UInt8) : ((c.toNat : Int) == 42) = (c == 42) := byte_is c 42 (by omega)
theorem pat_last (s : ByteArray) (k : Nat) (hk : s.size = k + 1) (h2 : s.size ≤ 64) : patB s.toList = (ptAt s 0 && lastB (s[k]'(by omega))) := by
  have := pat_parts s (by omega) h2
  obtain rfl : k = s.size - 1 := by omega
  exact this
theorem open_last (s : ByteArray) (k : Nat) (hk : s.size = k + 1) : openB s.toList = (((s[k]'(by omega)).toNat : Int) == 42) := by
  have := last_get s (by omega)
  obtain rfl : k = s.size - 1 := by omega
  unfold openB
  rw [this, byte_is42]
  rfl
/-- The byte at a place. -/
theorem idx_str (s : ByteArray) (k : IntKind) (z : Int) (i : Nat) (hz : z = (i : Int)) (h : i < s.size) (w : World) : (Instr.index 9 (.string s) (.int k z)).run Try.prog w = .ok (.int .u8 (s[i].toNat : Int)) w := by
  subst hz
  rw [run_index_string w 9 s k _ Try.underlying9, dif_pos ⟨by omega, by omega⟩]
  have e : ((i : Int)).toNat = i := by omega
  simp only [e]
set_option maxHeartbeats 400000 in
theorem rpattern_any (s : ByteArray) (hs : s.size ≤ maxLen) (w : World) :
    Calls Try.prog 15 #[.string s] w fun e w' => e = .returned (.bool (patB s.toList)) ∧ w = w' := by
  unfold maxLen at hs
  by_cases h0 : s.size = 0
  · have hz := Lib.hid (pat_no (Or.inl h0))
    obtain rfl := empty_str h0
    go_enter Try.func15, Try.ntmps15
    go_wp2
    go_ret
    exact ⟨by rw [hz.out]; rfl, rfl⟩
  by_cases h1 : 64 < s.size
  · have hz := Lib.hid (pat_no (Or.inr h1))
    go_enter Try.func15, Try.ntmps15
    go_wp2
    go_ret
    exact ⟨by rw [hz.out]; rfl, rfl⟩
  have hN := Lib.hid (pat_parts s (by omega) (by omega))
  go_enter Try.func15, Try.ntmps15
  go_wp2
  go_loop [3] (fun i => ∃ k : Nat, i = .int .i64 (k : Int) ∧ k < s.size ∧ Hid (ptAt s k = ptAt s 0)) (fun i => s.size - (intOf i).toNat)
  case atStart => exact ⟨0, rfl, by omega, Lib.hid rfl⟩
  case round =>
    obtain ⟨k, rfl, hk, hr⟩ := hrel
    by_cases hp : k + 1 < s.size
    · have hst := pt_step s k hp
      rw [← part_byte] at hst
      cases ht : partR (s[k].toNat : Int) with
      | true =>
        rw [ht, Bool.true_and] at hst
        have hn := Lib.hid (hst.symm.trans hr.out)
        have H := Lib.hid ht
        clear hst hr ht
        go_wp2_with (go_at_call 39; refine (rpart_any _ _).mono ?_; rintro e w' ⟨rfl, rfl⟩; rw [H.out])
        go_round
        case rel => exact ⟨k + 1, by go_num, by omega, hn⟩
        case measure => simp [intOf]; omega
      | false =>
        rw [ht, Bool.false_and] at hst
        have hn := Lib.hid (hst.symm.trans hr.out)
        have H := Lib.hid ht
        clear hst hr ht
        go_wp2_with (go_at_call 39; refine (rpart_any _ _).mono ?_; rintro e w' ⟨rfl, rfl⟩; rw [H.out])
        go_ret
        exact ⟨by rw [hN.out, ← hn.out]; rfl, rfl⟩
    · have hz := pat_last s k (by omega) (by omega)
      rw [← hr.out, pt_end s k (by omega), Bool.true_and] at hz
      have x0 := fun w => idx_str s .i64 ((s.size : Int) - 1) k (by omega) hk w
      clear hr hN
      cases ht : partR (s[k].toNat : Int) with
      | true =>
        have hz2 := Lib.hid (hz.trans (by unfold lastB; rw [← part_byte, ht]; rfl) : patB s.toList = true)
        have H := Lib.hid ht
        clear ht hz
        go_wp2_with (go_at_call 39; refine (rpart_any _ _).mono ?_; rintro e w' ⟨rfl, rfl⟩; rw [H.out])
        go_ret
        exact ⟨by rw [hz2.out]; rfl, rfl⟩
      | false =>
        obtain ⟨b, hb⟩ : ∃ b, ((s[k].toNat : Int) == 42) = b := ⟨_, rfl⟩
        have hz2 := Lib.hid (hz.trans (by unfold lastB; rw [← part_byte, ht, ← byte_is42, hb]; rfl) : patB s.toList = b)
        have H := Lib.hid ht
        clear ht hz
        go_wp2_with (go_at_call 39; refine (rpart_any _ _).mono ?_; rintro e w' ⟨rfl, rfl⟩; rw [H.out])
        go_ret
        exact ⟨by rw [hz2.out]; rfl, rfl⟩
/-- Pieces of a string: the first bytes, all from a place on, what lies between. -/
theorem cutS (s : ByteArray) (i j : Nat) (zi zj : Int) (hi : zi = (i : Int)) (hj : zj = (j : Int)) (h1 : i ≤ j) (h2 : j ≤ s.size) (w : World) :
    (Instr.slice 9 (.string s) (some (.int .i64 zi)) (some (.int .i64 zj)) none).run Try.prog w = .ok (.string ⟨((s.toList.drop i).take (j - i)).toArray⟩) w := by
  subst hi hj
  rw [run_slice_string_if w 9 s .i64 .i64 (i : Int) (j : Int) Try.underlying9, if_pos ⟨by omega, by omega⟩, if_pos ⟨by omega, by omega⟩, Lib.extract_eq, toL]
  simp only [Int.toNat_natCast]
theorem ropen_any (s : ByteArray) (h : 0 < s.size) (hs : s.size ≤ maxLen) (w : World) :
    Calls Try.prog 52 #[.string s] w fun e w' => e = .returned (.bool (openB s.toList)) ∧ w = w' := by
  unfold maxLen at hs
  obtain ⟨k, hk⟩ : ∃ k, s.size = k + 1 := ⟨s.size - 1, by omega⟩
  have hk1 : k < s.size := by omega
  have hk2 : (s.size : Int) - 1 = (k : Int) := by omega
  have x0 := fun w => idx_str s .i64 ((s.size : Int) - 1) k hk2 hk1 w
  obtain ⟨b, hb⟩ : ∃ b, ((s[k].toNat : Int) == 42) = b := ⟨_, rfl⟩
  have hz := Lib.hid ((open_last s k hk).trans hb)
  clear hk hk2
  go_enter Try.func52, Try.ntmps52
  go_wp2
  go_ret
  exact ⟨by rw [hz.out]; rfl, rfl⟩
end Idn
end Go.Proofs.Ytgchjfdldbadlaa
