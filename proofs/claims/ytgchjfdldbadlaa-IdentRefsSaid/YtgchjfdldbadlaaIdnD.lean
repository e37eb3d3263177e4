/-
  Layer 5, the code: Name and ID.
-/
import Derived.Test.YtgchjfdldbadlaaIdnC
import Derived.Test.YtgchjfdldbadlaaSls
import Derived.Laws.RangeAny
import Derived.Laws.RangeString
import Derived.Deep.LoopGhost
namespace Go.Proofs.Ytgchjfdldbadlaa
open Go.RowKit
namespace Idn

theorem small_byte (c : UInt8) : smallR (c.toNat : Int) = small c := by
  unfold smallR small
  rw [Bool.eq_iff_iff]
  simp
  omega
theorem dig_byte (c : UInt8) : digR (c.toNat : Int) = digit c := by
  unfold digR digit
  rw [Bool.eq_iff_iff]
  simp
  omega
theorem big_byte (c : UInt8) : bigR (c.toNat : Int) = big c := by
  unfold bigR big
  rw [Bool.eq_iff_iff]
  simp
  omega
theorem byte_is (c : UInt8) (n : Nat) (hn : n < 256) : ((c.toNat : Int) == (n : Int)) = (c == UInt8.ofNat n) := by
  rw [Bool.eq_iff_iff, beq_iff_eq, beq_iff_eq]
  constructor
  · intro h
    apply UInt8.toNat_inj.1
    rw [UInt8.toNat_ofNat']
    omega
  · rintro rfl
    rw [UInt8.toNat_ofNat']
    omega
theorem tail_byte (c : UInt8) : tailR (c.toNat : Int) = tailB c := by
  unfold tailR tailB
  rw [small_byte, dig_byte, show ((c.toNat : Int) == 45) = (c == 45) from byte_is c 45 (by omega), show ((c.toNat : Int) == 95) = (c == 95) from byte_is c 95 (by omega)]
theorem part_byte (c : UInt8) : partR (c.toNat : Int) = partB c := by
  unfold partR partB
  rw [tail_byte, big_byte, show ((c.toNat : Int) == 46) = (c == 46) from byte_is c 46 (by omega), show ((c.toNat : Int) == 58) = (c == 58) from byte_is c 58 (by omega), show ((c.toNat : Int) == 47) = (c == 47) from byte_is c 47 (by omega)]
  unfold tailB
  cases small c <;> cases digit c <;> cases big c <;> simp
theorem tail_small {r : Int} (h : smallR r = true) : tailR r = true := by simp [tailR, h]
theorem part_tail {r : Int} (h : tailR r = true) : partR r = true := by simp [partR, h]
theorem part_lt {r : Int} (h : partR r = true) : r < 128 := by
  simp [partR, tailR, smallR, digR, bigR] at h
  omega
/-- A byte beyond ASCII is visited as a character beyond ASCII. -/
theorem dec_hi (s : ByteArray) (pos : Nat) (h : pos < s.size) (hb : 128 ≤ s[pos].toNat) : 128 ≤ (Utf8.decode s pos).1 := by
  have e : s.get! (pos + 0) = s[pos]'h := by
    show s.get! pos = _
    simp [ByteArray.get!, getElem!_pos, h]
    rfl
  simp only [Utf8.decode, e, Utf8.runeError]
  repeat' split
  all_goals simp_all
  all_goals omega
/-- What is accepted is a byte. -/
theorem dec_ok {s : ByteArray} {pos : Nat} (h : pos < s.size) (ht : partR ((Utf8.decode s pos).1 : Int) = true) : Utf8.decode s pos = (s[pos].toNat, 1) := by
  rcases Nat.lt_or_ge s[pos].toNat 128 with k | k
  · exact decode_ascii s pos h k
  · have := dec_hi s pos h k
    have := part_lt ht
    omega
theorem toL (s : ByteArray) : s.toList = s.data.toList := Go.ByteArray.toList_eq s
theorem toL_len (s : ByteArray) : s.toList.length = s.size := by rw [toL]; simp
theorem toL_get (s : ByteArray) (k : Nat) (h : k < s.size) : s.toList[k]'(by rw [toL_len]; exact h) = s[k] := by simp only [toL]; rfl
/-- What is left to check of a name from a place on. -/
def nmAt (l : List UInt8) (k : Nat) : Bool := match k with
  | 0 => (match l with | [] => true | c :: r => small c && r.all tailB)
  | k => (l.drop k).all tailB
def idAt (l : List UInt8) (k : Nat) : Bool := (l.drop k).all partB
theorem nm_step (s : ByteArray) (k : Nat) (h : k < s.size) : nmAt s.toList k = ((if k = 0 then small s[k] else tailB s[k]) && nmAt s.toList (k + 1)) := by
  have hl : k < s.toList.length := by rw [toL_len]; exact h
  have e := List.drop_eq_getElem_cons hl
  rw [toL_get s k h] at e
  cases k with
  | zero =>
    rw [List.drop_zero] at e
    unfold nmAt
    rw [if_pos rfl, e]
    simp
  | succ k =>
    unfold nmAt
    rw [if_neg (by omega)]
    simp only [e, List.all_cons]
theorem nm_end (s : ByteArray) (h : 0 < s.size) : nmAt s.toList s.size = true := by
  obtain ⟨n, hn⟩ : ∃ n, s.size = n + 1 := ⟨s.size - 1, by omega⟩
  rw [hn]
  unfold nmAt
  simp only
  rw [List.drop_of_length_le (by rw [toL_len]; omega)]
  rfl
theorem nm_name (s : ByteArray) (h : 0 < s.size) (h2 : s.size ≤ 24) : nmAt s.toList 0 = nameB s.toList := by
  have hl := toL_len s
  unfold nmAt nameB
  cases hs : s.toList with
  | nil => rw [hs] at hl; simp at hl; omega
  | cons c r =>
    rw [hs] at hl
    simp only [List.length_cons] at hl
    simp only
    rw [decide_eq_true (show r.length < 24 by omega), Bool.true_and]
theorem id_step (s : ByteArray) (k : Nat) (h : k < s.size) : idAt s.toList k = (partB s[k] && idAt s.toList (k + 1)) := by
  have hl : k < s.toList.length := by rw [toL_len]; exact h
  have e := List.drop_eq_getElem_cons hl
  rw [toL_get s k h] at e
  unfold idAt
  rw [e, List.all_cons]
theorem id_end (s : ByteArray) : idAt s.toList s.size = true := by
  unfold idAt
  rw [List.drop_of_length_le (by rw [toL_len]; omega)]
  rfl
theorem id_id (s : ByteArray) (h : 0 < s.size) (h2 : s.size ≤ 64) : idAt s.toList 0 = idB s.toList := by
  have hl := toL_len s
  unfold idAt idB
  rw [List.drop_zero, decide_eq_true (show 1 ≤ s.toList.length by omega), decide_eq_true (show s.toList.length ≤ 64 by omega)]
  rfl
theorem name_no {s : ByteArray} (h : s.size = 0 ∨ 24 < s.size) : nameB s.toList = false := by
  have hl := toL_len s
  unfold nameB
  cases hs : s.toList with
  | nil => rfl
  | cons c r =>
    rw [hs] at hl
    simp only [List.length_cons] at hl
    simp only
    rw [decide_eq_false (show ¬ r.length < 24 by omega)]
    rfl
theorem id_no {s : ByteArray} (h : s.size = 0 ∨ 64 < s.size) : idB s.toList = false := by
  have hl := toL_len s
  unfold idB
  rcases h with h | h
  · rw [decide_eq_false (show ¬ 1 ≤ s.toList.length by omega)]; rfl
  · rw [decide_eq_false (show ¬ s.toList.length ≤ 64 by omega)]; simp
theorem empty_str {s : ByteArray} (h : s.size = 0) : s = ⟨#[]⟩ := by
  cases s with
  | mk d =>
    have : d.size = 0 := h
    rw [Array.eq_empty_of_size_eq_zero this]
theorem nonempty_str {s : ByteArray} (h : 0 < s.size) : s.toList.isEmpty = false ∧ (s.toList = []) = False := by
  have hl := toL_len s
  constructor
  · cases hs : s.toList with
    | nil => rw [hs] at hl; simp at hl; omega
    | cons c r => rfl
  · apply eq_false
    intro hs
    rw [hs] at hl
    simp at hl
    omega
set_option maxHeartbeats 400000 in
theorem name_any (s : ByteArray) (w : World) :
    Calls Try.prog 10 #[.string s] w fun e w' => e = .returned (.bool (nameB s.toList)) ∧ Bel w w' := by
  by_cases h0 : s.size = 0
  · have hz := Lib.hid (name_no (Or.inl h0))
    obtain rfl := empty_str h0
    go_enter Try.func10, Try.ntmps10
    go_wp2
    go_ret
    exact ⟨by rw [hz.out]; rfl, Bel.refl _⟩
  by_cases h1 : 24 < s.size
  · have hz := Lib.hid (name_no (Or.inr h1))
    obtain ⟨hne, hne2⟩ := nonempty_str (s := s) (by omega)
    go_enter Try.func10, Try.ntmps10
    go_wp2
    go_ret
    exact ⟨by rw [hz.out]; rfl, Bel.refl _⟩
  obtain ⟨hne, hne2⟩ := nonempty_str (s := s) (by omega)
  have hN := Lib.hid (nm_name s (by omega) (by omega))
  go_enter Try.func10, Try.ntmps10
  go_wp2
  go_loopw [3] (fun v wr => ∃ k : Nat, wr = w.iter s k ∧ k ≤ s.size ∧ Hid (nmAt s.toList k = nameB s.toList)) (fun _ wr => s.size - wr.iterPos w.heap.size)
  case atStart => exact ⟨0, rfl, Nat.zero_le _, hN⟩
  case round =>
    obtain ⟨k, rfl, hk, hr⟩ := hrel
    by_cases hp : k < s.size
    · have hnx : ∀ ty, (Instr.next (.pointer (some ⟨w.heap.size, 0, none⟩)) true ty).run Try.prog (w.iter s k) = _ := fun ty => run_next_any w s k ty hp
      obtain ⟨r, wd, hd⟩ : ∃ r wd, Utf8.decode s k = (r, wd) := ⟨_, _, rfl⟩
      have hst := nm_step s k hp
      cases ht : tailR (r : Int) with
      | true =>
        have hok := dec_ok hp (by rw [hd]; exact part_tail ht)
        rw [hd] at hok
        obtain ⟨rfl, rfl⟩ := Prod.mk.inj hok
        rw [hd] at hnx
        rw [← tail_byte, ht] at hst
        rw [← small_byte] at hst
        obtain ⟨c, hc⟩ : ∃ c : Nat, s[k].toNat = c := ⟨_, rfl⟩
        rw [hc] at hnx ht hst
        have H := Lib.hid ht
        clear ht hok hd hc
        by_cases hk0 : k = 0
        · subst hk0
          rw [if_pos rfl] at hst
          cases hsm : smallR (c : Int) with
          | true =>
            rw [hsm, Bool.true_and] at hst
            have H2 := Lib.hid hsm
            have hr2 := Lib.hid (hst.symm.trans hr.out)
            clear hsm hst hr
            go_wp2_with (first | (go_at_call 34; refine (isInName_any _ _).mono ?_; rintro e w' ⟨rfl, rfl⟩; rw [H.out]) | (go_at_call 35; refine (isSmall_any _ _).mono ?_; rintro e w' ⟨rfl, rfl⟩; rw [H2.out]))
            go_roundw
            case rel => exact ⟨1, rfl, by omega, hr2⟩
            case measure => simp; omega
          | false =>
            rw [hsm, Bool.false_and] at hst
            have H2 := Lib.hid hsm
            have hr2 := Lib.hid (hst.symm.trans hr.out)
            clear hsm hst hr
            go_wp2_with (first | (go_at_call 34; refine (isInName_any _ _).mono ?_; rintro e w' ⟨rfl, rfl⟩; rw [H.out]) | (go_at_call 35; refine (isSmall_any _ _).mono ?_; rintro e w' ⟨rfl, rfl⟩; rw [H2.out]))
            go_ret
            exact ⟨by rw [← hr2.out]; rfl, Bel.alloc (Bel.refl _) _⟩
        · rw [if_neg hk0, Bool.true_and] at hst
          have hr2 := Lib.hid (hst.symm.trans hr.out)
          have H2 := Lib.hid True.intro
          have hk1 : ((k : Int) == 0) = false := by simp; omega
          clear hst hr
          go_wp2_with (first | (go_at_call 34; refine (isInName_any _ _).mono ?_; rintro e w' ⟨rfl, rfl⟩; rw [H.out]) | (go_at_call 35; refine (isSmall_any _ _).mono ?_; rintro e w' ⟨rfl, rfl⟩; rw [H2.out]))
          go_roundw
          case rel => exact ⟨k + 1, rfl, by omega, hr2⟩
          case measure => simp; omega
      | false =>
        have hbad : nmAt s.toList k = false := by
          rw [hst, Bool.and_eq_false_iff]
          left
          have hno : tailR (s[k].toNat : Int) = false := by
            rcases Nat.lt_or_ge s[k].toNat 128 with q | q
            · have := decode_ascii s k hp q
              rw [hd] at this
              obtain ⟨rfl, rfl⟩ := Prod.mk.inj this
              exact ht
            · cases h : tailR (s[k].toNat : Int) with
              | false => rfl
              | true => have := part_lt (part_tail h); omega
          split
          · rw [← small_byte]
            cases h : smallR (s[k].toNat : Int) with
            | false => rfl
            | true => rw [tail_small h] at hno; cases hno
          · rw [← tail_byte]; exact hno
        have hr2 := Lib.hid (hbad.symm.trans hr.out)
        rw [hd] at hnx
        have H := Lib.hid ht
        have H2 := Lib.hid True.intro
        clear ht hd hst hbad hr
        go_wp2_with (first | (go_at_call 34; refine (isInName_any _ _).mono ?_; rintro e w' ⟨rfl, rfl⟩; rw [H.out]) | (go_at_call 35; refine (isSmall_any _ _).mono ?_; rintro e w' ⟨rfl, rfl⟩; rw [H2.out]))
        go_ret
        exact ⟨by rw [← hr2.out]; rfl, Bel.alloc (Bel.refl _) _⟩
    · have hnx : ∀ ty, (Instr.next (.pointer (some ⟨w.heap.size, 0, none⟩)) true ty).run Try.prog (w.iter s k) = _ := fun ty => run_next_end w s k ty hp
      obtain rfl : k = s.size := by omega
      have hz := Lib.hid ((nm_end s (by omega)).symm.trans hr.out)
      clear hr
      go_wp2
      go_ret
      exact ⟨by rw [← hz.out]; rfl, Bel.alloc (Bel.refl _) _⟩
set_option maxHeartbeats 400000 in
theorem id_any (s : ByteArray) (w : World) :
    Calls Try.prog 12 #[.string s] w fun e w' => e = .returned (.bool (idB s.toList)) ∧ Bel w w' := by
  by_cases h0 : s.size = 0
  · have hz := Lib.hid (id_no (Or.inl h0))
    obtain rfl := empty_str h0
    go_enter Try.func12, Try.ntmps12
    go_wp2
    go_ret
    exact ⟨by rw [hz.out]; rfl, Bel.refl _⟩
  by_cases h1 : 64 < s.size
  · have hz := Lib.hid (id_no (Or.inr h1))
    obtain ⟨hne, hne2⟩ := nonempty_str (s := s) (by omega)
    go_enter Try.func12, Try.ntmps12
    go_wp2
    go_ret
    exact ⟨by rw [hz.out]; rfl, Bel.refl _⟩
  obtain ⟨hne, hne2⟩ := nonempty_str (s := s) (by omega)
  have hN := Lib.hid (id_id s (by omega) (by omega))
  go_enter Try.func12, Try.ntmps12
  go_wp2
  go_loopw [4] (fun v wr => ∃ k : Nat, wr = w.iter s k ∧ k ≤ s.size ∧ Hid (idAt s.toList k = idB s.toList)) (fun _ wr => s.size - wr.iterPos w.heap.size)
  case atStart => exact ⟨0, rfl, Nat.zero_le _, hN⟩
  case round =>
    obtain ⟨k, rfl, hk, hr⟩ := hrel
    by_cases hp : k < s.size
    · have hnx : ∀ ty, (Instr.next (.pointer (some ⟨w.heap.size, 0, none⟩)) true ty).run Try.prog (w.iter s k) = _ := fun ty => run_next_any w s k ty hp
      obtain ⟨r, wd, hd⟩ : ∃ r wd, Utf8.decode s k = (r, wd) := ⟨_, _, rfl⟩
      have hst := id_step s k hp
      cases ht : partR (r : Int) with
      | true =>
        have hok := dec_ok hp (by rw [hd]; exact ht)
        rw [hd] at hok
        obtain ⟨rfl, rfl⟩ := Prod.mk.inj hok
        rw [hd] at hnx
        rw [← part_byte, ht, Bool.true_and] at hst
        have hr2 := Lib.hid (hst.symm.trans hr.out)
        obtain ⟨c, hc⟩ : ∃ c : Nat, s[k].toNat = c := ⟨_, rfl⟩
        rw [hc] at hnx ht
        have H := Lib.hid ht
        clear ht hok hd hc hst hr
        go_wp2_with (go_at_call 38; refine (isInID_any _ _).mono ?_; rintro e w' ⟨rfl, rfl⟩; rw [H.out])
        go_roundw
        case rel => exact ⟨k + 1, rfl, by omega, hr2⟩
        case measure => simp; omega
      | false =>
        have hbad : idAt s.toList k = false := by
          rw [hst, ← part_byte]
          rcases Nat.lt_or_ge s[k].toNat 128 with q | q
          · have := decode_ascii s k hp q
            rw [hd] at this
            obtain ⟨rfl, rfl⟩ := Prod.mk.inj this
            rw [ht]
            rfl
          · cases h : partR (s[k].toNat : Int) with
            | false => rfl
            | true => have := part_lt h; omega
        have hr2 := Lib.hid (hbad.symm.trans hr.out)
        rw [hd] at hnx
        have H := Lib.hid ht
        clear ht hd hst hbad hr
        go_wp2_with (go_at_call 38; refine (isInID_any _ _).mono ?_; rintro e w' ⟨rfl, rfl⟩; rw [H.out])
        go_ret
        exact ⟨by rw [← hr2.out]; rfl, Bel.alloc (Bel.refl _) _⟩
    · have hnx : ∀ ty, (Instr.next (.pointer (some ⟨w.heap.size, 0, none⟩)) true ty).run Try.prog (w.iter s k) = _ := fun ty => run_next_end w s k ty hp
      obtain rfl : k = s.size := by omega
      have hz := Lib.hid ((id_end s).symm.trans hr.out)
      clear hr
      go_wp2
      go_ret
      exact ⟨by rw [← hz.out]; rfl, Bel.alloc (Bel.refl _) _⟩
end Idn
end Go.Proofs.Ytgchjfdldbadlaa
