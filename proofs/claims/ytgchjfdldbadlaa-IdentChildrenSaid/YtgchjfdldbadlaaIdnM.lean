/-
  Layer 5: Has, Same and Sorted of the code and of the reference, but for the reference's Sorted.
-/
import Derived.Test.YtgchjfdldbadlaaIdnL
import Derived.Test.YtgchjfdldbadlaaIdnE
import Derived.Test.YtgchjfdldbadlaaShelf
import Derived.Deep.DeepCutAuto
import Derived.Sort.OwnSorted
import Derived.Lib.OwnBridge
namespace Go.Proofs.Ytgchjfdldbadlaa
open Go.RowKit Go.ChangeShapes Go.WideShapes
namespace Idn

/-- Where a slice that is not empty lies. -/
theorem sl_addr {w : World} {o : Option Addr} {n : Nat} {xs : List ByteArray} (h : SlArg w o n xs) (hn : 0 < n) : ∃ b off, o = some ⟨b, off, none⟩ ∧ ∀ j, j < xs.length → w.cell? ⟨b, off + j, none⟩ = some (.string (xs.getD j ByteArray.empty)) := by
  have hl := h.1
  obtain ⟨⟨b, off, sp⟩, rfl, hc⟩ := h.2 0 (by omega)
  have hs : sp = none := by
    cases sp with
    | none => rfl
    | some x =>
      unfold World.cell? Addr.add at hc
      rw [if_pos rfl] at hc
      split at hc
      · simp at hc
      · cases hc
  subst hs
  refine ⟨b, off, rfl, fun j hj => ?_⟩
  obtain ⟨a, e, c⟩ := h.2 j hj
  obtain rfl := Option.some.inj e
  rw [Lib.add_plain] at c
  rw [c, List.getD_eq_getElem?_getD, List.getElem?_eq_getElem hj]
  rfl
/-- Is a string one of a list? -/
def hasB (xs : List ByteArray) (x : ByteArray) : Bool := Lib.containsS xs x
theorem has_yes {xs : List ByteArray} {x : ByteArray} (h : x ∈ xs) : hasB xs x = true := (Lib.containsS_iff xs x).2 h
theorem has_no {xs : List ByteArray} {x : ByteArray} (h : x ∉ xs) : hasB xs x = false := by
  cases hb : hasB xs x with
  | false => rfl
  | true => exact absurd ((Lib.containsS_iff xs x).1 hb) h
theorem contains_any (o : Option Addr) (n c : Nat) (xs : List ByteArray) (x : ByteArray) (hn : n ≤ 4611686018427387904) (w : World) (hA : SlArg w o n xs) :
    Calls Try.prog 57 #[.slice o n c, .string x] w fun e w' => e = .returned (.bool (hasB xs x)) ∧ w = w' := by
  have hl := hA.1
  by_cases h0 : n = 0
  · subst h0
    obtain rfl : xs = [] := List.eq_nil_of_length_eq_zero hl
    exact (Try.slices_Contains_string_empty o c x w).mono fun e w' ⟨he, hw⟩ => ⟨he, hw.symm⟩
  · obtain ⟨b, off, rfl, hc⟩ := sl_addr hA (by omega)
    exact (Try.slices_Contains_string b off n c xs x w (by omega) (by omega) hc).mono fun e w' ⟨he, hw⟩ => ⟨by rw [he, List.take_of_length_le (by omega)]; rfl, hw.symm⟩
theorem has_any (o : Option Addr) (n c : Nat) (xs : List ByteArray) (x : ByteArray) (hn : n ≤ 4611686018427387904) (w : World) (hA : SlArg w o n xs) :
    Calls Try.prog 32 #[.slice o n c, .string x] w fun e w' => e = .returned (.bool (hasB xs x)) ∧ w = w' := by
  have H := Lib.hid (contains_any o n c xs x hn w hA)
  generalize hasB xs x = b at H ⊢
  go_enter Try.func32, Try.ntmps32
  go_wp2_with fail
  refine H.out.mono ?_
  rintro e w' ⟨rfl, rfl⟩
  go_wp2_with fail
  go_ret
  exact ⟨rfl, rfl⟩
theorem eq_of_lists {x y : ByteArray} (h : (x.toList == y.toList) = true) : x = y := by
  rw [beq_iff_eq, toL, toL] at h
  exact ByteArray.ext (Array.toList_inj.1 h)
set_option maxHeartbeats 1000000 in
theorem rhas_any (o : Option Addr) (n c : Nat) (xs : List ByteArray) (x : ByteArray) (hn : n ≤ 4611686018427387904) (w : World) (hA : SlArg w o n xs) :
    Calls Try.prog 33 #[.slice o n c, .string x] w fun e w' => e = .returned (.bool (hasB xs x)) ∧ w = w' := by
  have hlen := hA.1
  have HA := Lib.hid hA
  clear hA
  go_enter Try.func33, Try.ntmps33
  go_wp2
  go_loop [5] (fun i => ∃ k : Nat, i = .int .i64 (k : Int) ∧ k ≤ n ∧ Hid (x ∉ xs.take k)) (fun i => n - (intOf i).toNat)
  case atStart => exact ⟨0, rfl, Nat.zero_le _, Lib.hid (by simp)⟩
  case round =>
    obtain ⟨k, rfl, hk, hr⟩ := hrel
    by_cases hlt : k < n
    · have hkx : k < xs.length := by omega
      obtain ⟨p, rfl, hc⟩ := HA.out.2 k hkx
      have hmem := List.getElem_mem hkx
      have htk := List.take_succ_eq_append_getElem hkx
      obtain ⟨y, hye⟩ : ∃ y, xs[k] = y := ⟨_, rfl⟩
      rw [hye] at hc hmem htk
      obtain ⟨b, hb⟩ : ∃ b, (y.toList == x.toList) = b := ⟨_, rfl⟩
      cases b with
      | true =>
        obtain rfl := eq_of_lists hb
        have hz := Lib.hid (has_yes hmem)
        clear hmem htk hye hr
        go_wp2
        go_ret
        exact ⟨by rw [hz.out]; rfl, rfl⟩
      | false =>
        have hne : x ≠ y := fun h => by subst h; simp at hb
        have hn2 : Hid (x ∉ xs.take (k + 1)) := Lib.hid (by
          rw [htk]
          intro hm
          rcases List.mem_append.1 hm with g | g
          · exact hr.out g
          · exact hne (List.mem_singleton.1 g))
        clear hmem htk hye hr hne
        go_wp2
        go_round
        case rel => exact ⟨k + 1, by go_num, by omega, hn2⟩
        case measure => simp [intOf]; omega
    · obtain rfl : k = n := by omega
      have hz := hr.out
      rw [List.take_of_length_le (by omega)] at hz
      have hz2 := Lib.hid (has_no hz)
      clear hz hr
      go_wp2
      go_ret
      exact ⟨by rw [hz2.out]; rfl, rfl⟩
set_option maxHeartbeats 4000000 in
theorem same_any (o q : Option Addr) (n m c d : Nat) (xs ys : List ByteArray) (w : World) (hA : SlArg w o n xs) (hB : SlArg w q m ys) (hn : n ≤ maxLen) (hm : m ≤ maxLen) :
    Calls Try.prog 30 #[.slice o n c, .slice q m d] w fun e w' => (∃ b : Bool, (b = true ↔ xs = ys) ∧ e = .returned (.bool b)) ∧ Bel w w' := by
  have hlx := hA.1
  have hly := hB.1
  have HA := Lib.hid hA
  have HB := Lib.hid hB
  unfold maxLen at hn hm
  clear hA hB
  by_cases hnm : n = m
  · subst hnm
    go_enter Try.func30, Try.ntmps30
    go_wp2
    go_loopw [5] (fun j wr => ∃ k : Nat, k ≤ n ∧ j = .int .i64 (k : Int) ∧ Hid (xs.take k = ys.take k) ∧ Hid (Bel w wr)) (fun j _ => n - (intOf j).toNat)
    case atStart => exact ⟨0, Nat.zero_le _, rfl, Lib.hid rfl, Lib.hid (Bel.refl _)⟩
    case round =>
      obtain ⟨k, hk, rfl, hs, hb⟩ := hrel
      rename World => W0
      by_cases hlt : k < n
      · have hkx : k < xs.length := by omega
        have hky : k < ys.length := by omega
        obtain ⟨a, rfl, hc⟩ := (HA.out.on hb.out).2 k hkx
        obtain ⟨b, rfl, hd⟩ := (HB.out.on hb.out).2 k hky
        have hst : Hid (xs[k] = ys[k] → xs.take (k + 1) = ys.take (k + 1)) := Lib.hid (fun h => by rw [List.take_succ_eq_append_getElem hkx, List.take_succ_eq_append_getElem hky, hs.out, h])
        have hne : Hid (xs[k] ≠ ys[k] → xs ≠ ys) := Lib.hid (fun h e => h (by subst e; rfl))
        obtain ⟨x, hxe⟩ : ∃ x, xs[k] = x := ⟨_, rfl⟩
        obtain ⟨y, hye⟩ : ∃ y, ys[k] = y := ⟨_, rfl⟩
        rw [hxe] at hc hst hne
        rw [hye] at hd hst hne
        have i1 : (k : Int) < (n : Int) := by omega
        have G := hb.out
        clear hb hxe hye hs
        go_upto_region 6 with (fail)
        go_quiet (fail)
        clear i1
        have GG := Lib.hid (Bel.drewN G nq)
        clear G
        generalize hq : (x.toList == y.toList) = t
        cases t
        · have hz := Lib.hid (hne.out (fun h => by rw [h] at hq; simp at hq))
          clear hq hst hne
          go_wp2_with fail
          go_ret
          exact ⟨⟨false, ⟨fun h => (by cases h), fun h => absurd h hz.out⟩, rfl⟩, GG.out⟩
        · have hxy : x = y := eq_of_lists hq
          have hz := Lib.hid (hst.out hxy)
          clear hq hxy hst hne
          go_wp2_with fail
          go_round
          case rel => exact ⟨k + 1, by omega, by go_num, hz, GG⟩
          case measure => simp [intOf]; omega
      · obtain rfl : k = n := by omega
        have he := hs.out
        rw [List.take_of_length_le (by omega), List.take_of_length_le (by omega)] at he
        have he' := Lib.hid he
        clear he hs
        go_wp2
        go_ret
        exact ⟨⟨true, ⟨fun _ => he'.out, fun _ => rfl⟩, rfl⟩, hb.out⟩
  · have hne : Hid (xs ≠ ys) := Lib.hid (fun h => hnm (by rw [← hlx, ← hly, h]))
    have hnm' : ((n : Int) = (m : Int)) = False := eq_false (by omega)
    go_enter Try.func30, Try.ntmps30
    go_wp2
    go_ret
    exact ⟨⟨false, ⟨fun h => (by cases h), fun h => absurd h hne.out⟩, rfl⟩, Bel.refl _⟩
end Idn
end Go.Proofs.Ytgchjfdldbadlaa
