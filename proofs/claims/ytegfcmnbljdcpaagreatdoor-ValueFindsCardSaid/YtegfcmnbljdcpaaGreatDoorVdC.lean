/-
  Layer 6: small; the law ValueChecks.
-/
import Derived.Test.YtegfcmnbljdcpaaGreatDoorMK
namespace Go.Proofs.YtegfcmnbljdcpaaGreatDoor
open Go.RowKit Go.ChangeShapes Go.WideShapes
namespace Val

/-- At most 300 cells with strings of at most 300 bytes. -/
def smallB (l : List Cel) : Bool := decide (l.length ≤ 300) && l.all fun x => decide (x.s.length ≤ 300)
theorem small_yes {l : List Cel} (h : smallB l = true) : l.length ≤ 300 ∧ ∀ x ∈ l, x.s.length ≤ 300 := by
  unfold smallB at h
  simp only [Bool.and_eq_true, decide_eq_true_eq, List.all_eq_true] at h
  exact h
theorem small_shrt {l : List Cel} (h : smallB l = true) : Shrt l := fun x hx => Nat.le_trans ((small_yes h).2 x hx) (by decide)
set_option maxHeartbeats 2000000 in
theorem small_any (l : List Cel) (o : Option Addr) (n c : Nat) (hn : n ≤ 4611686018427387904) (w : World) (hA : CArg w o n l) :
    Calls Tryz.prog 4 #[.slice o n c] w fun e w' => e = .returned (.bool (smallB l)) ∧ w = w' := by
  have hl := hA.1
  have HA := Lib.hid hA
  by_cases h3 : 300 < n
  · have hz : Hid (smallB l = false) := Lib.hid (by unfold smallB; rw [decide_eq_false (by omega)]; rfl)
    clear hA hl
    go_enter Tryz.func4, Tryz.ntmps4
    go_wp2
    go_ret
    exact ⟨by rw [hz.out]; rfl, rfl⟩
  · obtain ⟨B, hB⟩ : ∃ B, smallB l = B := ⟨_, rfl⟩
    rw [hB]
    have HB : Hid ((l.drop 0).all (fun x => decide (x.s.length ≤ 300)) = B) := Lib.hid (by rw [← hB]; unfold smallB; rw [decide_eq_true (by omega)]; rfl)
    have d3 : decide ((300 : Int) < (n : Int)) = false := decide_eq_false (by omega)
    clear hA hB
    go_enter Tryz.func4, Tryz.ntmps4
    go_wp2
    go_loop [9] (fun i => ∃ k : Nat, i = .int .i64 (k : Int) ∧ k ≤ n ∧ Hid ((l.drop k).all (fun x => decide (x.s.length ≤ 300)) = B)) (fun i => n - (intOf i).toNat)
    case atStart => exact ⟨0, rfl, Nat.zero_le _, HB⟩
    case round =>
      obtain ⟨k, rfl, hk, hr⟩ := hrel
      clear HB
      by_cases hlt : k < n
      · have hkl : k < l.length := by omega
        obtain ⟨vb, vo, rfl, hcs⟩ := HA.out.2.2 (by omega)
        obtain ⟨v1, v2, v3, v4⟩ := hcs k hkl
        have hst := hr.out
        rw [List.drop_eq_getElem_cons hkl, List.all_cons] at hst
        generalize l[k] = x at *
        obtain ⟨xk, xi, xs, xn⟩ := x
        simp only at v1 v2 v3 v4 hst
        obtain ⟨X, hX⟩ : ∃ X : ByteArray, ⟨xs.toArray⟩ = X := ⟨_, rfl⟩
        have hXl : xs.length = X.size := by rw [← hX, txZ]
        rw [hX] at v3
        rw [hXl] at hst
        have Hst := Lib.hid hst
        clear hcs hr hst hX hXl v1 v2 v4
        by_cases hs3 : 300 < X.size
        · have hz : Hid (B = false) := Lib.hid (by rw [← Hst.out, decide_eq_false (by omega)]; rfl)
          clear Hst
          go_wp2
          go_ret
          exact ⟨by rw [hz.out]; rfl, rfl⟩
        · have hz : Hid ((l.drop (k + 1)).all (fun x => decide (x.s.length ≤ 300)) = B) := Lib.hid (by rw [← Hst.out, decide_eq_true (by omega), Bool.true_and])
          have ds : decide ((300 : Int) < (X.size : Int)) = false := decide_eq_false (by omega)
          clear Hst
          go_wp2
          go_round
          case rel => exact ⟨k + 1, by go_num, by omega, hz⟩
          case measure => simp [intOf]; omega
      · obtain rfl : k = n := by omega
        have hz : Hid (B = true) := Lib.hid (by rw [← hr.out, List.drop_of_length_le (by omega)]; rfl)
        clear hr
        go_wp2
        go_ret
        exact ⟨by rw [hz.out]; rfl, rfl⟩
end Val
end Go.Proofs.YtegfcmnbljdcpaaGreatDoor
