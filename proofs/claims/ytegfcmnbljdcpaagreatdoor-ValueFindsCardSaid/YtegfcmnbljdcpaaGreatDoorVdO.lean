/-
  Layer 6, the reference: readMany, over a map.
-/
import Derived.Test.YtegfcmnbljdcpaaGreatDoorVdN
namespace Go.Proofs.YtegfcmnbljdcpaaGreatDoor
open Go.RowKit Go.ChangeShapes Go.WideShapes
namespace Val

theorem strB_S {S t q : Txt} (h : strB S = some (t, q)) : S = quo t ++ q := by
  cases S with
  | nil => cases h
  | cons c r =>
    rw [strB] at h
    by_cases hc : c = 34
    · rw [if_pos hc] at h
      rw [hc, rdS_sound h, quo]
      simp
    · rw [if_neg hc] at h; cases h
theorem rdK_B0 {S : Txt} (h : strB S = none) : rdK S = none := by
  cases S with
  | nil => rfl
  | cons c r =>
    rw [strB] at h
    by_cases hc : c = 34
    · rw [if_pos hc] at h
      rw [hc]
      exact rdK_s h
    · exact rdK_no (pre1f r hc)
theorem rdK_B1 {S t q : Txt} (h : strB S = some (t, q)) (hq : ([58] : Txt).isPrefixOf q = false) : rdK S = none := by
  cases S with
  | nil => rfl
  | cons c r =>
    rw [strB] at h
    by_cases hc : c = 34
    · rw [if_pos hc] at h
      rw [hc]
      exact rdK_c h hq
    · rw [if_neg hc] at h; cases h
theorem rdK_B2 {S t q : Txt} (h : strB S = some (t, 58 :: q)) : rdK S = some (t, q) := by
  cases S with
  | nil => cases h
  | cons c r =>
    rw [strB] at h
    by_cases hc : c = 34
    · rw [if_pos hc] at h
      rw [hc]
      exact rdK_y h
    · rw [if_neg hc] at h; cases h
theorem gP_no {g : Txt → Option (V × Txt)} {S : Txt} (h : rdK S = none) : gP g S = none := by
  unfold gP
  rw [h]
theorem gP_at {g : Txt → Option (V × Txt)} {S t q : Txt} (h : rdK S = some (t, q)) : gP g S = (gV g q).map fun x => (⟨4, 0, t, 0⟩ :: x.1, x.2) := by
  unfold gP gV
  rw [h]
  dsimp only
  cases g q <;> rfl
theorem gP_cl (k : Nat) (r : Txt) : gP (rdG intR k) (125 :: r) = none := gP_no (rdK_no rfl)
end Val
end Go.Proofs.YtegfcmnbljdcpaaGreatDoor
