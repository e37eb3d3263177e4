/-
  Layer 6, the reference: read, out of readMany.
-/
import Derived.Test.YtegfcmnbljdcpaaGreatDoorVdK
namespace Go.Proofs.YtegfcmnbljdcpaaGreatDoor
open Go.RowKit Go.ChangeShapes Go.WideShapes
namespace Val

/-- Cells and the index behind them, as the reader returns them. -/
def RP (s : ByteArray) (w : World) (e : Ending) (X : Option (List Cel × Txt)) : Prop := ∃ o n c l, e = .returned (.tuple #[.slice o n c, .int .i64 (ixR s.size X)]) ∧ CArg w o n l ∧ n ≤ c ∧ ∀ x, X = some x → l = x.1
theorem byte_is (c : UInt8) (n : Nat) (b : UInt8) (h : b.toNat = n) : ((c.toNat : Int) == (n : Int)) = decide (c = b) := by
  rw [Bool.eq_iff_iff, beq_iff_eq, decide_eq_true_eq]
  constructor
  · intro k; apply UInt8.toNat_inj.1; omega
  · rintro rfl; rw [h]
theorem rdS_lens {r t q : Txt} (h : rdS r = some (t, q)) : t.length ≤ r.length := by
  rw [rdS_sound h, List.length_append]
  have : ∀ l : Txt, l.length ≤ (esc l).length := fun l => by
    induction l with
    | nil => exact Nat.le_refl _
    | cons c l ih => rw [esc]; split <;> simp only [List.length_cons] <;> omega
  have := this t
  omega
theorem ixR_map {α β : Type} (n : Nat) (f : α → β) (X : Option (α × Txt)) : ixR n (X.map fun x => (f x.1, x.2)) = ixR n X := by cases X <;> rfl
theorem intR_nil : intR [] = none := by unfold intR; decide
end Val
end Go.Proofs.YtegfcmnbljdcpaaGreatDoor
