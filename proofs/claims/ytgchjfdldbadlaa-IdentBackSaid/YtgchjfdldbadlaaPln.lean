/-
  A plain seat (its rows list no variable): what its liftings take.
-/
import Derived.Test.YtgchjfdldbadlaaHshK
import Derived.Carry
import Derived.KernelRfl
namespace Go.Proofs.Ytgchjfdldbadlaa
open Go.RowKit
theorem lad_any (w : World) : Lad w := ⟨trivial⟩
theorem laidOut : laidOutB Try.prog = true := by kernel_rfl
theorem wf_i64 {a : Int} (h : (Lit.int .i64 a).wf = true) : -9223372036854775808 ≤ a ∧ a ≤ 9223372036854775807 := by
  have e1 : IntKind.i64.min = -9223372036854775808 := by decide
  have e2 : IntKind.i64.max = 9223372036854775807 := by decide
  simp [Lit.wf, e1, e2] at h
  omega
theorem wf_u8 {a : Int} (h : (Lit.int .u8 a).wf = true) : ∃ n : Nat, a = (n : Int) ∧ n < 256 := by
  have e1 : IntKind.u8.min = 0 := by decide
  have e2 : IntKind.u8.max = 255 := by decide
  simp [Lit.wf, e1, e2] at h
  exact ⟨a.toNat, by omega, by omega⟩
end Go.Proofs.Ytgchjfdldbadlaa
