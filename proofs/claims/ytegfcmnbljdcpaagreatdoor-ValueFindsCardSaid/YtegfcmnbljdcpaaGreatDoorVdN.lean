/-
  Layer 6, the reference: readMany, over a list.
-/
import Derived.Test.YtegfcmnbljdcpaaGreatDoorVdM
namespace Go.Proofs.YtegfcmnbljdcpaaGreatDoor
open Go.RowKit Go.ChangeShapes Go.WideShapes
namespace Val

theorem shp2 {s : ByteArray} {i : Nat} {p r : Txt} {c : UInt8} (h : s.toList.drop i = p ++ c :: r) : s.toList.drop (i + p.length) = c :: r := by
  rw [← List.drop_drop, h, List.drop_left]
theorem at_drop {l r : Txt} {q : Nat} {c : UInt8} (h : l.drop q = c :: r) : l[q]? = some c := by
  rw [← List.head?_drop, h]
  rfl
theorem own_ne {w : World} {g : Nat} {e : TypeId} {z n : Nat} {v : Value} {xs : List Value} (h : w.ownsRow (g + 1) e z v n xs) : some g ≠ v.ownBlock := fun k => by
  have := (h.lt g k.symm).1
  omega
theorem own_bel1 {a w w' : World} {e : TypeId} {z n : Nat} {v : Value} {xs : List Value} (h : w.ownsRow (a.heap.size + 1) e z v n xs) (b : Bel a w) (hg : w.grownBy w' v.ownBlock) : Bel a w' :=
  Below.grown b hg b.size fun i hi => Nat.le_of_succ_le (h.lt i hi).1
end Val
end Go.Proofs.YtegfcmnbljdcpaaGreatDoor
