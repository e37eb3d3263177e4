/-
  Worlds of the layer hash: what the listed package-level variables hold, and that new blocks leave it so.
-/
import Derived.Test.YtghjflmanldjlaaDoorGrw
import Derived.Lib.Hide
import Derived.Lib.ItoaWalk
import Derived.Lib.LaidTab
import Derived.Lib.ItoaNum
import Derived.Below
import Derived.Lib.ItoaMem
import Derived.Laws.IdiomStrings
namespace Go.Proofs.YtghjflmanldjlaaDoor
open Go.RowKit

/-- All old blocks stand, whatever is done to the new ones. -/
def Bel (w w' : World) : Prop := Below w.heap.size w w'
theorem Bel.refl (w : World) : Bel w w := Below.refl _ _
theorem Bel.trans {a b c : World} (h : Bel a b) (k : Bel b c) : Bel a c := Below.trans h (Below.mono k h.size)
theorem Bel.of_eq {a b : World} (h : a = b) : Bel a b := h ▸ Bel.refl a
theorem Bel.drewN {a b : World} (h : Bel a b) (n : Nat) : Bel a (b.drewN n) := ⟨h.os, h.tape, h.output, h.size, h.block⟩
theorem Bel.alloc {a b : World} (h : Bel a b) (o : Obj) : Bel a (b.alloc o) := Below.alloc h h.size o
theorem alloc_lt (w : World) (o : Obj) : w.heap.size < (w.alloc o).heap.size := by show w.heap.size < (w.heap.push o).size; simp
theorem Bel.setCell {a b : World} (h : Bel a b) {p : Addr} (hp : a.heap.size ≤ p.block) (u : Value) : Bel a (b.setCell p u) := Below.setCell h hp u
theorem cell_lt {w : World} {b o : Nat} {v : Value} (h : w.cell? ⟨b, o, none⟩ = some v) : b < w.heap.size := by
  rcases Nat.lt_or_ge b w.heap.size with k | k
  · exact k
  · unfold World.cell? at h
    rw [Array.getElem?_eq_none k] at h
    cases h
theorem Bel.cell {w w' : World} (h : Bel w w') {b o : Nat} {v : Value} (hc : w.cell? ⟨b, o, none⟩ = some v) : w'.cell? ⟨b, o, none⟩ = some v :=
  (Below.cell (p := ⟨b, o, none⟩) h (cell_lt hc)).trans hc
theorem tab_stay {w w' : World} {g : Nat} {n : String} {k : IntKind} {zs : List Int} (hg : Tryd.prog.globalNamed n = some g) (h : Lib.TabIs Tryd.prog w n k zs) (hb : Bel w w') : Lib.TabIs Tryd.prog w' n k zs := by
  unfold Lib.TabIs World.var? at h ⊢
  rw [hg] at h ⊢
  simp only [Option.bind_some] at h ⊢
  have hlt : g < w.heap.size := by
    rcases Nat.lt_or_ge g w.heap.size with k | k
    · exact k
    · rw [Array.getElem?_eq_none k] at h; cases h
  rw [hb.block g hlt]
  exact h

/-- What the listed variables hold, as far as this program has them: the tables, and the two errors of strconv. -/
structure Lad (w : World) : Prop where
  any : True
theorem Lad.on {w w' : World} (h : Lad w) (b : Bel w w') : Lad w' where
  any := (fun (_ : Bel w w') => h.any) b
/-- What a callee says in every world that holds the listed variables. -/
def Tells (f : Nat) (args : Array Value) (E : Ending) : Prop := ∀ W : World, Lad W → Calls Tryd.prog f args W fun e w' => e = E ∧ Bel W w'
theorem Tells.of_eq {f : Nat} {args : Array Value} {E : Ending} (h : ∀ W : World, Calls Tryd.prog f args W fun e w' => e = E ∧ W = w') : Tells f args E := fun W _ => (h W).mono fun _ _ k => ⟨k.1, Bel.of_eq k.2⟩
theorem Tells.of_eq' {f : Nat} {args : Array Value} {E : Ending} (h : ∀ W : World, Calls Tryd.prog f args W fun e w' => e = E ∧ w' = W) : Tells f args E := fun W _ => (h W).mono fun _ _ k => ⟨k.1, Bel.of_eq k.2.symm⟩
end Go.Proofs.YtghjflmanldjlaaDoor
