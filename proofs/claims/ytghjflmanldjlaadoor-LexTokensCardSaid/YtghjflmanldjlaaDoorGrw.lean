/-
  The relation of worlds in all contracts: new blocks, and draws; what an old or a new block reads as behind it.
-/
import Derived.Test.YtghjflmanldjlaaDoorRows
import Derived.WalkKit
import Derived.RowKit3
import Derived.Deep.QuietTactic
import Derived.BigQuiet
namespace Go.Proofs.YtghjflmanldjlaaDoor
open Go.RowKit

theorem Gr.trans {a b c : World} (h : Grown a b) (k : Grown b c) : Grown a c :=
  ⟨World.keptBut_trans h.1 k.1, fun x => (k.2.1 x).trans (h.2.1 x), Nat.le_trans h.2.2 k.2.2⟩
theorem Gr.drewN {a b : World} (h : Grown a b) (n : Nat) : Grown a (b.drewN n) := h
theorem Gr.eq {a b : World} (h : a = b) : Grown a b := h ▸ Grown.refl _

theorem Gr.cell {w w' : World} (h : Grown w w') {b off : Nat} (hb : b < w.heap.size) : w'.cell? ⟨b, off, none⟩ = w.cell? ⟨b, off, none⟩ := h.1.cell hb (fun f => f)
theorem Gr.alloc {W w' : World} (h : Grown W w') (c : Array Value) (t : TypeId) : Grown W (w'.alloc (.cells c t)) := h.alloc c t
/-- What a new block of two cells reads as, later on. -/
theorem Gr.new2 {w w' : World} {a b : Value} {t : TypeId} (h : Grown (w.alloc (.cells #[a, b] t)) w') :
    w'.cell? ⟨w.heap.size, 0, none⟩ = some a ∧ w'.cell? ⟨w.heap.size, 1, none⟩ = some b ∧ w'.frozen? ⟨w.heap.size, 0, none⟩ = false ∧ w'.frozen? ⟨w.heap.size, 1, none⟩ = false ∧ w.heap.size < w'.heap.size := by
  have hz : w.heap.size < (w.alloc (.cells #[a, b] t)).heap.size := by show w.heap.size < (w.heap.push _).size; simp
  refine ⟨(Gr.cell h hz).trans ?_, (Gr.cell h hz).trans ?_, (h.2.1 _).trans ?_, (h.2.1 _).trans ?_, Nat.lt_of_lt_of_le hz h.2.2⟩
  · unfold World.cell?; rw [(MapKept.heap_alloc w _).1]; rfl
  · unfold World.cell?; rw [(MapKept.heap_alloc w _).1]; rfl
  · unfold World.frozen?; rw [(MapKept.heap_alloc w _).1]; rfl
  · unfold World.frozen?; rw [(MapKept.heap_alloc w _).1]; rfl
theorem Gr.old {w w' : World} (h : Grown w w') {b off : Nat} {v : Value} (hb : b < w.heap.size) (hc : w.cell? ⟨b, off, none⟩ = some v) : w'.cell? ⟨b, off, none⟩ = some v := (Gr.cell h hb).trans hc
theorem Gr.oldF {w w' : World} (h : Grown w w') {b off : Nat} {v : Bool} (hc : w.frozen? ⟨b, off, none⟩ = v) : w'.frozen? ⟨b, off, none⟩ = v := (h.2.1 _).trans hc
/-- At a call in a region that draws: a contract that leaves every world as it is. -/
def Still (P : Program) (f : FuncId) (args : Array Value) (v : Value) : Prop := ∀ W : World, Calls P f args W fun e w' => e = .returned v ∧ w' = W
theorem Still.first {P : Program} {f : FuncId} {args : Array Value} {v : Value} (c : Still P f args v) (w : World) (n : Nat) :
    Calls P f args (w.drewN n) fun e w'' => e = .returned v ∧ ∃ m, w'' = w.drewN m := (c _).mono fun _ _ h => ⟨h.1, n, h.2⟩
theorem Still.later {P : Program} {f : FuncId} {args : Array Value} {v : Value} (c : Still P f args v) (w : World) (a n : Nat) :
    Calls P f args (w.drewN (a + n)) fun e w'' => e = .returned v ∧ ∃ m, w'' = w.drewN (a + m) := (c _).mono fun _ _ h => ⟨h.1, n, h.2⟩
/-- What a callee says, at every world. -/
def Says (f : Nat) (args : Array Value) (E : Ending) : Prop := ∀ W : World, Calls Tryd.prog f args W fun e w' => e = E ∧ Grown W w'
theorem Says.of_eq {f : Nat} {args : Array Value} {E : Ending} (h : ∀ W : World, Calls Tryd.prog f args W fun e w' => e = E ∧ W = w') : Says f args E := fun W => (h W).mono fun _ _ k => ⟨k.1, k.2 ▸ Grown.refl _⟩
end Go.Proofs.YtghjflmanldjlaaDoor
