/-
  The walks of the laws on Make and Valid, on the four operations, on rounding, and on texts.
-/
import Derived.Test.YtghcbicapcpmlaaRatL
import Derived.Deep.RegionHeld3
namespace Go.Proofs.Ytghcbicapcpmlaa
open Go.RowKit
namespace Rat2

/-- What a callee says, at every world. -/
def Says (f : Nat) (args : Array Value) (E : Ending) : Prop := ∀ W : World, Calls Try.prog f args W fun e w' => e = E ∧ Grown W w'
theorem held3 {f : Nat} {args : Array Value} {w W : World} {E : Ending} (h : Says f args E) {b1 b2 b3 : Nat} {x1 y1 x2 y2 x3 y3 : Int}
    (p1 : W.cell? ⟨b1, 0, none⟩ = some (.int .i64 x1)) (p2 : W.cell? ⟨b1, 1, none⟩ = some (.int .i64 y1)) (p3 : W.cell? ⟨b2, 0, none⟩ = some (.int .i64 x2)) (p4 : W.cell? ⟨b2, 1, none⟩ = some (.int .i64 y2))
    (p5 : W.cell? ⟨b3, 0, none⟩ = some (.int .i64 x3)) (p6 : W.cell? ⟨b3, 1, none⟩ = some (.int .i64 y3)) (z1 : b1 < W.heap.size) (z2 : b2 < W.heap.size) (z3 : b3 < W.heap.size) (g : Grown w W) :
    Calls Try.prog f args W fun e w' => e = E ∧ w'.cell? ⟨b1, 0, none⟩ = some (.int .i64 x1) ∧ w'.cell? ⟨b1, 1, none⟩ = some (.int .i64 y1) ∧ w'.cell? ⟨b2, 0, none⟩ = some (.int .i64 x2) ∧ w'.cell? ⟨b2, 1, none⟩ = some (.int .i64 y2)
      ∧ w'.cell? ⟨b3, 0, none⟩ = some (.int .i64 x3) ∧ w'.cell? ⟨b3, 1, none⟩ = some (.int .i64 y3) ∧ b1 < w'.heap.size ∧ b2 < w'.heap.size ∧ b3 < w'.heap.size ∧ Grown w w' :=
  (h W).mono fun _ _ ⟨he, k⟩ => ⟨he, Gr.old k z1 p1, Gr.old k z1 p2, Gr.old k z2 p3, Gr.old k z2 p4, Gr.old k z3 p5, Gr.old k z3 p6, Nat.lt_of_lt_of_le z1 k.2.2, Nat.lt_of_lt_of_le z2 k.2.2, Nat.lt_of_lt_of_le z3 k.2.2, Gr.trans g k⟩

theorem makes_core (n d a b X Y E : Int) (v : Bool) (hM : Hid (Says 9 #[.int .i64 n, .int .i64 d] (pr X Y E))) (hR : Hid (Says 10 #[.int .i64 n, .int .i64 d] (pr X Y E)))
    (hV : Hid (Says 11 #[rv a b] (.returned (.bool v)))) (hU : Hid (Says 12 #[rv a b] (.returned (.bool v)))) (hA : Hid (Says 13 #[] (.returned (.bool true)))) (w : World) :
    Calls Try.prog 3 #[.int .i64 n, .int .i64 d, rv a b] w fun e w' => e = .returned (.bool true) ∧ Grown w w' := by
  go_enter Try.func3, Try.ntmps3
  go_wp2_with fail
  refine (hM.out _).mono ?_
  rintro e w1 ⟨rfl, g1⟩
  have A := Two.new g1
  have G1 := Gr.one g1
  clear g1
  go_wp2_with fail
  refine (hR.out _).mono ?_
  rintro e w2 ⟨rfl, g2⟩
  have B := Two.new g2
  have A2 := Two.old A (Gr.one g2)
  have G2 := Gr.trans G1 (Gr.one g2)
  clear g2 A G1
  go_wp2_with fail
  generalize hw3 : w2.alloc (.cells #[.int .i64 X, .int .i64 Y] 23) = w3
  have g3 : Grown (w2.alloc (.cells #[.int .i64 X, .int .i64 Y] 23)) w3 := Gr.eq hw3
  have C := Two.new g3
  obtain ⟨a1, a2, a3⟩ := Two.old A2 (Gr.one g3)
  obtain ⟨b1, b2, b3⟩ := Two.old B (Gr.one g3)
  obtain ⟨c1, c2, c3⟩ := C
  have G3 := Gr.trans G2 (Gr.one g3)
  clear g3 hw3 A2 B G2
  go_region_held3 (fun W => W.cell? ⟨w.heap.size, 0, none⟩ = some (.int .i64 a) ∧ W.cell? ⟨w.heap.size, 1, none⟩ = some (.int .i64 b) ∧ W.cell? ⟨w1.heap.size, 0, none⟩ = some (.int .i64 X) ∧ W.cell? ⟨w1.heap.size, 1, none⟩ = some (.int .i64 Y) ∧ W.cell? ⟨w2.heap.size, 0, none⟩ = some (.int .i64 X) ∧ W.cell? ⟨w2.heap.size, 1, none⟩ = some (.int .i64 Y) ∧ w.heap.size < W.heap.size ∧ w1.heap.size < W.heap.size ∧ w2.heap.size < W.heap.size ∧ Grown w W)
    (first | exact ⟨h1, h2, h3, h4, h5, h6, h7, h8, h9, h10⟩ | exact ⟨a1, a2, b1, b2, c1, c2, a3, b3, c3, G3⟩)
    (first | (go_at_call 11; (with_reducible refine (held3 (w := w) (b1 := w.heap.size) (b2 := w1.heap.size) (b3 := w2.heap.size) (x1 := a) (y1 := b) (x2 := X) (y2 := Y) (x3 := X) (y3 := Y) hV.out ?_ ?_ ?_ ?_ ?_ ?_ ?_ ?_ ?_ ?_).mono ?_); (assumption); (assumption); (assumption); (assumption); (assumption); (assumption); (assumption); (assumption); (assumption); (assumption); rintro e w' ⟨rfl, h1, h2, h3, h4, h5, h6, h7, h8, h9, h10⟩) | (go_at_call 12; (with_reducible refine (held3 (w := w) (b1 := w.heap.size) (b2 := w1.heap.size) (b3 := w2.heap.size) (x1 := a) (y1 := b) (x2 := X) (y2 := Y) (x3 := X) (y3 := Y) hU.out ?_ ?_ ?_ ?_ ?_ ?_ ?_ ?_ ?_ ?_).mono ?_); (assumption); (assumption); (assumption); (assumption); (assumption); (assumption); (assumption); (assumption); (assumption); (assumption); rintro e w' ⟨rfl, h1, h2, h3, h4, h5, h6, h7, h8, h9, h10⟩) | (go_at_call 13; (with_reducible refine (held3 (w := w) (b1 := w.heap.size) (b2 := w1.heap.size) (b3 := w2.heap.size) (x1 := a) (y1 := b) (x2 := X) (y2 := Y) (x3 := X) (y3 := Y) hA.out ?_ ?_ ?_ ?_ ?_ ?_ ?_ ?_ ?_ ?_).mono ?_); (assumption); (assumption); (assumption); (assumption); (assumption); (assumption); (assumption); (assumption); (assumption); (assumption); rintro e w' ⟨rfl, h1, h2, h3, h4, h5, h6, h7, h8, h9, h10⟩))
  all_goals
    go_wp2_with fail
    go_ret
    exact ⟨rfl, h10⟩
theorem law_makes (n d a b : Int) (w : World) : Calls Try.prog 3 #[.int .i64 n, .int .i64 d, rv a b] w fun e w' => e = .returned (.bool true) ∧ Grown w w' :=
  makes_core n d a b _ _ _ _ (Lib.hid fun W => make_any n d W) (Lib.hid fun W => rmake_any n d W) (Lib.hid fun W => valid_any a b W) (Lib.hid fun W => rvalid_any a b W) (Lib.hid fun W => awake_any W) w
end Rat2
end Go.Proofs.Ytghcbicapcpmlaa
