/-
  The walk of the law on the four operations.
-/
import Derived.Test.YtghcbicapcpmlaaRatN
namespace Go.Proofs.Ytghcbicapcpmlaa
open Go.RowKit
namespace Rat2

/-- Two cells of a block that may be written. -/
def Own (w : World) (b : Nat) (x y : Int) : Prop := w.cell? ⟨b, 0, none⟩ = some (.int .i64 x) ∧ w.cell? ⟨b, 1, none⟩ = some (.int .i64 y) ∧ w.frozen? ⟨b, 0, none⟩ = false ∧ w.frozen? ⟨b, 1, none⟩ = false ∧ b < w.heap.size
theorem Own.old {w w' : World} {b : Nat} {x y : Int} (h : Own w b x y) (g : Grown w w') : Own w' b x y :=
  ⟨Gr.old g h.2.2.2.2 h.1, Gr.old g h.2.2.2.2 h.2.1, Gr.oldF g h.2.2.1, Gr.oldF g h.2.2.2.1, Nat.lt_of_lt_of_le h.2.2.2.2 g.2.2⟩
theorem Own.new {w w' : World} {x y : Int} {t : TypeId} (h : Grown (w.alloc (.cells #[.int .i64 x, .int .i64 y] t)) w') : Own w' w.heap.size x y := Gr.new2 h
theorem size_set (w : World) (a : Addr) (v : Value) : (w.setCell a v).heap.size = w.heap.size := by simp [World.setCell]
theorem Own.store {w : World} {b : Nat} {x y : Int} (h : Own w b x y) (p q : Int) : Own ((w.setCell ⟨b, 0, none⟩ (.int .i64 p)).setCell ⟨b, 1, none⟩ (.int .i64 q)) b p q := by
  obtain ⟨h1, h2, h3, h4, h5⟩ := h
  refine ⟨?_, ?_, ?_, ?_, ?_⟩
  · exact (World.cell?_setCell_other _ _ _ _ (by intro e; injection e; omega)).trans (World.cell?_setCell_same _ _ _ h1)
  · exact World.cell?_setCell_same _ _ _ ((World.cell?_setCell_other _ _ _ _ (by intro e; injection e; omega)).trans h2)
  · exact (World.frozen?_setCell _ _ _ _).trans ((World.frozen?_setCell _ _ _ _).trans h3)
  · exact (World.frozen?_setCell _ _ _ _).trans ((World.frozen?_setCell _ _ _ _).trans h4)
  · simpa [size_set] using h5
theorem Own.other {w : World} {b c : Nat} {x y : Int} (h : Own w b x y) (hn : b ≠ c) (p q : Value) : Own ((w.setCell ⟨c, 0, none⟩ p).setCell ⟨c, 1, none⟩ q) b x y := by
  obtain ⟨h1, h2, h3, h4, h5⟩ := h
  refine ⟨?_, ?_, ?_, ?_, ?_⟩
  · exact (World.cell?_setCell_other _ _ _ _ (by intro e; injection e; omega)).trans ((World.cell?_setCell_other _ _ _ _ (by intro e; injection e; omega)).trans h1)
  · exact (World.cell?_setCell_other _ _ _ _ (by intro e; injection e; omega)).trans ((World.cell?_setCell_other _ _ _ _ (by intro e; injection e; omega)).trans h2)
  · exact (World.frozen?_setCell _ _ _ _).trans ((World.frozen?_setCell _ _ _ _).trans h3)
  · exact (World.frozen?_setCell _ _ _ _).trans ((World.frozen?_setCell _ _ _ _).trans h4)
  · simpa [size_set] using h5

set_option maxHeartbeats 2000000 in
theorem arith_core (a1 a2 b1 b2 X0 Y0 E0 X1 Y1 E1 X2 Y2 E2 X3 Y3 E3 : Int) (h0 : Hid (Says 14 #[rv a1 a2, rv b1 b2] (pr X0 Y0 E0))) (r0 : Hid (Says 15 #[rv a1 a2, rv b1 b2] (pr X0 Y0 E0))) (h1 : Hid (Says 16 #[rv a1 a2, rv b1 b2] (pr X1 Y1 E1))) (r1 : Hid (Says 17 #[rv a1 a2, rv b1 b2] (pr X1 Y1 E1))) (h2 : Hid (Says 18 #[rv a1 a2, rv b1 b2] (pr X2 Y2 E2))) (r2 : Hid (Says 19 #[rv a1 a2, rv b1 b2] (pr X2 Y2 E2))) (h3 : Hid (Says 20 #[rv a1 a2, rv b1 b2] (pr X3 Y3 E3))) (r3 : Hid (Says 21 #[rv a1 a2, rv b1 b2] (pr X3 Y3 E3))) (hA : Hid (Says 13 #[] (.returned (.bool true)))) (w : World) :
    Calls Try.prog 4 #[rv a1 a2, rv b1 b2] w fun e w' => e = .returned (.bool true) ∧ Grown w w' := by
  go_enter Try.func4, Try.ntmps4
  go_wp2_with fail
  refine (h0.out _).mono ?_
  rintro e w1 ⟨rfl, g1⟩
  obtain ⟨A, B, z1, G⟩ : Own w1 w.heap.size a1 a2 ∧ Own w1 (w.heap.size + 1) b1 b2 ∧ w.heap.size + 1 < w1.heap.size ∧ Grown w w1 := by
    have k2 := Own.new g1
    rw [size_alloc] at k2
    have k1 := Own.new (Gr.one g1)
    exact ⟨k1, k2, k2.2.2.2.2, Gr.one (Gr.one g1)⟩
  have z0 : w.heap.size < w1.heap.size := by omega
  clear g1
  obtain ⟨p1, p2, _, _, _⟩ := id A
  obtain ⟨q1, q2, _, _, _⟩ := id B
  go_wp2_with fail
  refine (r0.out _).mono ?_
  rintro e w2 ⟨rfl, g2⟩
  clear p1 p2 q1 q2
  have X := Own.new g2
  have A := A.old (Gr.one g2)
  have B := B.old (Gr.one g2)
  have G := Gr.trans G (Gr.one g2)
  have z2 : w1.heap.size < w2.heap.size := X.2.2.2.2
  have z3 : w.heap.size < w2.heap.size := by omega
  have z4 : w.heap.size + 1 < w2.heap.size := by omega
  clear g2
  obtain ⟨p1, p2, _, _, p5⟩ := id A
  obtain ⟨q1, q2, _, _, q5⟩ := id B
  obtain ⟨x1, x2, x3, x4, x5⟩ := id X
  go_wp2_with fail
  refine (h1.out _).mono ?_
  rintro e w3 ⟨rfl, g3⟩
  clear p1 p2 q1 q2 x1 x2 x3 x4 p5 q5 x5
  have Y := Own.new g3
  have A := A.old (Gr.one g3)
  have B := B.old (Gr.one g3)
  have X := X.old (Gr.one g3)
  have G := Gr.trans G (Gr.one g3)
  clear g3
  have n1 : w.heap.size ≠ w1.heap.size := by omega
  have n2 : w.heap.size + 1 ≠ w1.heap.size := by omega
  have n3 : w.heap.size ≠ w2.heap.size := by omega
  have n4 : w.heap.size + 1 ≠ w2.heap.size := by omega
  have n5 : w1.heap.size ≠ w2.heap.size := by omega
  have n6 : w2.heap.size ≠ w1.heap.size := by omega
  obtain ⟨p1, p2, _, _, p5⟩ := id A
  obtain ⟨q1, q2, _, _, q5⟩ := id B
  obtain ⟨x1, x2, x3, x4, x5⟩ := id X
  obtain ⟨y1, y2, y3, y4, y5⟩ := id Y
  go_wp2_with fail
  refine (r1.out _).mono ?_
  rintro e w4 ⟨rfl, g4⟩
  clear p1 p2 q1 q2 x1 x2 x3 x4 y1 y2 y3 y4 p5 q5 x5 y5
  have A := (A.other n1 _ _).old g4
  have B := (B.other n2 _ _).old g4
  have X := (X.store X1 Y1).old g4
  have Y := (Y.other n6 _ _).old g4
  have G := Gr.trans ((G.setCell (a := ⟨w1.heap.size, 0, none⟩) (by show w.heap.size ≤ w1.heap.size; omega) _).setCell (a := ⟨w1.heap.size, 1, none⟩) (by show w.heap.size ≤ w1.heap.size; omega) _) g4
  clear g4
  obtain ⟨p1, p2, _, _, p5⟩ := id A
  obtain ⟨q1, q2, _, _, q5⟩ := id B
  obtain ⟨x1, x2, x3, x4, x5⟩ := id X
  obtain ⟨y1, y2, y3, y4, y5⟩ := id Y
  go_wp2_with fail
  refine (h2.out _).mono ?_
  rintro e w5 ⟨rfl, g5⟩
  clear p1 p2 q1 q2 x1 x2 x3 x4 y1 y2 y3 y4 p5 q5 x5 y5
  have A := (A.other n3 _ _).old g5
  have B := (B.other n4 _ _).old g5
  have X := (X.other n5 _ _).old g5
  have Y := (Y.store X1 Y1).old g5
  have G := Gr.trans ((G.setCell (a := ⟨w2.heap.size, 0, none⟩) (by show w.heap.size ≤ w2.heap.size; omega) _).setCell (a := ⟨w2.heap.size, 1, none⟩) (by show w.heap.size ≤ w2.heap.size; omega) _) g5
  clear g5
  obtain ⟨p1, p2, _, _, p5⟩ := id A
  obtain ⟨q1, q2, _, _, q5⟩ := id B
  obtain ⟨x1, x2, x3, x4, x5⟩ := id X
  obtain ⟨y1, y2, y3, y4, y5⟩ := id Y
  go_wp2_with fail
  refine (r2.out _).mono ?_
  rintro e w6 ⟨rfl, g6⟩
  clear p1 p2 q1 q2 x1 x2 x3 x4 y1 y2 y3 y4 p5 q5 x5 y5
  have A := (A.other n1 _ _).old g6
  have B := (B.other n2 _ _).old g6
  have X := (X.store X2 Y2).old g6
  have Y := (Y.other n6 _ _).old g6
  have G := Gr.trans ((G.setCell (a := ⟨w1.heap.size, 0, none⟩) (by show w.heap.size ≤ w1.heap.size; omega) _).setCell (a := ⟨w1.heap.size, 1, none⟩) (by show w.heap.size ≤ w1.heap.size; omega) _) g6
  clear g6
  obtain ⟨p1, p2, _, _, p5⟩ := id A
  obtain ⟨q1, q2, _, _, q5⟩ := id B
  obtain ⟨x1, x2, x3, x4, x5⟩ := id X
  obtain ⟨y1, y2, y3, y4, y5⟩ := id Y
  go_wp2_with fail
  refine (h3.out _).mono ?_
  rintro e w7 ⟨rfl, g7⟩
  clear p1 p2 q1 q2 x1 x2 x3 x4 y1 y2 y3 y4 p5 q5 x5 y5
  have A := (A.other n3 _ _).old g7
  have B := (B.other n4 _ _).old g7
  have X := (X.other n5 _ _).old g7
  have Y := (Y.store X2 Y2).old g7
  have G := Gr.trans ((G.setCell (a := ⟨w2.heap.size, 0, none⟩) (by show w.heap.size ≤ w2.heap.size; omega) _).setCell (a := ⟨w2.heap.size, 1, none⟩) (by show w.heap.size ≤ w2.heap.size; omega) _) g7
  clear g7
  obtain ⟨p1, p2, _, _, p5⟩ := id A
  obtain ⟨q1, q2, _, _, q5⟩ := id B
  obtain ⟨x1, x2, x3, x4, x5⟩ := id X
  obtain ⟨y1, y2, y3, y4, y5⟩ := id Y
  go_wp2_with fail
  refine (r3.out _).mono ?_
  rintro e w8 ⟨rfl, g8⟩
  clear p1 p2 q1 q2 x1 x2 x3 x4 y1 y2 y3 y4 p5 q5 x5 y5
  have A := (A.other n1 _ _).old g8
  have B := (B.other n2 _ _).old g8
  have X := (X.store X3 Y3).old g8
  have Y := (Y.other n6 _ _).old g8
  have G := Gr.trans ((G.setCell (a := ⟨w1.heap.size, 0, none⟩) (by show w.heap.size ≤ w1.heap.size; omega) _).setCell (a := ⟨w1.heap.size, 1, none⟩) (by show w.heap.size ≤ w1.heap.size; omega) _) g8
  clear g8
  obtain ⟨p1, p2, _, _, p5⟩ := id A
  obtain ⟨q1, q2, _, _, q5⟩ := id B
  obtain ⟨x1, x2, x3, x4, x5⟩ := id X
  obtain ⟨y1, y2, y3, y4, y5⟩ := id Y
  go_wp2_with fail
  refine (hA.out _).mono ?_
  rintro e w9 ⟨rfl, g9⟩
  clear p1 p2 q1 q2 x1 x2 x3 x4 y1 y2 y3 y4 p5 q5 x5 y5
  have A := (A.other n3 _ _).old g9
  have B := (B.other n4 _ _).old g9
  have X := (X.other n5 _ _).old g9
  have Y := (Y.store X3 Y3).old g9
  have G := Gr.trans ((G.setCell (a := ⟨w2.heap.size, 0, none⟩) (by show w.heap.size ≤ w2.heap.size; omega) _).setCell (a := ⟨w2.heap.size, 1, none⟩) (by show w.heap.size ≤ w2.heap.size; omega) _) g9
  clear g9
  go_wp2_with fail
  go_ret
  exact ⟨rfl, G⟩
theorem law_arith (a1 a2 b1 b2 : Int) (w : World) : Calls Try.prog 4 #[rv a1 a2, rv b1 b2] w fun e w' => e = .returned (.bool true) ∧ Grown w w' :=
  arith_core a1 a2 b1 b2 _ _ _ _ _ _ _ _ _ _ _ _ (Lib.hid fun W => add_any a1 a2 b1 b2 W) (Lib.hid fun W => radd_any a1 a2 b1 b2 W) (Lib.hid fun W => sub_any a1 a2 b1 b2 W) (Lib.hid fun W => rsub_any a1 a2 b1 b2 W) (Lib.hid fun W => mul_any a1 a2 b1 b2 W) (Lib.hid fun W => rmul_any a1 a2 b1 b2 W) (Lib.hid fun W => div_any a1 a2 b1 b2 W) (Lib.hid fun W => rdiv_any a1 a2 b1 b2 W) (Lib.hid fun W => awake_any W) w
end Rat2
end Go.Proofs.Ytghcbicapcpmlaa
