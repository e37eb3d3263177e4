/-
  The walks of the laws on rounding and on texts.
-/
import Derived.Test.YtghcbicapcpmlaaRatO
import Derived.Test.YtghcbicapcpmlaaRatK
namespace Go.Proofs.Ytghcbicapcpmlaa
open Go.RowKit
namespace Rat2

theorem held2 {f : Nat} {args : Array Value} {w W : World} {E : Ending} (h : Says f args E) {b1 b2 : Nat} {x1 y1 x2 y2 : Int}
    (p1 : W.cell? ⟨b1, 0, none⟩ = some (.int .i64 x1)) (p2 : W.cell? ⟨b1, 1, none⟩ = some (.int .i64 y1)) (p3 : W.cell? ⟨b2, 0, none⟩ = some (.int .i64 x2)) (p4 : W.cell? ⟨b2, 1, none⟩ = some (.int .i64 y2))
    (z1 : b1 < W.heap.size) (z2 : b2 < W.heap.size) (g : Grown w W) :
    Calls Try.prog f args W fun e w' => e = E ∧ w'.cell? ⟨b1, 0, none⟩ = some (.int .i64 x1) ∧ w'.cell? ⟨b1, 1, none⟩ = some (.int .i64 y1) ∧ w'.cell? ⟨b2, 0, none⟩ = some (.int .i64 x2) ∧ w'.cell? ⟨b2, 1, none⟩ = some (.int .i64 y2)
      ∧ b1 < w'.heap.size ∧ b2 < w'.heap.size ∧ Grown w w' :=
  (h W).mono fun _ _ ⟨he, k⟩ => ⟨he, Gr.old k z1 p1, Gr.old k z1 p2, Gr.old k z2 p3, Gr.old k z2 p4, Nat.lt_of_lt_of_le z1 k.2.2, Nat.lt_of_lt_of_le z2 k.2.2, Gr.trans g k⟩

set_option maxHeartbeats 2000000 in
theorem rounds_core (a1 a2 b1 b2 n X E C F K : Int) (o0 : Hid (Says 22 #[rv a1 a2, .int .i64 n] (Num.pair X E))) (o1 : Hid (Says 23 #[rv a1 a2, .int .i64 n] (Num.pair X E)))
    (c0 : Hid (Says 24 #[rv a1 a2, rv b1 b2] (.returned (.int .i64 C)))) (c1 : Hid (Says 25 #[rv a1 a2, rv b1 b2] (.returned (.int .i64 C))))
    (f0 : Hid (Says 26 #[rv a1 a2] (.returned (.int .i64 F)))) (f1 : Hid (Says 27 #[rv a1 a2] (.returned (.int .i64 F))))
    (k0 : Hid (Says 28 #[rv a1 a2] (.returned (.int .i64 K)))) (k1 : Hid (Says 29 #[rv a1 a2] (.returned (.int .i64 K))))
    (hA : Hid (Says 13 #[] (.returned (.bool true)))) (w : World) :
    Calls Try.prog 5 #[rv a1 a2, rv b1 b2, .int .i64 n] w fun e w' => e = .returned (.bool true) ∧ Grown w w' := by
  go_enter Try.func5, Try.ntmps5
  go_wp2_with fail
  refine (o0.out _).mono ?_
  rintro e w1 ⟨rfl, g1⟩
  unfold Num.pair
  obtain ⟨p1, p2, q1, q2, z1, G⟩ := Four.new g1
  have z0 : w.heap.size < w1.heap.size := by omega
  clear g1
  go_wp2_with fail
  refine (o1.out _).mono ?_
  rintro e w2 ⟨rfl, g2⟩
  unfold Num.pair
  have P1 := Gr.old g2 z0 p1
  have P2 := Gr.old g2 z0 p2
  have Q1 := Gr.old g2 z1 q1
  have Q2 := Gr.old g2 z1 q2
  have Z0 := Nat.lt_of_lt_of_le z0 g2.2.2
  have Z1 := Nat.lt_of_lt_of_le z1 g2.2.2
  have G2 := Gr.trans G g2
  clear p1 p2 q1 q2 z0 z1 G g2
  go_wp2_with fail
  go_region_held3 (fun W => W.cell? ⟨w.heap.size, 0, none⟩ = some (.int .i64 a1) ∧ W.cell? ⟨w.heap.size, 1, none⟩ = some (.int .i64 a2) ∧ W.cell? ⟨w.heap.size + 1, 0, none⟩ = some (.int .i64 b1) ∧ W.cell? ⟨w.heap.size + 1, 1, none⟩ = some (.int .i64 b2) ∧ w.heap.size < W.heap.size ∧ w.heap.size + 1 < W.heap.size ∧ Grown w W)
    (first | exact ⟨h1, h2, h3, h4, h5, h6, h7⟩ | exact ⟨P1, P2, Q1, Q2, Z0, Z1, G2⟩)
    (first | (go_at_call 24; (with_reducible refine (held2 (w := w) (b1 := w.heap.size) (b2 := w.heap.size + 1) (x1 := a1) (y1 := a2) (x2 := b1) (y2 := b2) c0.out ?_ ?_ ?_ ?_ ?_ ?_ ?_).mono ?_); (assumption); (assumption); (assumption); (assumption); (assumption); (assumption); (assumption); rintro e w' ⟨rfl, h1, h2, h3, h4, h5, h6, h7⟩) | (go_at_call 25; (with_reducible refine (held2 (w := w) (b1 := w.heap.size) (b2 := w.heap.size + 1) (x1 := a1) (y1 := a2) (x2 := b1) (y2 := b2) c1.out ?_ ?_ ?_ ?_ ?_ ?_ ?_).mono ?_); (assumption); (assumption); (assumption); (assumption); (assumption); (assumption); (assumption); rintro e w' ⟨rfl, h1, h2, h3, h4, h5, h6, h7⟩) | (go_at_call 26; (with_reducible refine (held2 (w := w) (b1 := w.heap.size) (b2 := w.heap.size + 1) (x1 := a1) (y1 := a2) (x2 := b1) (y2 := b2) f0.out ?_ ?_ ?_ ?_ ?_ ?_ ?_).mono ?_); (assumption); (assumption); (assumption); (assumption); (assumption); (assumption); (assumption); rintro e w' ⟨rfl, h1, h2, h3, h4, h5, h6, h7⟩) | (go_at_call 27; (with_reducible refine (held2 (w := w) (b1 := w.heap.size) (b2 := w.heap.size + 1) (x1 := a1) (y1 := a2) (x2 := b1) (y2 := b2) f1.out ?_ ?_ ?_ ?_ ?_ ?_ ?_).mono ?_); (assumption); (assumption); (assumption); (assumption); (assumption); (assumption); (assumption); rintro e w' ⟨rfl, h1, h2, h3, h4, h5, h6, h7⟩) | (go_at_call 28; (with_reducible refine (held2 (w := w) (b1 := w.heap.size) (b2 := w.heap.size + 1) (x1 := a1) (y1 := a2) (x2 := b1) (y2 := b2) k0.out ?_ ?_ ?_ ?_ ?_ ?_ ?_).mono ?_); (assumption); (assumption); (assumption); (assumption); (assumption); (assumption); (assumption); rintro e w' ⟨rfl, h1, h2, h3, h4, h5, h6, h7⟩) | (go_at_call 29; (with_reducible refine (held2 (w := w) (b1 := w.heap.size) (b2 := w.heap.size + 1) (x1 := a1) (y1 := a2) (x2 := b1) (y2 := b2) k1.out ?_ ?_ ?_ ?_ ?_ ?_ ?_).mono ?_); (assumption); (assumption); (assumption); (assumption); (assumption); (assumption); (assumption); rintro e w' ⟨rfl, h1, h2, h3, h4, h5, h6, h7⟩) | (go_at_call 13; (with_reducible refine (held2 (w := w) (b1 := w.heap.size) (b2 := w.heap.size + 1) (x1 := a1) (y1 := a2) (x2 := b1) (y2 := b2) hA.out ?_ ?_ ?_ ?_ ?_ ?_ ?_).mono ?_); (assumption); (assumption); (assumption); (assumption); (assumption); (assumption); (assumption); rintro e w' ⟨rfl, h1, h2, h3, h4, h5, h6, h7⟩))
  all_goals
    go_wp2_with fail
    go_ret
    exact ⟨rfl, h7⟩
theorem law_rounds (a1 a2 b1 b2 n : Int) (w : World) : Calls Try.prog 5 #[rv a1 a2, rv b1 b2, .int .i64 n] w fun e w' => e = .returned (.bool true) ∧ Grown w w' :=
  rounds_core a1 a2 b1 b2 n _ _ _ _ _ (Lib.hid fun W => of_any a1 a2 n W) (Lib.hid fun W => rof_any a1 a2 n W) (Lib.hid fun W => cmp_any a1 a2 b1 b2 W) (Lib.hid fun W => rcmp_any a1 a2 b1 b2 W)
    (Lib.hid fun W => floor_any a1 a2 W) (Lib.hid fun W => rfloor_any a1 a2 W) (Lib.hid fun W => ceil_any a1 a2 W) (Lib.hid fun W => rceil_any a1 a2 W) (Lib.hid fun W => awake_any W) w
set_option maxHeartbeats 2000000 in
theorem texts_core (a b X Y E : Int) (s f : ByteArray) (hM : Hid (Says 30 #[.string s] (pr X Y E))) (hR : Hid (Says 31 #[.string s] (pr X Y E)))
    (hV : Hid (Says 32 #[rv a b] (.returned (.string f)))) (hU : Hid (Says 33 #[rv a b] (.returned (.string f)))) (hA : Hid (Says 13 #[] (.returned (.bool true)))) (w : World) :
    Calls Try.prog 6 #[rv a b, .string s] w fun e w' => e = .returned (.bool true) ∧ Grown w w' := by
  go_enter Try.func6, Try.ntmps6
  go_wp2_with fail
  refine (hM.out _).mono ?_
  rintro e w1 ⟨rfl, g1⟩
  have A := Two.new g1
  have G1 := Gr.one g1
  clear g1
  go_wp2_with fail
  refine (hR.out _).mono ?_
  rintro e w2 ⟨rfl, g2⟩
  have B := Two.new g2
  have A2 := Two.old A (Gr.one g2)
  have G2 := Gr.trans G1 (Gr.one g2)
  clear g2 A G1
  go_wp2_with fail
  generalize hw3 : w2.alloc (.cells #[.int .i64 X, .int .i64 Y] 23) = w3
  have g3 : Grown (w2.alloc (.cells #[.int .i64 X, .int .i64 Y] 23)) w3 := Gr.eq hw3
  have C := Two.new g3
  obtain ⟨a1, a2, a3⟩ := Two.old A2 (Gr.one g3)
  obtain ⟨b1, b2, b3⟩ := Two.old B (Gr.one g3)
  obtain ⟨c1, c2, c3⟩ := C
  have G3 := Gr.trans G2 (Gr.one g3)
  clear g3 hw3 A2 B G2
  go_region_held3 (fun W => W.cell? ⟨w.heap.size, 0, none⟩ = some (.int .i64 a) ∧ W.cell? ⟨w.heap.size, 1, none⟩ = some (.int .i64 b) ∧ W.cell? ⟨w1.heap.size, 0, none⟩ = some (.int .i64 X) ∧ W.cell? ⟨w1.heap.size, 1, none⟩ = some (.int .i64 Y) ∧ W.cell? ⟨w2.heap.size, 0, none⟩ = some (.int .i64 X) ∧ W.cell? ⟨w2.heap.size, 1, none⟩ = some (.int .i64 Y) ∧ w.heap.size < W.heap.size ∧ w1.heap.size < W.heap.size ∧ w2.heap.size < W.heap.size ∧ Grown w W)
    (first | exact ⟨h1, h2, h3, h4, h5, h6, h7, h8, h9, h10⟩ | exact ⟨a1, a2, b1, b2, c1, c2, a3, b3, c3, G3⟩)
    (first | (go_at_call 32; (with_reducible refine (held3 (w := w) (b1 := w.heap.size) (b2 := w1.heap.size) (b3 := w2.heap.size) (x1 := a) (y1 := b) (x2 := X) (y2 := Y) (x3 := X) (y3 := Y) hV.out ?_ ?_ ?_ ?_ ?_ ?_ ?_ ?_ ?_ ?_).mono ?_); (assumption); (assumption); (assumption); (assumption); (assumption); (assumption); (assumption); (assumption); (assumption); (assumption); rintro e w' ⟨rfl, h1, h2, h3, h4, h5, h6, h7, h8, h9, h10⟩) | (go_at_call 33; (with_reducible refine (held3 (w := w) (b1 := w.heap.size) (b2 := w1.heap.size) (b3 := w2.heap.size) (x1 := a) (y1 := b) (x2 := X) (y2 := Y) (x3 := X) (y3 := Y) hU.out ?_ ?_ ?_ ?_ ?_ ?_ ?_ ?_ ?_ ?_).mono ?_); (assumption); (assumption); (assumption); (assumption); (assumption); (assumption); (assumption); (assumption); (assumption); (assumption); rintro e w' ⟨rfl, h1, h2, h3, h4, h5, h6, h7, h8, h9, h10⟩) | (go_at_call 13; (with_reducible refine (held3 (w := w) (b1 := w.heap.size) (b2 := w1.heap.size) (b3 := w2.heap.size) (x1 := a) (y1 := b) (x2 := X) (y2 := Y) (x3 := X) (y3 := Y) hA.out ?_ ?_ ?_ ?_ ?_ ?_ ?_ ?_ ?_ ?_).mono ?_); (assumption); (assumption); (assumption); (assumption); (assumption); (assumption); (assumption); (assumption); (assumption); (assumption); rintro e w' ⟨rfl, h1, h2, h3, h4, h5, h6, h7, h8, h9, h10⟩))
  all_goals
    go_wp2_with fail
    go_ret
    exact ⟨rfl, h10⟩
theorem law_texts (a b : Int) (s : ByteArray) (hs : s.size ≤ maxLen) (w : World) : Calls Try.prog 6 #[rv a b, .string s] w fun e w' => e = .returned (.bool true) ∧ Grown w w' :=
  texts_core a b _ _ _ s _ (Lib.hid fun W => parse_any s hs W) (Lib.hid fun W => rparse_any s hs W) (Lib.hid fun W => format_any a b W) (Lib.hid fun W => rformat_any a b W) (Lib.hid fun W => awake_any W) w
end Rat2
end Go.Proofs.Ytghcbicapcpmlaa
