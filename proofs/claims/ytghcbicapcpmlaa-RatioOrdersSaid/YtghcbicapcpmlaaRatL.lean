/-
  The examples of the chapter hold: awake returns true.
-/
import Derived.Test.YtghcbicapcpmlaaRatK
import Derived.Test.YtghcbicapcpmlaaRatG
namespace Go.Proofs.Ytghcbicapcpmlaa
open Go.RowKit
namespace Rat2

theorem pr_eq {a b c x y z : Int} (h1 : a = x) (h2 : b = y) (h3 : c = z) : pr a b c = pr x y z := by rw [h1, h2, h3]
theorem ret_bool {a b : Bool} (h : a = b) : Ending.returned (.bool a) = .returned (.bool b) := by rw [h]
theorem ret_str {a b : ByteArray} (h : a = b) : Ending.returned (.string a) = .returned (.string b) := by rw [h]
theorem aw_make (w : World) : Calls Try.prog 9 #[.int .i64 6, .int .i64 (-4)] w fun e w' => e = pr (-3) 2 0 ∧ Grown w w' :=
  (make_any 6 (-4) w).mono fun _ _ ⟨he, g⟩ => ⟨he.trans (pr_eq (by decide +kernel) (by decide +kernel) (by decide +kernel)), g⟩
theorem aw_make0 (w : World) : Calls Try.prog 9 #[.int .i64 1, .int .i64 0] w fun e w' => e = pr 0 0 9 ∧ Grown w w' :=
  (make_any 1 0 w).mono fun _ _ ⟨he, g⟩ => ⟨he.trans (pr_eq (by decide +kernel) (by decide +kernel) (by decide +kernel)), g⟩
theorem aw_add (w : World) : Calls Try.prog 14 #[rv 1 2, rv 1 3] w fun e w' => e = pr 5 6 0 ∧ Grown w w' :=
  (add_any 1 2 1 3 w).mono fun _ _ ⟨he, g⟩ => ⟨he.trans (pr_eq (by decide +kernel) (by decide +kernel) (by decide +kernel)), g⟩
theorem aw_cmp (w : World) : Calls Try.prog 24 #[rv 1 3, rv 1 2] w fun e w' => e = .returned (.int .i64 (-1)) ∧ Grown w w' :=
  (cmp_any 1 3 1 2 w).mono fun _ _ ⟨he, g⟩ => ⟨he.trans (ret_int (by decide +kernel)), g⟩
theorem aw_floor (w : World) : Calls Try.prog 26 #[rv (-3) 2] w fun e w' => e = .returned (.int .i64 (-2)) ∧ Grown w w' :=
  (floor_any (-3) 2 w).mono fun _ _ ⟨he, g⟩ => ⟨he.trans (ret_int (by decide +kernel)), g⟩
theorem aw_ceil (w : World) : Calls Try.prog 28 #[rv (-3) 2] w fun e w' => e = .returned (.int .i64 (-1)) ∧ Grown w w' :=
  (ceil_any (-3) 2 w).mono fun _ _ ⟨he, g⟩ => ⟨he.trans (ret_int (by decide +kernel)), g⟩
theorem pair_eq {a b x y : Int} (h1 : a = x) (h2 : b = y) : Num.pair a b = Num.pair x y := by rw [h1, h2]
theorem aw_of1 (w : World) : Calls Try.prog 22 #[rv (-2) 3, .int .i64 10] w fun e w' => e = Num.pair (-7) 0 ∧ Grown w w' :=
  (of_any (-2) 3 10 w).mono fun _ _ ⟨he, g⟩ => ⟨he.trans (pair_eq (by decide +kernel) (by decide +kernel)), g⟩
theorem aw_of2 (w : World) : Calls Try.prog 22 #[rv 1000000000 1, .int .i64 1000000000000] w fun e w' => e = Num.pair 0 8 ∧ Grown w w' :=
  (of_any 1000000000 1 1000000000000 w).mono fun _ _ ⟨he, g⟩ => ⟨he.trans (pair_eq (by decide +kernel) (by decide +kernel)), g⟩
theorem aw_fmt (w : World) : Calls Try.prog 32 #[rv (-3) 2] w fun e w' => e = .returned (.string ⟨#[45, 51, 47, 50]⟩) ∧ Grown w w' :=
  (format_any (-3) 2 w).mono fun _ _ ⟨he, g⟩ => ⟨he.trans (ret_str (by decide +kernel)), g⟩
theorem aw_pa1 (w : World) : Calls Try.prog 30 #[.string ⟨#[45, 51, 47, 50]⟩] w fun e w' => e = pr (-3) 2 0 ∧ Grown w w' :=
  (parse_any ⟨#[45, 51, 47, 50]⟩ (by decide) w).mono fun _ _ ⟨he, g⟩ => ⟨he.trans (pr_eq (by decide +kernel) (by decide +kernel) (by decide +kernel)), g⟩
theorem aw_pa2 (w : World) : Calls Try.prog 30 #[.string ⟨#[50, 47, 52]⟩] w fun e w' => e = pr 0 0 1 ∧ Grown w w' :=
  (parse_any ⟨#[50, 47, 52]⟩ (by decide) w).mono fun _ _ ⟨he, g⟩ => ⟨he.trans (pr_eq (by decide +kernel) (by decide +kernel) (by decide +kernel)), g⟩
theorem aw_v1 (w : World) : Calls Try.prog 11 #[rv 0 1] w fun e w' => e = .returned (.bool true) ∧ Grown w w' :=
  (valid_any 0 1 w).mono fun _ _ ⟨he, g⟩ => ⟨he.trans (ret_bool (by decide +kernel)), g⟩
theorem aw_v2 (w : World) : Calls Try.prog 11 #[rv 0 2] w fun e w' => e = .returned (.bool false) ∧ Grown w w' :=
  (valid_any 0 2 w).mono fun _ _ ⟨he, g⟩ => ⟨he.trans (ret_bool (by decide +kernel)), g⟩

/-- Two cells of a block. -/
def Two (w : World) (b : Nat) (x y : Int) : Prop := w.cell? ⟨b, 0, none⟩ = some (.int .i64 x) ∧ w.cell? ⟨b, 1, none⟩ = some (.int .i64 y) ∧ b < w.heap.size
theorem Two.old {w w' : World} {b : Nat} {x y : Int} (h : Two w b x y) (g : Grown w w') : Two w' b x y := ⟨Gr.old g h.2.2 h.1, Gr.old g h.2.2 h.2.1, Nat.lt_of_lt_of_le h.2.2 g.2.2⟩
theorem Two.new {w w' : World} {x y : Int} {t : TypeId} (h : Grown (w.alloc (.cells #[.int .i64 x, .int .i64 y] t)) w') : Two w' w.heap.size x y := by
  have := Gr.new2 h
  exact ⟨this.1, this.2.1, this.2.2.2.2⟩
theorem Gr.one {w w' : World} {c : Array Value} {t : TypeId} (h : Grown (w.alloc (.cells c t)) w') : Grown w w' := Gr.trans ((Grown.refl _).alloc _ _) h

set_option maxHeartbeats 2000000 in
theorem awake_any (w : World) : Calls Try.prog 13 #[] w fun e w' => e = .returned (.bool true) ∧ Grown w w' := by
  go_enter Try.func13, Try.ntmps13
  go_wp2_with fail
  refine (aw_make _).mono ?_
  rintro e w1 ⟨rfl, g1⟩
  obtain ⟨h1, h2, t1, t2, z1, G1⟩ := Four.new g1
  have z0 : w.heap.size < w1.heap.size := by omega
  clear g1
  go_wp2_with fail
  refine (aw_add _).mono ?_
  rintro e w2 ⟨rfl, g2⟩
  have M := Two.new g2
  have g2' := Gr.one g2
  have H := Two.old ⟨h1, h2, by omega⟩ g2'
  have TT := Two.old ⟨t1, t2, by omega⟩ g2'
  have G2 := Gr.trans G1 g2'
  clear h1 h2 t1 t2 g2 g2' G1
  obtain ⟨h1, h2, h3⟩ := id H
  obtain ⟨t1, t2, t3⟩ := id TT
  obtain ⟨m1, m2, m3⟩ := id M
  go_wp2_with fail
  refine (aw_cmp _).mono ?_
  rintro e w3 ⟨rfl, g3⟩
  clear h1 h2 h3 t1 t2 t3 m1 m2 m3 H TT
  have M := Two.old M (Gr.one g3)
  have G3 := Gr.trans G2 (Gr.one g3)
  clear g3 G2
  obtain ⟨m1, m2, m3⟩ := id M
  go_wp2_with fail
  refine (aw_floor _).mono ?_
  rintro e w4 ⟨rfl, g4⟩
  clear m1 m2 m3
  have M := Two.old M g4
  have G4 := Gr.trans G3 g4
  clear g4 G3
  obtain ⟨m1, m2, m3⟩ := id M
  go_wp2_with fail
  refine (aw_ceil _).mono ?_
  rintro e w5 ⟨rfl, g5⟩
  clear m1 m2 m3
  have M := Two.old M g5
  have G5 := Gr.trans G4 g5
  clear g5 G4
  obtain ⟨m1, m2, m3⟩ := id M
  go_wp2_with fail
  refine (aw_of1 _).mono ?_
  rintro e w6 ⟨rfl, g6⟩
  unfold Num.pair
  clear m1 m2 m3
  have M := Two.old M g6
  have G6 := Gr.trans G5 g6
  clear g6 G5
  obtain ⟨m1, m2, m3⟩ := id M
  go_wp2_with fail
  refine (aw_of2 _).mono ?_
  rintro e w7 ⟨rfl, g7⟩
  unfold Num.pair
  clear m1 m2 m3
  have M := Two.old M g7
  have G7 := Gr.trans G6 g7
  clear g7 G6
  obtain ⟨m1, m2, m3⟩ := id M
  go_wp2_with fail
  refine (aw_fmt _).mono ?_
  rintro e w8 ⟨rfl, g8⟩
  clear m1 m2 m3
  have M := Two.old M g8
  have G8 := Gr.trans G7 g8
  clear g8 G7
  obtain ⟨m1, m2, m3⟩ := id M
  go_wp2_with fail
  refine (aw_pa1 _).mono ?_
  rintro e w9 ⟨rfl, g9⟩
  clear m1 m2 m3
  have M := Two.old M g9
  have G9 := Gr.trans G8 g9
  clear g9 G8
  obtain ⟨m1, m2, m3⟩ := id M
  go_wp2_with fail
  refine (aw_pa2 _).mono ?_
  rintro e w10 ⟨rfl, g10⟩
  clear m1 m2 m3
  have R := Two.new g10
  have M := Two.old M (Gr.one g10)
  have G10 := Gr.trans G9 (Gr.one g10)
  clear g10 G9
  obtain ⟨m1, m2, m3⟩ := id M
  obtain ⟨r1, r2, r3⟩ := id R
  go_wp2_with fail
  refine (aw_make0 _).mono ?_
  rintro e w11 ⟨rfl, g11⟩
  clear m1 m2 m3 r1 r2 r3
  have R := Two.old R g11
  have M := Two.old M g11
  have G11 := Gr.trans G10 g11
  clear g11 G10
  obtain ⟨m1, m2, m3⟩ := id M
  obtain ⟨r1, r2, r3⟩ := id R
  go_wp2_with fail
  refine (aw_v1 _).mono ?_
  rintro e w12 ⟨rfl, g12⟩
  clear m1 m2 m3 r1 r2 r3
  have G12 := Gr.trans G11 (Gr.one g12)
  clear g12 G11
  go_wp2_with fail
  refine (aw_v2 _).mono ?_
  rintro e w13 ⟨rfl, g13⟩
  have G13 := Gr.trans G12 g13
  clear g13 G12
  go_wp2_with fail
  go_ret
  exact ⟨rfl, G13⟩
end Rat2
end Go.Proofs.Ytghcbicapcpmlaa
