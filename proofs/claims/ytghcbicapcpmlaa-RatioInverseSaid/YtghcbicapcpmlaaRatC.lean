/-
  Contracts of Make, Add, Sub, Mul, Div and of the reference's.
-/
import Derived.Test.YtghcbicapcpmlaaRatB
import Derived.Test.YtghcbicapcpmlaaNumA
namespace Go.Proofs.Ytghcbicapcpmlaa
open Go.RowKit
namespace Rat2

/-- What two boxed ratios and a result's block read as, later on. -/
def Six (w w' : World) (a1 a2 b1 b2 : Int) : Prop :=
  w'.cell? ⟨w.heap.size, 0, none⟩ = some (.int .i64 a1) ∧ w'.cell? ⟨w.heap.size, 1, none⟩ = some (.int .i64 a2) ∧
  w'.cell? ⟨w.heap.size + 1, 0, none⟩ = some (.int .i64 b1) ∧ w'.cell? ⟨w.heap.size + 1, 1, none⟩ = some (.int .i64 b2) ∧
  w'.cell? ⟨w.heap.size + 2, 0, none⟩ = some (.int .i64 0) ∧ w'.cell? ⟨w.heap.size + 2, 1, none⟩ = some (.int .i64 0) ∧
  w'.frozen? ⟨w.heap.size + 2, 0, none⟩ = false ∧ w'.frozen? ⟨w.heap.size + 2, 1, none⟩ = false ∧ w.heap.size + 2 < w'.heap.size
theorem size_alloc (w : World) (o : Obj) : (w.alloc o).heap.size = w.heap.size + 1 := by show (w.heap.push _).size = _; simp
theorem Six.new {w w' : World} {a1 a2 b1 b2 : Int} {s t u : TypeId}
    (h : Grown (((w.alloc (.cells #[.int .i64 a1, .int .i64 a2] s)).alloc (.cells #[.int .i64 b1, .int .i64 b2] t)).alloc (.cells #[.int .i64 0, .int .i64 0] u)) w') : Six w w' a1 a2 b1 b2 := by
  have g3 := Gr.new2 h
  have h2 : Grown ((w.alloc (.cells #[.int .i64 a1, .int .i64 a2] s)).alloc (.cells #[.int .i64 b1, .int .i64 b2] t)) w' := Gr.trans ((Grown.refl _).alloc _ _) h
  have g2 := Gr.new2 h2
  have g1 := Gr.new2 (Gr.trans ((Grown.refl _).alloc _ _) h2)
  simp only [size_alloc] at g2 g3
  exact ⟨g1.1, g1.2.1, g2.1, g2.2.1, g3.1, g3.2.1, g3.2.2.1, g3.2.2.2.1, g3.2.2.2.2⟩
theorem Six.old {w w' w2 : World} {a1 a2 b1 b2 : Int} (h : Six w w' a1 a2 b1 b2) (g : Grown w' w2) : Six w w2 a1 a2 b1 b2 := by
  obtain ⟨h1, h2, h3, h4, h5, h6, h7, h8, h9⟩ := h
  exact ⟨Gr.old g (by omega) h1, Gr.old g (by omega) h2, Gr.old g (by omega) h3, Gr.old g (by omega) h4, Gr.old g (by omega) h5, Gr.old g (by omega) h6, Gr.oldF g h7, Gr.oldF g h8, by have := g.2.2; omega⟩
theorem Gr.of3 {w w' : World} {a b c : Array Value} {s t u : TypeId} (h : Grown (((w.alloc (.cells a s)).alloc (.cells b t)).alloc (.cells c u)) w') : Grown w w' :=
  Gr.trans ((((Grown.refl _).alloc _ _).alloc _ _).alloc _ _) h

/-- What an operation answers: a range error, a division by zero, or the reduced result. -/
def opN (ok z : Bool) (n d : Int) : Int := if ok then (if z then 0 else redN n d) else 0
def opD (ok z : Bool) (n d : Int) : Int := if ok then (if z then 0 else redD n d) else 0
def opE (ok z : Bool) (n d : Int) : Int := if ok then (if z then 9 else redE n d) else 2
abbrev prO (ok z : Bool) (n d : Int) : Ending := pr (opN ok z n d) (opD ok z n d) (opE ok z n d)

/-- A product of a numerator and a denominator. -/
theorem nd_bd {a b : Int} (h1 : -1000000000 ≤ a) (h2 : a ≤ 1000000000) (h3 : 1 ≤ b) (h4 : b ≤ 1000000) : -1000000000000000 ≤ a * b ∧ a * b ≤ 1000000000000000 := by
  have p1 : a * b ≤ 1000000000 * b := Int.mul_le_mul_of_nonneg_right h2 (by omega)
  have p2 : -1000000000 * b ≤ a * b := Int.mul_le_mul_of_nonneg_right h1 (by omega)
  omega
theorem dd_bd {a b : Int} (h1 : 1 ≤ a) (h2 : a ≤ 1000000) (h3 : 1 ≤ b) (h4 : b ≤ 1000000) : 1 ≤ a * b ∧ a * b ≤ 1000000000000 := by
  have p1 : a * b ≤ 1000000 * b := Int.mul_le_mul_of_nonneg_right h2 (by omega)
  have p2 : 1 * b ≤ a * b := Int.mul_le_mul_of_nonneg_right h1 (by omega)
  omega
theorem nn_bd {a b : Int} (h1 : -1000000000 ≤ a) (h2 : a ≤ 1000000000) (h3 : -1000000000 ≤ b) (h4 : b ≤ 1000000000) : -1000000000000000000 ≤ a * b ∧ a * b ≤ 1000000000000000000 := by
  by_cases h : 0 ≤ b
  · have p1 : a * b ≤ 1000000000 * b := Int.mul_le_mul_of_nonneg_right h2 h
    have p2 : -1000000000 * b ≤ a * b := Int.mul_le_mul_of_nonneg_right h1 h
    omega
  · have p1 : a * -b ≤ 1000000000 * -b := Int.mul_le_mul_of_nonneg_right h2 (by omega)
    have p2 : -1000000000 * -b ≤ a * -b := Int.mul_le_mul_of_nonneg_right h1 (by omega)
    rw [Int.mul_neg a b] at p1 p2
    omega

theorem add_any (a1 a2 b1 b2 : Int) (w : World) :
    Calls Try.prog 14 #[rv a1 a2, rv b1 b2] w fun e w' => e = prO (vr a1 a2 && vr b1 b2) false (a1 * b2 + b1 * a2) (a2 * b2) ∧ Grown w w' := by
  cases ha : vr a1 a2
  · have Ha := Lib.hid ha
    clear ha
    go_enter Try.func14, Try.ntmps14
    go_wp2_with fail
    refine (valid_any a1 a2 _).mono ?_
    rintro e w1 ⟨rfl, g1⟩
    rw [Ha.out]
    have S := Six.new g1
    have G := Gr.of3 g1
    clear g1
    obtain ⟨s1, s2, s3, s4, s5, s6, s7, s8, s9⟩ := S
    go_wp2_with fail
    exact bodyPost_ret (v := .tuple #[rv 0 0, .int .i64 2]) (by simp [results, Try.results14, go_sem, s5, s6]) rfl ⟨rfl, (G.setCell (by simp; omega) _).setCell (by simp; omega) _⟩
  · obtain ⟨x1, x2, x3, x4, _⟩ := vr_true ha
    have Ha := Lib.hid ha
    clear ha
    cases hb : vr b1 b2
    · have Hb := Lib.hid hb
      clear hb
      go_enter Try.func14, Try.ntmps14
      go_wp2_with fail
      refine (valid_any a1 a2 _).mono ?_
      rintro e w1 ⟨rfl, g1⟩
      rw [Ha.out]
      have S := Six.new g1
      have G := Gr.of3 g1
      clear g1
      obtain ⟨s1, s2, s3, s4, s5, s6, s7, s8, s9⟩ := id S
      go_wp2_with fail
      refine (valid_any b1 b2 _).mono ?_
      rintro e w2 ⟨rfl, g2⟩
      rw [Hb.out]
      clear s1 s2 s3 s4 s5 s6 s7 s8 s9
      have S2 := S.old g2
      have G2 := Gr.trans G g2
      clear G g2 S
      have G := G2
      clear G2
      obtain ⟨s1, s2, s3, s4, s5, s6, s7, s8, s9⟩ := S2
      go_wp2_with fail
      exact bodyPost_ret (v := .tuple #[rv 0 0, .int .i64 2]) (by simp [results, Try.results14, go_sem, s5, s6]) rfl ⟨rfl, (G.setCell (by simp; omega) _).setCell (by simp; omega) _⟩
    · obtain ⟨y1, y2, y3, y4, _⟩ := vr_true hb
      have Hb := Lib.hid hb
      clear hb
      obtain ⟨u0, v0⟩ := nd_bd x3 x4 y1 y2
      obtain ⟨u1, v1⟩ := nd_bd y3 y4 x1 x2
      obtain ⟨u2, v2⟩ := dd_bd x1 x2 y1 y2
      go_enter Try.func14, Try.ntmps14
      go_wp2_with fail
      refine (valid_any a1 a2 _).mono ?_
      rintro e w1 ⟨rfl, g1⟩
      rw [Ha.out]
      have S := Six.new g1
      have G := Gr.of3 g1
      clear g1
      obtain ⟨s1, s2, s3, s4, s5, s6, s7, s8, s9⟩ := id S
      go_wp2_with fail
      refine (valid_any b1 b2 _).mono ?_
      rintro e w2 ⟨rfl, g2⟩
      rw [Hb.out]
      clear s1 s2 s3 s4 s5 s6 s7 s8 s9
      have S2 := S.old g2
      have G2 := Gr.trans G g2
      clear G g2 S
      obtain ⟨s1, s2, s3, s4, s5, s6, s7, s8, s9⟩ := id S2
      go_wp2_with fail
      refine (reduce_any (a1 * b2 + b1 * a2) (a2 * b2) (by omega) (by omega) (by omega) (by omega) (by omega) _).mono ?_
      rintro e w3 ⟨rfl, g3⟩
      clear s1 s2 s3 s4 s5 s6 s7 s8 s9
      have S3 := S2.old g3
      have G := Gr.trans G2 g3
      clear G2 g3 S2
      obtain ⟨s1, s2, s3, s4, s5, s6, s7, s8, s9⟩ := S3
      go_wp2_with fail
      exact bodyPost_ret (v := .tuple #[rv (redN (a1 * b2 + b1 * a2) (a2 * b2)) (redD (a1 * b2 + b1 * a2) (a2 * b2)), .int .i64 (redE (a1 * b2 + b1 * a2) (a2 * b2))]) (by simp [results, Try.results14, go_sem, s5, s6]) rfl ⟨rfl, (G.setCell (by simp; omega) _).setCell (by simp; omega) _⟩

theorem sub_any (a1 a2 b1 b2 : Int) (w : World) :
    Calls Try.prog 16 #[rv a1 a2, rv b1 b2] w fun e w' => e = prO (vr a1 a2 && vr b1 b2) false (a1 * b2 - b1 * a2) (a2 * b2) ∧ Grown w w' := by
  cases ha : vr a1 a2
  · have Ha := Lib.hid ha
    clear ha
    go_enter Try.func16, Try.ntmps16
    go_wp2_with fail
    refine (valid_any a1 a2 _).mono ?_
    rintro e w1 ⟨rfl, g1⟩
    rw [Ha.out]
    have S := Six.new g1
    have G := Gr.of3 g1
    clear g1
    obtain ⟨s1, s2, s3, s4, s5, s6, s7, s8, s9⟩ := S
    go_wp2_with fail
    exact bodyPost_ret (v := .tuple #[rv 0 0, .int .i64 2]) (by simp [results, Try.results16, go_sem, s5, s6]) rfl ⟨rfl, (G.setCell (by simp; omega) _).setCell (by simp; omega) _⟩
  · obtain ⟨x1, x2, x3, x4, _⟩ := vr_true ha
    have Ha := Lib.hid ha
    clear ha
    cases hb : vr b1 b2
    · have Hb := Lib.hid hb
      clear hb
      go_enter Try.func16, Try.ntmps16
      go_wp2_with fail
      refine (valid_any a1 a2 _).mono ?_
      rintro e w1 ⟨rfl, g1⟩
      rw [Ha.out]
      have S := Six.new g1
      have G := Gr.of3 g1
      clear g1
      obtain ⟨s1, s2, s3, s4, s5, s6, s7, s8, s9⟩ := id S
      go_wp2_with fail
      refine (valid_any b1 b2 _).mono ?_
      rintro e w2 ⟨rfl, g2⟩
      rw [Hb.out]
      clear s1 s2 s3 s4 s5 s6 s7 s8 s9
      have S2 := S.old g2
      have G2 := Gr.trans G g2
      clear G g2 S
      have G := G2
      clear G2
      obtain ⟨s1, s2, s3, s4, s5, s6, s7, s8, s9⟩ := S2
      go_wp2_with fail
      exact bodyPost_ret (v := .tuple #[rv 0 0, .int .i64 2]) (by simp [results, Try.results16, go_sem, s5, s6]) rfl ⟨rfl, (G.setCell (by simp; omega) _).setCell (by simp; omega) _⟩
    · obtain ⟨y1, y2, y3, y4, _⟩ := vr_true hb
      have Hb := Lib.hid hb
      clear hb
      obtain ⟨u0, v0⟩ := nd_bd x3 x4 y1 y2
      obtain ⟨u1, v1⟩ := nd_bd y3 y4 x1 x2
      obtain ⟨u2, v2⟩ := dd_bd x1 x2 y1 y2
      go_enter Try.func16, Try.ntmps16
      go_wp2_with fail
      refine (valid_any a1 a2 _).mono ?_
      rintro e w1 ⟨rfl, g1⟩
      rw [Ha.out]
      have S := Six.new g1
      have G := Gr.of3 g1
      clear g1
      obtain ⟨s1, s2, s3, s4, s5, s6, s7, s8, s9⟩ := id S
      go_wp2_with fail
      refine (valid_any b1 b2 _).mono ?_
      rintro e w2 ⟨rfl, g2⟩
      rw [Hb.out]
      clear s1 s2 s3 s4 s5 s6 s7 s8 s9
      have S2 := S.old g2
      have G2 := Gr.trans G g2
      clear G g2 S
      obtain ⟨s1, s2, s3, s4, s5, s6, s7, s8, s9⟩ := id S2
      go_wp2_with fail
      refine (reduce_any (a1 * b2 - b1 * a2) (a2 * b2) (by omega) (by omega) (by omega) (by omega) (by omega) _).mono ?_
      rintro e w3 ⟨rfl, g3⟩
      clear s1 s2 s3 s4 s5 s6 s7 s8 s9
      have S3 := S2.old g3
      have G := Gr.trans G2 g3
      clear G2 g3 S2
      obtain ⟨s1, s2, s3, s4, s5, s6, s7, s8, s9⟩ := S3
      go_wp2_with fail
      exact bodyPost_ret (v := .tuple #[rv (redN (a1 * b2 - b1 * a2) (a2 * b2)) (redD (a1 * b2 - b1 * a2) (a2 * b2)), .int .i64 (redE (a1 * b2 - b1 * a2) (a2 * b2))]) (by simp [results, Try.results16, go_sem, s5, s6]) rfl ⟨rfl, (G.setCell (by simp; omega) _).setCell (by simp; omega) _⟩

theorem mul_any (a1 a2 b1 b2 : Int) (w : World) :
    Calls Try.prog 18 #[rv a1 a2, rv b1 b2] w fun e w' => e = prO (vr a1 a2 && vr b1 b2) false (a1 * b1) (a2 * b2) ∧ Grown w w' := by
  cases ha : vr a1 a2
  · have Ha := Lib.hid ha
    clear ha
    go_enter Try.func18, Try.ntmps18
    go_wp2_with fail
    refine (valid_any a1 a2 _).mono ?_
    rintro e w1 ⟨rfl, g1⟩
    rw [Ha.out]
    have S := Six.new g1
    have G := Gr.of3 g1
    clear g1
    obtain ⟨s1, s2, s3, s4, s5, s6, s7, s8, s9⟩ := S
    go_wp2_with fail
    exact bodyPost_ret (v := .tuple #[rv 0 0, .int .i64 2]) (by simp [results, Try.results18, go_sem, s5, s6]) rfl ⟨rfl, (G.setCell (by simp; omega) _).setCell (by simp; omega) _⟩
  · obtain ⟨x1, x2, x3, x4, _⟩ := vr_true ha
    have Ha := Lib.hid ha
    clear ha
    cases hb : vr b1 b2
    · have Hb := Lib.hid hb
      clear hb
      go_enter Try.func18, Try.ntmps18
      go_wp2_with fail
      refine (valid_any a1 a2 _).mono ?_
      rintro e w1 ⟨rfl, g1⟩
      rw [Ha.out]
      have S := Six.new g1
      have G := Gr.of3 g1
      clear g1
      obtain ⟨s1, s2, s3, s4, s5, s6, s7, s8, s9⟩ := id S
      go_wp2_with fail
      refine (valid_any b1 b2 _).mono ?_
      rintro e w2 ⟨rfl, g2⟩
      rw [Hb.out]
      clear s1 s2 s3 s4 s5 s6 s7 s8 s9
      have S2 := S.old g2
      have G2 := Gr.trans G g2
      clear G g2 S
      have G := G2
      clear G2
      obtain ⟨s1, s2, s3, s4, s5, s6, s7, s8, s9⟩ := S2
      go_wp2_with fail
      exact bodyPost_ret (v := .tuple #[rv 0 0, .int .i64 2]) (by simp [results, Try.results18, go_sem, s5, s6]) rfl ⟨rfl, (G.setCell (by simp; omega) _).setCell (by simp; omega) _⟩
    · obtain ⟨y1, y2, y3, y4, _⟩ := vr_true hb
      have Hb := Lib.hid hb
      clear hb
      obtain ⟨u0, v0⟩ := nn_bd x3 x4 y3 y4
      obtain ⟨u1, v1⟩ := dd_bd x1 x2 y1 y2
      go_enter Try.func18, Try.ntmps18
      go_wp2_with fail
      refine (valid_any a1 a2 _).mono ?_
      rintro e w1 ⟨rfl, g1⟩
      rw [Ha.out]
      have S := Six.new g1
      have G := Gr.of3 g1
      clear g1
      obtain ⟨s1, s2, s3, s4, s5, s6, s7, s8, s9⟩ := id S
      go_wp2_with fail
      refine (valid_any b1 b2 _).mono ?_
      rintro e w2 ⟨rfl, g2⟩
      rw [Hb.out]
      clear s1 s2 s3 s4 s5 s6 s7 s8 s9
      have S2 := S.old g2
      have G2 := Gr.trans G g2
      clear G g2 S
      obtain ⟨s1, s2, s3, s4, s5, s6, s7, s8, s9⟩ := id S2
      go_wp2_with fail
      refine (reduce_any (a1 * b1) (a2 * b2) (by omega) (by omega) (by omega) (by omega) (by omega) _).mono ?_
      rintro e w3 ⟨rfl, g3⟩
      clear s1 s2 s3 s4 s5 s6 s7 s8 s9
      have S3 := S2.old g3
      have G := Gr.trans G2 g3
      clear G2 g3 S2
      obtain ⟨s1, s2, s3, s4, s5, s6, s7, s8, s9⟩ := S3
      go_wp2_with fail
      exact bodyPost_ret (v := .tuple #[rv (redN (a1 * b1) (a2 * b2)) (redD (a1 * b1) (a2 * b2)), .int .i64 (redE (a1 * b1) (a2 * b2))]) (by simp [results, Try.results18, go_sem, s5, s6]) rfl ⟨rfl, (G.setCell (by simp; omega) _).setCell (by simp; omega) _⟩

theorem div_any (a1 a2 b1 b2 : Int) (w : World) :
    Calls Try.prog 20 #[rv a1 a2, rv b1 b2] w fun e w' => e = prO (vr a1 a2 && vr b1 b2) (b1 == 0) (a1 * b2) (a2 * b1) ∧ Grown w w' := by
  cases ha : vr a1 a2
  · have Ha := Lib.hid ha
    clear ha
    go_enter Try.func20, Try.ntmps20
    go_wp2_with fail
    refine (valid_any a1 a2 _).mono ?_
    rintro e w1 ⟨rfl, g1⟩
    rw [Ha.out]
    have S := Six.new g1
    have G := Gr.of3 g1
    clear g1
    obtain ⟨s1, s2, s3, s4, s5, s6, s7, s8, s9⟩ := S
    go_wp2_with fail
    exact bodyPost_ret (v := .tuple #[rv 0 0, .int .i64 2]) (by simp [results, Try.results20, go_sem, s5, s6]) rfl ⟨rfl, (G.setCell (by simp; omega) _).setCell (by simp; omega) _⟩
  · obtain ⟨x1, x2, x3, x4, _⟩ := vr_true ha
    have Ha := Lib.hid ha
    clear ha
    cases hb : vr b1 b2
    · have Hb := Lib.hid hb
      clear hb
      go_enter Try.func20, Try.ntmps20
      go_wp2_with fail
      refine (valid_any a1 a2 _).mono ?_
      rintro e w1 ⟨rfl, g1⟩
      rw [Ha.out]
      have S := Six.new g1
      have G := Gr.of3 g1
      clear g1
      obtain ⟨s1, s2, s3, s4, s5, s6, s7, s8, s9⟩ := id S
      go_wp2_with fail
      refine (valid_any b1 b2 _).mono ?_
      rintro e w2 ⟨rfl, g2⟩
      rw [Hb.out]
      clear s1 s2 s3 s4 s5 s6 s7 s8 s9
      have S2 := S.old g2
      have G2 := Gr.trans G g2
      clear G g2 S
      have G := G2
      clear G2
      obtain ⟨s1, s2, s3, s4, s5, s6, s7, s8, s9⟩ := S2
      go_wp2_with fail
      exact bodyPost_ret (v := .tuple #[rv 0 0, .int .i64 2]) (by simp [results, Try.results20, go_sem, s5, s6]) rfl ⟨rfl, (G.setCell (by simp; omega) _).setCell (by simp; omega) _⟩
    · obtain ⟨y1, y2, y3, y4, _⟩ := vr_true hb
      have Hb := Lib.hid hb
      clear hb
      by_cases hz : b1 = 0
      · subst hz
        go_enter Try.func20, Try.ntmps20
        go_wp2_with fail
        refine (valid_any a1 a2 _).mono ?_
        rintro e w1 ⟨rfl, g1⟩
        rw [Ha.out]
        have S := Six.new g1
        have G := Gr.of3 g1
        clear g1
        obtain ⟨s1, s2, s3, s4, s5, s6, s7, s8, s9⟩ := id S
        go_wp2_with fail
        refine (valid_any 0 b2 _).mono ?_
        rintro e w2 ⟨rfl, g2⟩
        rw [Hb.out]
        clear s1 s2 s3 s4 s5 s6 s7 s8 s9
        have S2 := S.old g2
        have G2 := Gr.trans G g2
        clear G g2 S
        obtain ⟨s1, s2, s3, s4, s5, s6, s7, s8, s9⟩ := id S2
        go_wp2_with fail
        have G := G2
        clear G2
        exact bodyPost_ret (v := .tuple #[rv 0 0, .int .i64 9]) (by simp [results, Try.results20, go_sem, s5, s6]) rfl ⟨rfl, (G.setCell (by simp; omega) _).setCell (by simp; omega) _⟩
      · have Hz : ((b1 : Int) == 0) = false := by simpa using hz
        rw [Hz]
        have hm : a2 * b1 ≠ 0 := by
          intro h
          rcases Int.mul_eq_zero.1 h with h | h
          · omega
          · exact hz h
        obtain ⟨u0, v0⟩ := nd_bd x3 x4 y1 y2
        obtain ⟨u1, v1⟩ := (Int.mul_comm b1 a2) ▸ nd_bd y3 y4 x1 x2
        go_enter Try.func20, Try.ntmps20
        go_wp2_with fail
        refine (valid_any a1 a2 _).mono ?_
        rintro e w1 ⟨rfl, g1⟩
        rw [Ha.out]
        have S := Six.new g1
        have G := Gr.of3 g1
        clear g1
        obtain ⟨s1, s2, s3, s4, s5, s6, s7, s8, s9⟩ := id S
        go_wp2_with fail
        refine (valid_any b1 b2 _).mono ?_
        rintro e w2 ⟨rfl, g2⟩
        rw [Hb.out]
        clear s1 s2 s3 s4 s5 s6 s7 s8 s9
        have S2 := S.old g2
        have G2 := Gr.trans G g2
        clear G g2 S
        obtain ⟨s1, s2, s3, s4, s5, s6, s7, s8, s9⟩ := id S2
        go_wp2_with fail
        refine (reduce_any (a1 * b2) (a2 * b1) (by omega) (by omega) (by omega) (by omega) (by omega) _).mono ?_
        rintro e w3 ⟨rfl, g3⟩
        clear s1 s2 s3 s4 s5 s6 s7 s8 s9
        have S3 := S2.old g3
        have G := Gr.trans G2 g3
        clear G2 g3 S2
        obtain ⟨s1, s2, s3, s4, s5, s6, s7, s8, s9⟩ := S3
        go_wp2_with fail
        exact bodyPost_ret (v := .tuple #[rv (redN (a1 * b2) (a2 * b1)) (redD (a1 * b2) (a2 * b1)), .int .i64 (redE (a1 * b2) (a2 * b1))]) (by simp [results, Try.results20, go_sem, s5, s6]) rfl ⟨rfl, (G.setCell (by simp; omega) _).setCell (by simp; omega) _⟩

theorem radd_any (a1 a2 b1 b2 : Int) (w : World) :
    Calls Try.prog 15 #[rv a1 a2, rv b1 b2] w fun e w' => e = prO (vr a1 a2 && vr b1 b2) false (a1 * b2 + b1 * a2) (a2 * b2) ∧ Grown w w' := by
  cases ha : vr a1 a2
  · have Ha := Lib.hid ha
    clear ha
    go_enter Try.func15, Try.ntmps15
    go_wp2_with fail
    refine (rvalid_any a1 a2 _).mono ?_
    rintro e w1 ⟨rfl, g1⟩
    rw [Ha.out]
    have S := Six.new g1
    have G := Gr.of3 g1
    clear g1
    obtain ⟨s1, s2, s3, s4, s5, s6, s7, s8, s9⟩ := S
    go_wp2_with fail
    exact bodyPost_ret (v := .tuple #[rv 0 0, .int .i64 2]) (by simp [results, Try.results15, go_sem, s5, s6]) rfl ⟨rfl, (G.setCell (by simp; omega) _).setCell (by simp; omega) _⟩
  · obtain ⟨x1, x2, x3, x4, _⟩ := vr_true ha
    have Ha := Lib.hid ha
    clear ha
    cases hb : vr b1 b2
    · have Hb := Lib.hid hb
      clear hb
      go_enter Try.func15, Try.ntmps15
      go_wp2_with fail
      refine (rvalid_any a1 a2 _).mono ?_
      rintro e w1 ⟨rfl, g1⟩
      rw [Ha.out]
      have S := Six.new g1
      have G := Gr.of3 g1
      clear g1
      obtain ⟨s1, s2, s3, s4, s5, s6, s7, s8, s9⟩ := id S
      go_wp2_with fail
      refine (rvalid_any b1 b2 _).mono ?_
      rintro e w2 ⟨rfl, g2⟩
      rw [Hb.out]
      clear s1 s2 s3 s4 s5 s6 s7 s8 s9
      have S2 := S.old g2
      have G2 := Gr.trans G g2
      clear G g2 S
      have G := G2
      clear G2
      obtain ⟨s1, s2, s3, s4, s5, s6, s7, s8, s9⟩ := S2
      go_wp2_with fail
      exact bodyPost_ret (v := .tuple #[rv 0 0, .int .i64 2]) (by simp [results, Try.results15, go_sem, s5, s6]) rfl ⟨rfl, (G.setCell (by simp; omega) _).setCell (by simp; omega) _⟩
    · obtain ⟨y1, y2, y3, y4, _⟩ := vr_true hb
      have Hb := Lib.hid hb
      clear hb
      obtain ⟨u0, v0⟩ := nd_bd x3 x4 y1 y2
      obtain ⟨u1, v1⟩ := nd_bd y3 y4 x1 x2
      obtain ⟨u2, v2⟩ := dd_bd x1 x2 y1 y2
      go_enter Try.func15, Try.ntmps15
      go_wp2_with fail
      refine (rvalid_any a1 a2 _).mono ?_
      rintro e w1 ⟨rfl, g1⟩
      rw [Ha.out]
      have S := Six.new g1
      have G := Gr.of3 g1
      clear g1
      obtain ⟨s1, s2, s3, s4, s5, s6, s7, s8, s9⟩ := id S
      go_wp2_with fail
      refine (rvalid_any b1 b2 _).mono ?_
      rintro e w2 ⟨rfl, g2⟩
      rw [Hb.out]
      clear s1 s2 s3 s4 s5 s6 s7 s8 s9
      have S2 := S.old g2
      have G2 := Gr.trans G g2
      clear G g2 S
      obtain ⟨s1, s2, s3, s4, s5, s6, s7, s8, s9⟩ := id S2
      go_wp2_with fail
      refine (rreduced_any (a1 * b2 + b1 * a2) (a2 * b2) (by omega) (by omega) (by omega) (by omega) (by omega) _).mono ?_
      rintro e w3 ⟨rfl, g3⟩
      clear s1 s2 s3 s4 s5 s6 s7 s8 s9
      have S3 := S2.old g3
      have G := Gr.trans G2 g3
      clear G2 g3 S2
      obtain ⟨s1, s2, s3, s4, s5, s6, s7, s8, s9⟩ := S3
      go_wp2_with fail
      exact bodyPost_ret (v := .tuple #[rv (redN (a1 * b2 + b1 * a2) (a2 * b2)) (redD (a1 * b2 + b1 * a2) (a2 * b2)), .int .i64 (redE (a1 * b2 + b1 * a2) (a2 * b2))]) (by simp [results, Try.results15, go_sem, s5, s6]) rfl ⟨rfl, (G.setCell (by simp; omega) _).setCell (by simp; omega) _⟩

theorem rsub_any (a1 a2 b1 b2 : Int) (w : World) :
    Calls Try.prog 17 #[rv a1 a2, rv b1 b2] w fun e w' => e = prO (vr a1 a2 && vr b1 b2) false (a1 * b2 - b1 * a2) (a2 * b2) ∧ Grown w w' := by
  cases ha : vr a1 a2
  · have Ha := Lib.hid ha
    clear ha
    go_enter Try.func17, Try.ntmps17
    go_wp2_with fail
    refine (rvalid_any a1 a2 _).mono ?_
    rintro e w1 ⟨rfl, g1⟩
    rw [Ha.out]
    have S := Six.new g1
    have G := Gr.of3 g1
    clear g1
    obtain ⟨s1, s2, s3, s4, s5, s6, s7, s8, s9⟩ := S
    go_wp2_with fail
    exact bodyPost_ret (v := .tuple #[rv 0 0, .int .i64 2]) (by simp [results, Try.results17, go_sem, s5, s6]) rfl ⟨rfl, (G.setCell (by simp; omega) _).setCell (by simp; omega) _⟩
  · obtain ⟨x1, x2, x3, x4, _⟩ := vr_true ha
    have Ha := Lib.hid ha
    clear ha
    cases hb : vr b1 b2
    · have Hb := Lib.hid hb
      clear hb
      go_enter Try.func17, Try.ntmps17
      go_wp2_with fail
      refine (rvalid_any a1 a2 _).mono ?_
      rintro e w1 ⟨rfl, g1⟩
      rw [Ha.out]
      have S := Six.new g1
      have G := Gr.of3 g1
      clear g1
      obtain ⟨s1, s2, s3, s4, s5, s6, s7, s8, s9⟩ := id S
      go_wp2_with fail
      refine (rvalid_any b1 b2 _).mono ?_
      rintro e w2 ⟨rfl, g2⟩
      rw [Hb.out]
      clear s1 s2 s3 s4 s5 s6 s7 s8 s9
      have S2 := S.old g2
      have G2 := Gr.trans G g2
      clear G g2 S
      have G := G2
      clear G2
      obtain ⟨s1, s2, s3, s4, s5, s6, s7, s8, s9⟩ := S2
      go_wp2_with fail
      exact bodyPost_ret (v := .tuple #[rv 0 0, .int .i64 2]) (by simp [results, Try.results17, go_sem, s5, s6]) rfl ⟨rfl, (G.setCell (by simp; omega) _).setCell (by simp; omega) _⟩
    · obtain ⟨y1, y2, y3, y4, _⟩ := vr_true hb
      have Hb := Lib.hid hb
      clear hb
      obtain ⟨u0, v0⟩ := nd_bd x3 x4 y1 y2
      obtain ⟨u1, v1⟩ := nd_bd y3 y4 x1 x2
      obtain ⟨u2, v2⟩ := dd_bd x1 x2 y1 y2
      go_enter Try.func17, Try.ntmps17
      go_wp2_with fail
      refine (rvalid_any a1 a2 _).mono ?_
      rintro e w1 ⟨rfl, g1⟩
      rw [Ha.out]
      have S := Six.new g1
      have G := Gr.of3 g1
      clear g1
      obtain ⟨s1, s2, s3, s4, s5, s6, s7, s8, s9⟩ := id S
      go_wp2_with fail
      refine (rvalid_any b1 b2 _).mono ?_
      rintro e w2 ⟨rfl, g2⟩
      rw [Hb.out]
      clear s1 s2 s3 s4 s5 s6 s7 s8 s9
      have S2 := S.old g2
      have G2 := Gr.trans G g2
      clear G g2 S
      obtain ⟨s1, s2, s3, s4, s5, s6, s7, s8, s9⟩ := id S2
      go_wp2_with fail
      refine (rreduced_any (a1 * b2 - b1 * a2) (a2 * b2) (by omega) (by omega) (by omega) (by omega) (by omega) _).mono ?_
      rintro e w3 ⟨rfl, g3⟩
      clear s1 s2 s3 s4 s5 s6 s7 s8 s9
      have S3 := S2.old g3
      have G := Gr.trans G2 g3
      clear G2 g3 S2
      obtain ⟨s1, s2, s3, s4, s5, s6, s7, s8, s9⟩ := S3
      go_wp2_with fail
      exact bodyPost_ret (v := .tuple #[rv (redN (a1 * b2 - b1 * a2) (a2 * b2)) (redD (a1 * b2 - b1 * a2) (a2 * b2)), .int .i64 (redE (a1 * b2 - b1 * a2) (a2 * b2))]) (by simp [results, Try.results17, go_sem, s5, s6]) rfl ⟨rfl, (G.setCell (by simp; omega) _).setCell (by simp; omega) _⟩

theorem rmul_any (a1 a2 b1 b2 : Int) (w : World) :
    Calls Try.prog 19 #[rv a1 a2, rv b1 b2] w fun e w' => e = prO (vr a1 a2 && vr b1 b2) false (a1 * b1) (a2 * b2) ∧ Grown w w' := by
  cases ha : vr a1 a2
  · have Ha := Lib.hid ha
    clear ha
    go_enter Try.func19, Try.ntmps19
    go_wp2_with fail
    refine (rvalid_any a1 a2 _).mono ?_
    rintro e w1 ⟨rfl, g1⟩
    rw [Ha.out]
    have S := Six.new g1
    have G := Gr.of3 g1
    clear g1
    obtain ⟨s1, s2, s3, s4, s5, s6, s7, s8, s9⟩ := S
    go_wp2_with fail
    exact bodyPost_ret (v := .tuple #[rv 0 0, .int .i64 2]) (by simp [results, Try.results19, go_sem, s5, s6]) rfl ⟨rfl, (G.setCell (by simp; omega) _).setCell (by simp; omega) _⟩
  · obtain ⟨x1, x2, x3, x4, _⟩ := vr_true ha
    have Ha := Lib.hid ha
    clear ha
    cases hb : vr b1 b2
    · have Hb := Lib.hid hb
      clear hb
      go_enter Try.func19, Try.ntmps19
      go_wp2_with fail
      refine (rvalid_any a1 a2 _).mono ?_
      rintro e w1 ⟨rfl, g1⟩
      rw [Ha.out]
      have S := Six.new g1
      have G := Gr.of3 g1
      clear g1
      obtain ⟨s1, s2, s3, s4, s5, s6, s7, s8, s9⟩ := id S
      go_wp2_with fail
      refine (rvalid_any b1 b2 _).mono ?_
      rintro e w2 ⟨rfl, g2⟩
      rw [Hb.out]
      clear s1 s2 s3 s4 s5 s6 s7 s8 s9
      have S2 := S.old g2
      have G2 := Gr.trans G g2
      clear G g2 S
      have G := G2
      clear G2
      obtain ⟨s1, s2, s3, s4, s5, s6, s7, s8, s9⟩ := S2
      go_wp2_with fail
      exact bodyPost_ret (v := .tuple #[rv 0 0, .int .i64 2]) (by simp [results, Try.results19, go_sem, s5, s6]) rfl ⟨rfl, (G.setCell (by simp; omega) _).setCell (by simp; omega) _⟩
    · obtain ⟨y1, y2, y3, y4, _⟩ := vr_true hb
      have Hb := Lib.hid hb
      clear hb
      obtain ⟨u0, v0⟩ := nn_bd x3 x4 y3 y4
      obtain ⟨u1, v1⟩ := dd_bd x1 x2 y1 y2
      go_enter Try.func19, Try.ntmps19
      go_wp2_with fail
      refine (rvalid_any a1 a2 _).mono ?_
      rintro e w1 ⟨rfl, g1⟩
      rw [Ha.out]
      have S := Six.new g1
      have G := Gr.of3 g1
      clear g1
      obtain ⟨s1, s2, s3, s4, s5, s6, s7, s8, s9⟩ := id S
      go_wp2_with fail
      refine (rvalid_any b1 b2 _).mono ?_
      rintro e w2 ⟨rfl, g2⟩
      rw [Hb.out]
      clear s1 s2 s3 s4 s5 s6 s7 s8 s9
      have S2 := S.old g2
      have G2 := Gr.trans G g2
      clear G g2 S
      obtain ⟨s1, s2, s3, s4, s5, s6, s7, s8, s9⟩ := id S2
      go_wp2_with fail
      refine (rreduced_any (a1 * b1) (a2 * b2) (by omega) (by omega) (by omega) (by omega) (by omega) _).mono ?_
      rintro e w3 ⟨rfl, g3⟩
      clear s1 s2 s3 s4 s5 s6 s7 s8 s9
      have S3 := S2.old g3
      have G := Gr.trans G2 g3
      clear G2 g3 S2
      obtain ⟨s1, s2, s3, s4, s5, s6, s7, s8, s9⟩ := S3
      go_wp2_with fail
      exact bodyPost_ret (v := .tuple #[rv (redN (a1 * b1) (a2 * b2)) (redD (a1 * b1) (a2 * b2)), .int .i64 (redE (a1 * b1) (a2 * b2))]) (by simp [results, Try.results19, go_sem, s5, s6]) rfl ⟨rfl, (G.setCell (by simp; omega) _).setCell (by simp; omega) _⟩

theorem rdiv_any (a1 a2 b1 b2 : Int) (w : World) :
    Calls Try.prog 21 #[rv a1 a2, rv b1 b2] w fun e w' => e = prO (vr a1 a2 && vr b1 b2) (b1 == 0) (a1 * b2) (a2 * b1) ∧ Grown w w' := by
  cases ha : vr a1 a2
  · have Ha := Lib.hid ha
    clear ha
    go_enter Try.func21, Try.ntmps21
    go_wp2_with fail
    refine (rvalid_any a1 a2 _).mono ?_
    rintro e w1 ⟨rfl, g1⟩
    rw [Ha.out]
    have S := Six.new g1
    have G := Gr.of3 g1
    clear g1
    obtain ⟨s1, s2, s3, s4, s5, s6, s7, s8, s9⟩ := S
    go_wp2_with fail
    exact bodyPost_ret (v := .tuple #[rv 0 0, .int .i64 2]) (by simp [results, Try.results21, go_sem, s5, s6]) rfl ⟨rfl, (G.setCell (by simp; omega) _).setCell (by simp; omega) _⟩
  · obtain ⟨x1, x2, x3, x4, _⟩ := vr_true ha
    have Ha := Lib.hid ha
    clear ha
    cases hb : vr b1 b2
    · have Hb := Lib.hid hb
      clear hb
      go_enter Try.func21, Try.ntmps21
      go_wp2_with fail
      refine (rvalid_any a1 a2 _).mono ?_
      rintro e w1 ⟨rfl, g1⟩
      rw [Ha.out]
      have S := Six.new g1
      have G := Gr.of3 g1
      clear g1
      obtain ⟨s1, s2, s3, s4, s5, s6, s7, s8, s9⟩ := id S
      go_wp2_with fail
      refine (rvalid_any b1 b2 _).mono ?_
      rintro e w2 ⟨rfl, g2⟩
      rw [Hb.out]
      clear s1 s2 s3 s4 s5 s6 s7 s8 s9
      have S2 := S.old g2
      have G2 := Gr.trans G g2
      clear G g2 S
      have G := G2
      clear G2
      obtain ⟨s1, s2, s3, s4, s5, s6, s7, s8, s9⟩ := S2
      go_wp2_with fail
      exact bodyPost_ret (v := .tuple #[rv 0 0, .int .i64 2]) (by simp [results, Try.results21, go_sem, s5, s6]) rfl ⟨rfl, (G.setCell (by simp; omega) _).setCell (by simp; omega) _⟩
    · obtain ⟨y1, y2, y3, y4, _⟩ := vr_true hb
      have Hb := Lib.hid hb
      clear hb
      by_cases hz : b1 = 0
      · subst hz
        go_enter Try.func21, Try.ntmps21
        go_wp2_with fail
        refine (rvalid_any a1 a2 _).mono ?_
        rintro e w1 ⟨rfl, g1⟩
        rw [Ha.out]
        have S := Six.new g1
        have G := Gr.of3 g1
        clear g1
        obtain ⟨s1, s2, s3, s4, s5, s6, s7, s8, s9⟩ := id S
        go_wp2_with fail
        refine (rvalid_any 0 b2 _).mono ?_
        rintro e w2 ⟨rfl, g2⟩
        rw [Hb.out]
        clear s1 s2 s3 s4 s5 s6 s7 s8 s9
        have S2 := S.old g2
        have G2 := Gr.trans G g2
        clear G g2 S
        obtain ⟨s1, s2, s3, s4, s5, s6, s7, s8, s9⟩ := id S2
        go_wp2_with fail
        have G := G2
        clear G2
        exact bodyPost_ret (v := .tuple #[rv 0 0, .int .i64 9]) (by simp [results, Try.results21, go_sem, s5, s6]) rfl ⟨rfl, (G.setCell (by simp; omega) _).setCell (by simp; omega) _⟩
      · have Hz : ((b1 : Int) == 0) = false := by simpa using hz
        rw [Hz]
        have hm : a2 * b1 ≠ 0 := by
          intro h
          rcases Int.mul_eq_zero.1 h with h | h
          · omega
          · exact hz h
        obtain ⟨u0, v0⟩ := nd_bd x3 x4 y1 y2
        obtain ⟨u1, v1⟩ := (Int.mul_comm b1 a2) ▸ nd_bd y3 y4 x1 x2
        go_enter Try.func21, Try.ntmps21
        go_wp2_with fail
        refine (rvalid_any a1 a2 _).mono ?_
        rintro e w1 ⟨rfl, g1⟩
        rw [Ha.out]
        have S := Six.new g1
        have G := Gr.of3 g1
        clear g1
        obtain ⟨s1, s2, s3, s4, s5, s6, s7, s8, s9⟩ := id S
        go_wp2_with fail
        refine (rvalid_any b1 b2 _).mono ?_
        rintro e w2 ⟨rfl, g2⟩
        rw [Hb.out]
        clear s1 s2 s3 s4 s5 s6 s7 s8 s9
        have S2 := S.old g2
        have G2 := Gr.trans G g2
        clear G g2 S
        obtain ⟨s1, s2, s3, s4, s5, s6, s7, s8, s9⟩ := id S2
        go_wp2_with fail
        refine (rreduced_any (a1 * b2) (a2 * b1) (by omega) (by omega) (by omega) (by omega) (by omega) _).mono ?_
        rintro e w3 ⟨rfl, g3⟩
        clear s1 s2 s3 s4 s5 s6 s7 s8 s9
        have S3 := S2.old g3
        have G := Gr.trans G2 g3
        clear G2 g3 S2
        obtain ⟨s1, s2, s3, s4, s5, s6, s7, s8, s9⟩ := S3
        go_wp2_with fail
        exact bodyPost_ret (v := .tuple #[rv (redN (a1 * b2) (a2 * b1)) (redD (a1 * b2) (a2 * b1)), .int .i64 (redE (a1 * b2) (a2 * b1))]) (by simp [results, Try.results21, go_sem, s5, s6]) rfl ⟨rfl, (G.setCell (by simp; omega) _).setCell (by simp; omega) _⟩

end Rat2
end Go.Proofs.Ytghcbicapcpmlaa
