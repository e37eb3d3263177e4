/-
  The walk of the law on the order of ratios.
-/
import Derived.Test.YtghcbicapcpmlaaRatO
import Derived.Deep.DeepCutAuto
namespace Go.Proofs.Ytghcbicapcpmlaa
open Go.RowKit
namespace Rat2

/-- Three boxed ratios, later on. -/
def Box3 (w W : World) (a1 a2 b1 b2 c1 c2 : Int) : Prop :=
  W.cell? ⟨w.heap.size, 0, none⟩ = some (.int .i64 a1) ∧ W.cell? ⟨w.heap.size, 1, none⟩ = some (.int .i64 a2) ∧
  W.cell? ⟨w.heap.size + 1, 0, none⟩ = some (.int .i64 b1) ∧ W.cell? ⟨w.heap.size + 1, 1, none⟩ = some (.int .i64 b2) ∧
  W.cell? ⟨w.heap.size + 2, 0, none⟩ = some (.int .i64 c1) ∧ W.cell? ⟨w.heap.size + 2, 1, none⟩ = some (.int .i64 c2) ∧ w.heap.size + 2 < W.heap.size ∧ w.heap.size + 1 < W.heap.size ∧ w.heap.size < W.heap.size ∧ Grown w W
theorem Box3.new {w W : World} {a1 a2 b1 b2 c1 c2 : Int} {s t u : TypeId}
    (h : Grown (((w.alloc (.cells #[.int .i64 a1, .int .i64 a2] s)).alloc (.cells #[.int .i64 b1, .int .i64 b2] t)).alloc (.cells #[.int .i64 c1, .int .i64 c2] u)) W) : Box3 w W a1 a2 b1 b2 c1 c2 := by
  have k3 := Two.new h
  have k2 := Two.new (Gr.one h)
  have k1 := Two.new (Gr.one (Gr.one h))
  rw [size_alloc, size_alloc] at k3
  rw [size_alloc] at k2
  exact ⟨k1.1, k1.2.1, k2.1, k2.2.1, k3.1, k3.2.1, k3.2.2, k2.2.2, k1.2.2, Gr.one (Gr.one (Gr.one h))⟩
theorem Box3.old {w W W' : World} {a1 a2 b1 b2 c1 c2 : Int} (h : Box3 w W a1 a2 b1 b2 c1 c2) (g : Grown W W') : Box3 w W' a1 a2 b1 b2 c1 c2 := by
  obtain ⟨h1, h2, h3, h4, h5, h6, h7, h8, h9, h10⟩ := h
  exact ⟨Gr.old g h9 h1, Gr.old g h9 h2, Gr.old g h8 h3, Gr.old g h8 h4, Gr.old g h7 h5, Gr.old g h7 h6, Nat.lt_of_lt_of_le h7 g.2.2, Nat.lt_of_lt_of_le h8 g.2.2, Nat.lt_of_lt_of_le h9 g.2.2, Gr.trans h10 g⟩

/-- Order is handed on, if the three are valid. -/
def LeIf (va vb vc : Bool) (AB BC AC : Int) : Prop := va = true → vb = true → vc = true → AB ≤ 0 → BC ≤ 0 → AC ≤ 0
theorem LeIf.use {AB BC AC : Int} (h : LeIf true true true AB BC AC) : AB ≤ 0 → BC ≤ 0 → AC ≤ 0 := h rfl rfl rfl
set_option maxRecDepth 100000 in
set_option maxHeartbeats 4000000 in
theorem orders_core (a1 a2 b1 b2 c1 c2 AB BC AC D1 D2 DE X1 X2 XE Y1 Y2 YE : Int) (va vb vc : Bool) (l1 : -1 ≤ AB) (l2 : AB ≤ 1)
    (hab : Hid (Says 24 #[rv a1 a2, rv b1 b2] (.returned (.int .i64 AB)))) (hba : Hid (Says 24 #[rv b1 b2, rv a1 a2] (.returned (.int .i64 (-AB)))))
    (hva : Hid (Says 11 #[rv a1 a2] (.returned (.bool va)))) (hvb : Hid (Says 11 #[rv b1 b2] (.returned (.bool vb)))) (hvc : Hid (Says 11 #[rv c1 c2] (.returned (.bool vc))))
    (hbc : Hid (Says 24 #[rv b1 b2, rv c1 c2] (.returned (.int .i64 BC)))) (hac : Hid (Says 24 #[rv a1 a2, rv c1 c2] (.returned (.int .i64 AC)))) (hle : LeIf va vb vc AB BC AC)
    (hS : Hid (Says 16 #[rv a1 a2, rv b1 b2] (pr D1 D2 DE))) (hD : Hid (DE = 0 → Says 24 #[rv D1 D2, rv 0 1] (.returned (.int .i64 AB))))
    (hX : Hid (Says 14 #[rv a1 a2, rv c1 c2] (pr X1 X2 XE))) (hY : Hid (Says 14 #[rv b1 b2, rv c1 c2] (pr Y1 Y2 YE)))
    (hXY : Hid (XE = 0 → YE = 0 → Says 24 #[rv X1 X2, rv Y1 Y2] (.returned (.int .i64 AB))))
    (hA : Hid (Says 13 #[] (.returned (.bool true))))
    (hz : (va && vb) = false → AB = 0) (he : (va && vb) = true → (AB = 0 ↔ (a1 = b1 ∧ a2 = b2))) (w : World) :
    Calls Try.prog 7 #[rv a1 a2, rv b1 b2, rv c1 c2] w fun e w' => e = .returned (.bool true) ∧ Grown w w' := by
  go_enter Try.func7, Try.ntmps7
  go_wp2_with fail
  refine (hab.out _).mono ?_
  rintro e w1 ⟨rfl, g1⟩
  have B1 := Box3.new g1
  clear g1
  obtain ⟨p1, p2, q1, q2, r1, r2, z1, z2, z3, G⟩ := id B1
  go_wp2_with fail
  refine (hva.out _).mono ?_
  rintro e w2 ⟨rfl, g2⟩
  clear p1 p2 q1 q2 r1 r2 z1 z2 z3 G
  have B2 := B1.old g2
  clear g2 B1
  cases va
  · obtain rfl := hz rfl
    clear he hz
    obtain ⟨p1, p2, q1, q2, r1, r2, z1, z2, z3, G⟩ := id B2
    go_wp2_with fail
    refine (hA.out _).mono ?_
    rintro e w3 ⟨rfl, g3⟩
    go_wp2_with fail
    go_ret
    exact ⟨rfl, Gr.trans G g3⟩
  obtain ⟨p1, p2, q1, q2, r1, r2, z1, z2, z3, G⟩ := id B2
  have hz' := Lib.hid hz
  have he' := Lib.hid he
  clear hz he
  go_wp2_with fail
  refine (hvb.out _).mono ?_
  rintro e w3 ⟨rfl, g3⟩
  clear p1 p2 q1 q2 r1 r2 z1 z2 z3 G
  have B3 := B2.old g3
  clear g3 B2
  cases vb
  · obtain rfl := hz'.out rfl
    clear he' hz'
    obtain ⟨p1, p2, q1, q2, r1, r2, z1, z2, z3, G⟩ := id B3
    go_wp2_with fail
    refine (hA.out _).mono ?_
    rintro e w4 ⟨rfl, g4⟩
    go_wp2_with fail
    go_ret
    exact ⟨rfl, Gr.trans G g4⟩
  have HE := he'.out rfl
  clear he' hz'
  have He := Lib.hid HE
  clear HE
  obtain ⟨p1, p2, q1, q2, r1, r2, z1, z2, z3, G⟩ := id B3
  go_upto_region 4 with (fail)
  go_cut [42] (fun s wx => s = .bool false ∧ Box3 w wx a1 a2 b1 b2 c1 c2)
  case first =>
    go_wp2_with fail
    refine (hba.out _).mono ?_
    rintro e w4 ⟨rfl, g4⟩
    clear p1 p2 q1 q2 r1 r2 z1 z2 z3 G
    have B4 := B3.old g4
    clear g4 B3
    obtain ⟨p1, p2, q1, q2, r1, r2, z1, z2, z3, G⟩ := id B4
    by_cases h1 : a1 = b1
    · subst h1
      by_cases h2 : a2 = b2
      · subst h2
        obtain rfl := He.out.2 ⟨rfl, rfl⟩
        clear He
        go_wp2_with fail
        go_meet
        exact ⟨rfl, B4⟩
      · have hn : (AB == 0) = false := by simpa using fun e => h2 (He.out.1 e).2
        have e2 : (a2 == b2) = false := by simpa using h2
        clear He
        go_wp2_with fail
        go_meet
        exact ⟨rfl, B4⟩
    · have hn : (AB == 0) = false := by simpa using fun e => h1 (He.out.1 e).1
      have e1 : (a1 == b1) = false := by simpa using h1
      clear He
      go_wp2_with fail
      go_meet
      exact ⟨rfl, B4⟩
  case rest =>
    obtain ⟨rfl, B4⟩ := hcut
    obtain ⟨p1, p2, q1, q2, r1, r2, z1, z2, z3, G⟩ := id B4
    go_wp2_with fail
    refine (hS.out _).mono ?_
    rintro e w5 ⟨rfl, g5⟩
    clear p1 p2 q1 q2 r1 r2 z1 z2 z3 G
    have B5 := B4.old g5
    clear g5 B4
    go_upto_region 7 with (fail)
    go_cut [57] (fun s wx => s = .bool false ∧ Box3 w wx a1 a2 b1 b2 c1 c2)
    case first =>
      generalize hw6 : w5.alloc (.cells #[.int .i64 D1, .int .i64 D2] 23) = w6
      have g6 : Grown (w5.alloc (.cells #[.int .i64 D1, .int .i64 D2] 23)) w6 := Gr.eq hw6
      obtain ⟨d1, d2, d3⟩ := Two.new g6
      have B6 := B5.old (Gr.one g6)
      clear g6 hw6
      by_cases hde : DE = 0
      · have hcmp := Lib.hid (hD.out hde)
        subst hde
        go_wp2_with fail
        refine (hcmp.out _).mono ?_
        rintro e w7 ⟨rfl, g7⟩
        go_wp2_with fail
        go_meet
        exact ⟨rfl, B6.old g7⟩
      · have e0 : (DE == 0) = false := by simpa using hde
        go_wp2_with fail
        go_meet
        exact ⟨rfl, B6⟩
    case rest =>
      clear B5
      obtain ⟨rfl, B5⟩ := hcut
      obtain ⟨p1, p2, q1, q2, r1, r2, z1, z2, z3, G⟩ := id B5
      go_wp2_with fail
      refine (hvc.out _).mono ?_
      rintro e w6 ⟨rfl, g6⟩
      clear p1 p2 q1 q2 r1 r2 z1 z2 z3 G
      have B6 := B5.old g6
      clear g6 B5
      cases vc
      · obtain ⟨p1, p2, q1, q2, r1, r2, z1, z2, z3, G⟩ := id B6
        go_wp2_with fail
        refine (hA.out _).mono ?_
        rintro e w7 ⟨rfl, g7⟩
        go_wp2_with fail
        go_ret
        exact ⟨rfl, Gr.trans G g7⟩
      have hl := Lib.hid hle.use
      clear hle
      obtain ⟨p1, p2, q1, q2, r1, r2, z1, z2, z3, G⟩ := id B6
      go_upto_region 11 with (fail)
      go_cut [75] (fun s wx => s = .bool false ∧ Box3 w wx a1 a2 b1 b2 c1 c2)
      case first =>
        by_cases h1 : AB ≤ 0
        · go_wp2_with fail
          refine (hbc.out _).mono ?_
          rintro e w7 ⟨rfl, g7⟩
          clear p1 p2 q1 q2 r1 r2 z1 z2 z3 G
          have B7 := B6.old g7
          clear g7 B6
          obtain ⟨p1, p2, q1, q2, r1, r2, z1, z2, z3, G⟩ := id B7
          by_cases h2 : BC ≤ 0
          · have h3 := hl.out h1 h2
            go_wp2_with fail
            refine (hac.out _).mono ?_
            rintro e w8 ⟨rfl, g8⟩
            clear p1 p2 q1 q2 r1 r2 z1 z2 z3 G
            go_wp2_with fail
            go_meet
            exact ⟨congrArg Value.bool (decide_eq_false (by omega)), B7.old g8⟩
          · have h2' : 0 < BC := by omega
            clear h2
            go_wp2_with fail
            go_meet
            exact ⟨rfl, B7⟩
        · have h1' : 0 < AB := by omega
          clear h1
          go_wp2_with fail
          go_meet
          exact ⟨rfl, B6⟩
      case rest =>
        clear B6 p1 p2 q1 q2 r1 r2 z1 z2 z3 G
        obtain ⟨rfl, B6⟩ := hcut
        obtain ⟨p1, p2, q1, q2, r1, r2, z1, z2, z3, G⟩ := id B6
        go_wp2_with fail
        refine (hX.out _).mono ?_
        rintro e w7 ⟨rfl, g7⟩
        clear p1 p2 q1 q2 r1 r2 z1 z2 z3 G
        have B7 := B6.old g7
        clear g7 B6
        obtain ⟨p1, p2, q1, q2, r1, r2, z1, z2, z3, G⟩ := id B7
        go_wp2_with fail
        refine (hY.out _).mono ?_
        rintro e w8 ⟨rfl, g8⟩
        clear p1 p2 q1 q2 r1 r2 z1 z2 z3 G
        have X8 := Two.new g8
        have G8 := (B7.old (Gr.one g8)).2.2.2.2.2.2.2.2.2
        clear g8 B7
        obtain ⟨x1, x2, x3⟩ := id X8
        by_cases hx : XE = 0
        · by_cases hy : YE = 0
          · have hcmp := Lib.hid (hXY.out hx hy)
            subst hx hy
            go_wp2_with fail
            refine (hcmp.out _).mono ?_
            rintro e w9 ⟨rfl, g9⟩
            have G9 := Gr.trans G8 (Gr.one g9)
            clear g9 x1 x2 x3 X8 G8
            go_wp2_with fail
            refine (hA.out _).mono ?_
            rintro e w10 ⟨rfl, g10⟩
            go_wp2_with fail
            go_ret
            exact ⟨rfl, Gr.trans G9 g10⟩
          · have e0 : (YE != 0) = true := by simpa using hy
            subst hx
            go_wp2_with fail
            refine (hA.out _).mono ?_
            rintro e w10 ⟨rfl, g10⟩
            go_wp2_with fail
            go_ret
            exact ⟨rfl, Gr.trans G8 (Gr.one g10)⟩
        · have e0 : (XE != 0) = true := by simpa using hx
          go_wp2_with fail
          refine (hA.out _).mono ?_
          rintro e w10 ⟨rfl, g10⟩
          go_wp2_with fail
          go_ret
          exact ⟨rfl, Gr.trans G8 (Gr.one g10)⟩
end Rat2
end Go.Proofs.Ytghcbicapcpmlaa
