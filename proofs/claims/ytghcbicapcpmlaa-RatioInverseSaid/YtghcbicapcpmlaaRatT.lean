/-
  The walk of the law on inverse operations and on rounding.
-/
import Derived.Test.YtghcbicapcpmlaaRatQ
namespace Go.Proofs.Ytghcbicapcpmlaa
open Go.RowKit
namespace Rat2

set_option maxRecDepth 100000 in
set_option maxHeartbeats 4000000 in
theorem inverse_core (a1 a2 b1 b2 S1 S2 SE P1 P2 PE LO HI : Int) (va vb : Bool)
    (hva : Hid (Says 11 #[rv a1 a2] (.returned (.bool va)))) (hvb : Hid (Says 11 #[rv b1 b2] (.returned (.bool vb))))
    (hS : Hid (Says 14 #[rv a1 a2, rv b1 b2] (pr S1 S2 SE))) (hM : Hid (Says 18 #[rv a1 a2, rv b1 b2] (pr P1 P2 PE)))
    (hB : Hid (SE = 0 → Says 16 #[rv S1 S2, rv b1 b2] (pr a1 a2 0))) (hD : Hid (PE = 0 → ¬ b1 = 0 → Says 20 #[rv P1 P2, rv b1 b2] (pr a1 a2 0)))
    (hF : Hid (Says 26 #[rv a1 a2] (.returned (.int .i64 LO)))) (hC : Hid (Says 28 #[rv a1 a2] (.returned (.int .i64 HI))))
    (hO : Hid (va = true → Says 22 #[rv a1 a2, .int .i64 1] (Num.pair LO 0)))
    (hR : Hid (va = true → (LO * a2 ≤ a1 ∧ a1 ≤ HI * a2) ∧ (-1000000000 ≤ LO ∧ LO ≤ 1000000000) ∧ (-1000000000 ≤ HI ∧ HI ≤ 1000000000) ∧ (HI - LO ≤ 1 ∧ ((HI == LO) == (a2 == 1)) = true) ∧ -1000000000000000 ≤ LO * a2 ∧ HI * a2 ≤ 1000000000000000 ∧ -1000000000 ≤ a1 ∧ a1 ≤ 1000000000))
    (hA : Hid (Says 13 #[] (.returned (.bool true)))) (w : World) :
    Calls Try.prog 8 #[rv a1 a2, rv b1 b2] w fun e w' => e = .returned (.bool true) ∧ Grown w w' := by
  cases va
  · clear hO hR
    go_enter Try.func8, Try.ntmps8
    go_wp2_with fail
    refine (hva.out _).mono ?_
    rintro e w1 ⟨rfl, g1⟩
    have G := Gr.one (Gr.one g1)
    clear g1
    go_wp2_with fail
    refine (hA.out _).mono ?_
    rintro e w2 ⟨rfl, g2⟩
    go_wp2_with fail
    go_ret
    exact ⟨rfl, Gr.trans G g2⟩
  have hO' := Lib.hid (hO.out rfl)
  have hR' := Lib.hid (hR.out rfl)
  clear hO hR
  go_enter Try.func8, Try.ntmps8
  go_wp2_with fail
  refine (hva.out _).mono ?_
  rintro e w1 ⟨rfl, g1⟩
  have B1 := Four.new g1
  clear g1
  obtain ⟨p1, p2, q1, q2, z1, G⟩ := id B1
  have z0 : w.heap.size < w1.heap.size := by omega
  go_wp2_with fail
  refine (hvb.out _).mono ?_
  rintro e w2 ⟨rfl, g2⟩
  clear p1 p2 q1 q2 z0 z1 G
  have B2 := B1.old g2
  clear g2 B1
  obtain ⟨p1, p2, q1, q2, z1, G⟩ := id B2
  have z0 : w.heap.size < w2.heap.size := by omega
  cases vb
  · go_wp2_with fail
    refine (hA.out _).mono ?_
    rintro e w3 ⟨rfl, g3⟩
    go_wp2_with fail
    go_ret
    exact ⟨rfl, Gr.trans G g3⟩
  go_wp2_with fail
  refine (hS.out _).mono ?_
  rintro e w3 ⟨rfl, g3⟩
  clear p1 p2 q1 q2 z0 z1 G
  have B3 := B2.old g3
  clear g3 B2
  go_upto_if 31 with (fail)
  go_cut [7, 8] (fun s7 s8 wx => s7 = s7 ∧ s8 = s8 ∧ Four w wx a1 a2 b1 b2)
  case first =>
    generalize hw4 : w3.alloc (.cells #[.int .i64 S1, .int .i64 S2] 23) = w4
    have g4 : Grown (w3.alloc (.cells #[.int .i64 S1, .int .i64 S2] 23)) w4 := Gr.eq hw4
    obtain ⟨d1, d2, d3⟩ := Two.new g4
    have B4 := B3.old (Gr.one g4)
    clear g4 hw4
    by_cases hse : SE = 0
    · have hsub := Lib.hid (hB.out hse)
      subst hse
      obtain ⟨p1, p2, q1, q2, z1, G⟩ := id B4
      have z0 : w.heap.size < w4.heap.size := by omega
      go_wp2_with fail
      refine (hsub.out _).mono ?_
      rintro e w5 ⟨rfl, g5⟩
      clear p1 p2 q1 q2 z0 z1 G
      have B5 := B4.old g5
      obtain ⟨p1, p2, q1, q2, z1, G⟩ := id B5
      have z0 : w.heap.size < w5.heap.size := by omega
      go_wp2_with fail
      go_meet
      exact ⟨trivial, trivial, B5.old ((Grown.refl _).alloc _ _)⟩
    · have e0 : (SE == 0) = false := by simpa using hse
      go_wp2_with fail
      go_meet
      exact ⟨trivial, trivial, B4⟩
  case rest =>
    obtain ⟨_, _, B4⟩ := hcut
    clear B3
    obtain ⟨p1, p2, q1, q2, z1, G⟩ := id B4
    go_wp2_with fail
    have z0 : w.heap.size < wc.heap.size := by omega
    refine (hM.out _).mono ?_
    rintro e w5 ⟨rfl, g5⟩
    clear p1 p2 q1 q2 z1 G z0
    have B5 := B4.old g5
    clear g5 B4
    go_upto_region 9 with (fail)
    obtain ⟨t, ht⟩ : ∃ t, ((PE == 0) && (b1 != 0)) = t := ⟨_, rfl⟩
    have Ht := Lib.hid ht
    clear ht
    go_cut [57] (fun s wx => s = .bool t ∧ wx.cell? ⟨w5.heap.size, 0, none⟩ = some (.int .i64 P1) ∧ wx.cell? ⟨w5.heap.size, 1, none⟩ = some (.int .i64 P2) ∧ w5.heap.size < wx.heap.size ∧ Four w wx a1 a2 b1 b2)
    case first =>
      generalize hw6 : w5.alloc (.cells #[.int .i64 P1, .int .i64 P2] 23) = w6
      have g6 : Grown (w5.alloc (.cells #[.int .i64 P1, .int .i64 P2] 23)) w6 := Gr.eq hw6
      obtain ⟨d1, d2, d3⟩ := Two.new g6
      have B6 := B5.old (Gr.one g6)
      clear g6 hw6
      obtain ⟨p1, p2, q1, q2, z1, G⟩ := id B6
      have z0 : w.heap.size < w6.heap.size := by omega
      by_cases hpe : PE = 0
      · subst hpe
        go_wp2_with fail
        go_meet
        exact ⟨congrArg Value.bool (by rw [← Ht.out]; simp), d1, d2, d3, B6⟩
      · have e0 : (PE == 0) = false := by simpa using hpe
        go_wp2_with fail
        go_meet
        exact ⟨congrArg Value.bool (by rw [← Ht.out]; simp [e0]), d1, d2, d3, B6⟩
    case rest =>
      obtain ⟨rfl, d1, d2, d3, B6⟩ := hcut
      clear B5
      go_upto_if 57 with (fail)
      go_cut [10, 11] (fun s7 s8 wx => s7 = s7 ∧ s8 = s8 ∧ Four w wx a1 a2 b1 b2)
      case first =>
        obtain ⟨p1, p2, q1, q2, z1, G⟩ := id B6
        have z0 : w.heap.size < wc.heap.size := by omega
        cases t
        · go_wp2_with fail
          go_meet
          exact ⟨trivial, trivial, B6⟩
        · have hpb : PE = 0 ∧ ¬ b1 = 0 := by simpa using Ht.out
          have hdiv := Lib.hid (hD.out hpb.1 hpb.2)
          clear hpb
          go_wp2_with fail
          refine (hdiv.out _).mono ?_
          rintro e w7 ⟨rfl, g7⟩
          clear p1 p2 q1 q2 z0 z1 G
          have B7 := B6.old g7
          obtain ⟨p1, p2, q1, q2, z1, G⟩ := id B7
          have z0 : w.heap.size < w7.heap.size := by omega
          go_wp2_with fail
          go_meet
          exact ⟨trivial, trivial, B7.old ((Grown.refl _).alloc _ _)⟩
      case rest =>
        obtain ⟨_, _, B7⟩ := hcut
        clear B6 d1 d2 d3
        obtain ⟨p1, p2, q1, q2, z1, G⟩ := id B7
        go_wp2_with fail
        refine (hF.out _).mono ?_
        rintro e w7 ⟨rfl, g7⟩
        clear p1 p2 q1 q2 z1 G
        have B8 := B7.old g7
        clear g7 B7
        obtain ⟨p1, p2, q1, q2, z1, G⟩ := id B8
        have z0 : w.heap.size < w7.heap.size := by omega
        go_wp2_with fail
        refine (hC.out _).mono ?_
        rintro e w8 ⟨rfl, g8⟩
        clear p1 p2 q1 q2 z0 z1 G
        have B9 := B8.old g8
        clear g8 B8
        obtain ⟨p1, p2, q1, q2, z1, G⟩ := id B9
        have z0 : w.heap.size < w8.heap.size := by omega
        go_wp2_with fail
        refine (hO'.out _).mono ?_
        rintro e w9 ⟨rfl, g9⟩
        unfold Num.pair
        clear p1 p2 q1 q2 z0 z1 G
        have B10 := B9.old g9
        clear g9 B9
        obtain ⟨p1, p2, q1, q2, z1, G⟩ := id B10
        have z0 : w.heap.size < w9.heap.size := by omega
        obtain ⟨⟨t1, t2⟩, ⟨t3, t4⟩, ⟨t5, t6⟩, ⟨t7, t8⟩, t9, t10, t11, t12⟩ := hR'.out
        go_wp2_with fail
        refine (hA.out _).mono ?_
        rintro e w10 ⟨rfl, g10⟩
        go_wp2_with fail
        go_ret
        exact ⟨rfl, Gr.trans G g10⟩
end Rat2
end Go.Proofs.Ytghcbicapcpmlaa
