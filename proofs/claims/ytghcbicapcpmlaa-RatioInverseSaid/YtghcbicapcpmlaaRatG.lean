/-
  The contract of the reference's Of.
-/
import Derived.Test.YtghcbicapcpmlaaRatF
namespace Go.Proofs.Ytghcbicapcpmlaa
open Go.RowKit
namespace Rat2

/-- The parts of a product of amounts: what the whole multiples and the rest make. -/
theorem parts {A B d : Int} (hd : 0 < d) : A * (B / d) + A * (B % d) / d = A * B / d ∧ A * (B % d) % d = A * B % d := by
  have e : A * B = A * (B % d) + d * (A * (B / d)) := by
    have h := Int.mul_ediv_add_emod B d
    calc A * B = A * (d * (B / d) + B % d) := by rw [h]
      _ = A * (B % d) + d * (A * (B / d)) := by rw [Int.mul_add, Int.mul_left_comm, Int.add_comm]
  constructor
  · rw [e, Int.add_mul_ediv_left _ _ (by omega), Int.add_comm]
  · rw [e, Int.add_mul_emod_self_left]
def amtI (n A : Int) : Prop := Still Try.prog 40 #[.int .i64 n] (.int .i64 A)

set_option maxHeartbeats 2000000 in
theorem rof_np (n d k A B W m R : Int) (ha : vr n d = true) (hb : Num.vld k = true) (hn : n < 0) (hk : 0 < k)
    (a1 : 0 ≤ A) (a2 : A ≤ 1000000000) (b1 : 0 ≤ B) (b2 : B ≤ 1000000000000) (hp : n * k = -(A * B))
    (HA : Hid (amtI n A)) (HB : Hid (amtI k B)) (hW : Hid (W = B / d)) (hm : Hid (m = B % d)) (hR : Hid (R = A * m)) (w : World) : Ofs 23 n d k w := by
  obtain ⟨x1, x2, x3, x4, _⟩ := vr_true ha
  have y1 := Num.vld_true hb
  obtain ⟨y1, y2⟩ := y1
  have e0 : ((d : Int) == 0) = false := by simp; omega
  have hw0 : 0 ≤ W := by rw [hW.out]; exact Int.ediv_nonneg b1 (by omega)
  have hw1 : W ≤ 1000000000000 := by rw [hW.out]; exact Int.le_trans (Int.ediv_le_self _ b1) b2
  have hm0 : 0 ≤ m := by rw [hm.out]; exact Int.emod_nonneg _ (by omega)
  have hm1 : m < d := by rw [hm.out]; exact Int.emod_lt_of_pos _ (by omega)
  have hr0 : 0 ≤ R := by rw [hR.out]; exact Int.mul_nonneg a1 hm0
  have hr1 : R ≤ 1000000000000000 := by
    rw [hR.out]
    have p1 : A * m ≤ 1000000000 * m := Int.mul_le_mul_of_nonneg_right a2 hm0
    omega
  have hrd0 : 0 ≤ R / d := Int.ediv_nonneg hr0 (by omega)
  have hrd1 : R / d ≤ 1000000000000000 := Int.le_trans (Int.ediv_le_self _ hr0) hr1
  have hrm0 : 0 ≤ R % d := Int.emod_nonneg _ (by omega)
  have P := parts (A := A) (B := B) (d := d) (by omega)
  rw [← hW.out, ← hm.out, ← hR.out] at P
  obtain ⟨P1, P2⟩ := P
  have E1 := Lib.hid (show IntKind.i64.wrap (B.tdiv d) = W by rw [Int.tdiv_eq_ediv_of_nonneg b1, ← hW.out]; exact IntWalk.i64_in _ (by omega))
  have E2 := Lib.hid (show IntKind.i64.wrap (B.tmod d) = m by rw [Int.tmod_eq_emod_of_nonneg b1, ← hm.out]; exact IntWalk.i64_in _ (by omega))
  have E4 := Lib.hid (show B % d = m from hm.out.symm)
  have E3 := Lib.hid (show IntKind.i64.wrap (A * m) = R by rw [← hR.out]; exact IntWalk.i64_in _ (by omega))
  have hF : n * k / d = if R % d = 0 then -(A * W + R / d) else -(A * W + R / d) - 1 := by
    rw [hp, P1, P2]
    exact neg_ediv_pos (by omega)
  have hS0 : 0 ≤ A * W := Int.mul_nonneg a1 hw0
  have Ha := Lib.hid ha
  have Hb := Lib.hid hb
  clear hW hm hR hp P1 P2
  by_cases hO : 0 < W ∧ 1000000000000 / W < A
  · obtain ⟨hO1, hO2⟩ := hO
    have hov : 1000000000000 < A * W := (Int.ediv_lt_iff_lt_mul hO1).1 hO2
    have HR := Lib.hid (of_over (d := d) ha hb (by rw [hF]; split <;> omega))
    clear ha hb hF
    have ew : ((W : Int) == 0) = false := by simp; omega
    go_enter Try.func23, Try.ntmps23
    go_wp2_with fail
    refine (rvalid_any n d _).mono ?_
    rintro e w1 ⟨rfl, g1⟩
    rw [Ha.out]
    obtain ⟨s1, s2, s3, s4, s5⟩ := Gr.new2 g1
    have G := Gr.trans ((Grown.refl _).alloc _ _) g1
    clear g1
    go_wp2_with fail
    refine (Num.rvalid_any k _).mono ?_
    rintro e w2 ⟨rfl, rfl⟩
    rw [Hb.out]
    go_wp2_with fail
    refine (HA.out _).mono ?_
    rintro e w2 ⟨rfl, rfl⟩
    go_wp2_with fail
    have e1 := E1.out
    have e2 := E2.out
    have e3 := E3.out
    have e4 := E4.out
    go_quiet ((go_at_call 40; exact HB.out.first _ _))
    go_wp2_with fail
    go_quiet ((go_at_call 40; exact HB.out.later _ _ _))
    clear e1 e2 e3 e4
    go_wp2_with fail
    go_ret2
    exact ⟨by rw [HR.out.1, HR.out.2]; rfl, G⟩
  · have hS1 : A * W ≤ 1000000000000 := by
      by_cases h : 0 < W
      · have : A ≤ 1000000000000 / W := by omega
        exact Int.mul_le_of_le_ediv h this
      · have : W = 0 := by omega
        rw [this]
        omega
    have hT : (0 < W ∧ A ≤ 1000000000000 / W) ∨ W ≤ 0 := by omega
    clear hO
    by_cases hr : R % d = 0
    · rw [if_pos hr] at hF
      have hr' : R % d ≤ 0 := by omega
      clear hr
      by_cases hv : 1000000000000 < A * W + R / d
      · have HR := Lib.hid (of_over (d := d) ha hb (by omega))
        clear ha hb hF
        rcases hT with ⟨t1, t2⟩ | t1
        · have ew : ((W : Int) == 0) = false := by simp; omega
          go_enter Try.func23, Try.ntmps23
          go_wp2_with fail
          refine (rvalid_any n d _).mono ?_
          rintro e w1 ⟨rfl, g1⟩
          rw [Ha.out]
          obtain ⟨s1, s2, s3, s4, s5⟩ := Gr.new2 g1
          have G := Gr.trans ((Grown.refl _).alloc _ _) g1
          clear g1
          go_wp2_with fail
          refine (Num.rvalid_any k _).mono ?_
          rintro e w2 ⟨rfl, rfl⟩
          rw [Hb.out]
          go_wp2_with fail
          refine (HA.out _).mono ?_
          rintro e w2 ⟨rfl, rfl⟩
          go_wp2_with fail
          have e1 := E1.out
          have e2 := E2.out
          have e3 := E3.out
          have e4 := E4.out
          go_quiet ((go_at_call 40; exact HB.out.first _ _))
          go_wp2_with fail
          go_quiet ((go_at_call 40; exact HB.out.later _ _ _))
          clear e1 e2 e3 e4
          go_wp2_with fail
          go_ret2
          exact ⟨by rw [HR.out.1, HR.out.2]; rfl, G⟩
        · skip
          go_enter Try.func23, Try.ntmps23
          go_wp2_with fail
          refine (rvalid_any n d _).mono ?_
          rintro e w1 ⟨rfl, g1⟩
          rw [Ha.out]
          obtain ⟨s1, s2, s3, s4, s5⟩ := Gr.new2 g1
          have G := Gr.trans ((Grown.refl _).alloc _ _) g1
          clear g1
          go_wp2_with fail
          refine (Num.rvalid_any k _).mono ?_
          rintro e w2 ⟨rfl, rfl⟩
          rw [Hb.out]
          go_wp2_with fail
          refine (HA.out _).mono ?_
          rintro e w2 ⟨rfl, rfl⟩
          go_wp2_with fail
          have e1 := E1.out
          have e2 := E2.out
          have e3 := E3.out
          have e4 := E4.out
          go_quiet ((go_at_call 40; exact HB.out.first _ _))
          go_wp2_with fail
          go_quiet ((go_at_call 40; exact HB.out.later _ _ _))
          clear e1 e2 e3 e4
          go_wp2_with fail
          go_ret2
          exact ⟨by rw [HR.out.1, HR.out.2]; rfl, G⟩
      · have HR := Lib.hid (of_ok (d := d) ha hb hF (by omega))
        clear ha hb hF
        rcases hT with ⟨t1, t2⟩ | t1
        · have ew : ((W : Int) == 0) = false := by simp; omega
          go_enter Try.func23, Try.ntmps23
          go_wp2_with fail
          refine (rvalid_any n d _).mono ?_
          rintro e w1 ⟨rfl, g1⟩
          rw [Ha.out]
          obtain ⟨s1, s2, s3, s4, s5⟩ := Gr.new2 g1
          have G := Gr.trans ((Grown.refl _).alloc _ _) g1
          clear g1
          go_wp2_with fail
          refine (Num.rvalid_any k _).mono ?_
          rintro e w2 ⟨rfl, rfl⟩
          rw [Hb.out]
          go_wp2_with fail
          refine (HA.out _).mono ?_
          rintro e w2 ⟨rfl, rfl⟩
          go_wp2_with fail
          have e1 := E1.out
          have e2 := E2.out
          have e3 := E3.out
          have e4 := E4.out
          go_quiet ((go_at_call 40; exact HB.out.first _ _))
          go_wp2_with fail
          go_quiet ((go_at_call 40; exact HB.out.later _ _ _))
          clear e1 e2 e3 e4
          go_wp2_with fail
          go_ret2
          exact ⟨by rw [HR.out.1, HR.out.2]; rfl, G⟩
        · skip
          go_enter Try.func23, Try.ntmps23
          go_wp2_with fail
          refine (rvalid_any n d _).mono ?_
          rintro e w1 ⟨rfl, g1⟩
          rw [Ha.out]
          obtain ⟨s1, s2, s3, s4, s5⟩ := Gr.new2 g1
          have G := Gr.trans ((Grown.refl _).alloc _ _) g1
          clear g1
          go_wp2_with fail
          refine (Num.rvalid_any k _).mono ?_
          rintro e w2 ⟨rfl, rfl⟩
          rw [Hb.out]
          go_wp2_with fail
          refine (HA.out _).mono ?_
          rintro e w2 ⟨rfl, rfl⟩
          go_wp2_with fail
          have e1 := E1.out
          have e2 := E2.out
          have e3 := E3.out
          have e4 := E4.out
          go_quiet ((go_at_call 40; exact HB.out.first _ _))
          go_wp2_with fail
          go_quiet ((go_at_call 40; exact HB.out.later _ _ _))
          clear e1 e2 e3 e4
          go_wp2_with fail
          go_ret2
          exact ⟨by rw [HR.out.1, HR.out.2]; rfl, G⟩
    · rw [if_neg hr] at hF
      have hr' : 0 < R % d := by omega
      clear hr
      have hF2 : n * k / d = -(A * W + R / d + 1) := by omega
      clear hF
      by_cases hv : 1000000000000 < A * W + R / d + 1
      · have HR := Lib.hid (of_over (d := d) ha hb (by omega))
        clear ha hb hF2
        rcases hT with ⟨t1, t2⟩ | t1
        · have ew : ((W : Int) == 0) = false := by simp; omega
          go_enter Try.func23, Try.ntmps23
          go_wp2_with fail
          refine (rvalid_any n d _).mono ?_
          rintro e w1 ⟨rfl, g1⟩
          rw [Ha.out]
          obtain ⟨s1, s2, s3, s4, s5⟩ := Gr.new2 g1
          have G := Gr.trans ((Grown.refl _).alloc _ _) g1
          clear g1
          go_wp2_with fail
          refine (Num.rvalid_any k _).mono ?_
          rintro e w2 ⟨rfl, rfl⟩
          rw [Hb.out]
          go_wp2_with fail
          refine (HA.out _).mono ?_
          rintro e w2 ⟨rfl, rfl⟩
          go_wp2_with fail
          have e1 := E1.out
          have e2 := E2.out
          have e3 := E3.out
          have e4 := E4.out
          go_quiet ((go_at_call 40; exact HB.out.first _ _))
          go_wp2_with fail
          go_quiet ((go_at_call 40; exact HB.out.later _ _ _))
          clear e1 e2 e3 e4
          go_wp2_with fail
          go_ret2
          exact ⟨by rw [HR.out.1, HR.out.2]; rfl, G⟩
        · skip
          go_enter Try.func23, Try.ntmps23
          go_wp2_with fail
          refine (rvalid_any n d _).mono ?_
          rintro e w1 ⟨rfl, g1⟩
          rw [Ha.out]
          obtain ⟨s1, s2, s3, s4, s5⟩ := Gr.new2 g1
          have G := Gr.trans ((Grown.refl _).alloc _ _) g1
          clear g1
          go_wp2_with fail
          refine (Num.rvalid_any k _).mono ?_
          rintro e w2 ⟨rfl, rfl⟩
          rw [Hb.out]
          go_wp2_with fail
          refine (HA.out _).mono ?_
          rintro e w2 ⟨rfl, rfl⟩
          go_wp2_with fail
          have e1 := E1.out
          have e2 := E2.out
          have e3 := E3.out
          have e4 := E4.out
          go_quiet ((go_at_call 40; exact HB.out.first _ _))
          go_wp2_with fail
          go_quiet ((go_at_call 40; exact HB.out.later _ _ _))
          clear e1 e2 e3 e4
          go_wp2_with fail
          go_ret2
          exact ⟨by rw [HR.out.1, HR.out.2]; rfl, G⟩
      · have HR := Lib.hid (of_ok (d := d) ha hb hF2 (by omega))
        clear ha hb hF2
        rcases hT with ⟨t1, t2⟩ | t1
        · have ew : ((W : Int) == 0) = false := by simp; omega
          go_enter Try.func23, Try.ntmps23
          go_wp2_with fail
          refine (rvalid_any n d _).mono ?_
          rintro e w1 ⟨rfl, g1⟩
          rw [Ha.out]
          obtain ⟨s1, s2, s3, s4, s5⟩ := Gr.new2 g1
          have G := Gr.trans ((Grown.refl _).alloc _ _) g1
          clear g1
          go_wp2_with fail
          refine (Num.rvalid_any k _).mono ?_
          rintro e w2 ⟨rfl, rfl⟩
          rw [Hb.out]
          go_wp2_with fail
          refine (HA.out _).mono ?_
          rintro e w2 ⟨rfl, rfl⟩
          go_wp2_with fail
          have e1 := E1.out
          have e2 := E2.out
          have e3 := E3.out
          have e4 := E4.out
          go_quiet ((go_at_call 40; exact HB.out.first _ _))
          go_wp2_with fail
          go_quiet ((go_at_call 40; exact HB.out.later _ _ _))
          clear e1 e2 e3 e4
          go_wp2_with fail
          go_ret2
          exact ⟨by rw [HR.out.1, HR.out.2]; rfl, G⟩
        · skip
          go_enter Try.func23, Try.ntmps23
          go_wp2_with fail
          refine (rvalid_any n d _).mono ?_
          rintro e w1 ⟨rfl, g1⟩
          rw [Ha.out]
          obtain ⟨s1, s2, s3, s4, s5⟩ := Gr.new2 g1
          have G := Gr.trans ((Grown.refl _).alloc _ _) g1
          clear g1
          go_wp2_with fail
          refine (Num.rvalid_any k _).mono ?_
          rintro e w2 ⟨rfl, rfl⟩
          rw [Hb.out]
          go_wp2_with fail
          refine (HA.out _).mono ?_
          rintro e w2 ⟨rfl, rfl⟩
          go_wp2_with fail
          have e1 := E1.out
          have e2 := E2.out
          have e3 := E3.out
          have e4 := E4.out
          go_quiet ((go_at_call 40; exact HB.out.first _ _))
          go_wp2_with fail
          go_quiet ((go_at_call 40; exact HB.out.later _ _ _))
          clear e1 e2 e3 e4
          go_wp2_with fail
          go_ret2
          exact ⟨by rw [HR.out.1, HR.out.2]; rfl, G⟩

set_option maxHeartbeats 2000000 in
theorem rof_pn (n d k A B W m R : Int) (ha : vr n d = true) (hb : Num.vld k = true) (hn : 0 < n) (hk : k < 0)
    (a1 : 0 ≤ A) (a2 : A ≤ 1000000000) (b1 : 0 ≤ B) (b2 : B ≤ 1000000000000) (hp : n * k = -(A * B))
    (HA : Hid (amtI n A)) (HB : Hid (amtI k B)) (hW : Hid (W = B / d)) (hm : Hid (m = B % d)) (hR : Hid (R = A * m)) (w : World) : Ofs 23 n d k w := by
  obtain ⟨x1, x2, x3, x4, _⟩ := vr_true ha
  have y1 := Num.vld_true hb
  obtain ⟨y1, y2⟩ := y1
  have e0 : ((d : Int) == 0) = false := by simp; omega
  have hw0 : 0 ≤ W := by rw [hW.out]; exact Int.ediv_nonneg b1 (by omega)
  have hw1 : W ≤ 1000000000000 := by rw [hW.out]; exact Int.le_trans (Int.ediv_le_self _ b1) b2
  have hm0 : 0 ≤ m := by rw [hm.out]; exact Int.emod_nonneg _ (by omega)
  have hm1 : m < d := by rw [hm.out]; exact Int.emod_lt_of_pos _ (by omega)
  have hr0 : 0 ≤ R := by rw [hR.out]; exact Int.mul_nonneg a1 hm0
  have hr1 : R ≤ 1000000000000000 := by
    rw [hR.out]
    have p1 : A * m ≤ 1000000000 * m := Int.mul_le_mul_of_nonneg_right a2 hm0
    omega
  have hrd0 : 0 ≤ R / d := Int.ediv_nonneg hr0 (by omega)
  have hrd1 : R / d ≤ 1000000000000000 := Int.le_trans (Int.ediv_le_self _ hr0) hr1
  have hrm0 : 0 ≤ R % d := Int.emod_nonneg _ (by omega)
  have P := parts (A := A) (B := B) (d := d) (by omega)
  rw [← hW.out, ← hm.out, ← hR.out] at P
  obtain ⟨P1, P2⟩ := P
  have E1 := Lib.hid (show IntKind.i64.wrap (B.tdiv d) = W by rw [Int.tdiv_eq_ediv_of_nonneg b1, ← hW.out]; exact IntWalk.i64_in _ (by omega))
  have E2 := Lib.hid (show IntKind.i64.wrap (B.tmod d) = m by rw [Int.tmod_eq_emod_of_nonneg b1, ← hm.out]; exact IntWalk.i64_in _ (by omega))
  have E4 := Lib.hid (show B % d = m from hm.out.symm)
  have E3 := Lib.hid (show IntKind.i64.wrap (A * m) = R by rw [← hR.out]; exact IntWalk.i64_in _ (by omega))
  have hF : n * k / d = if R % d = 0 then -(A * W + R / d) else -(A * W + R / d) - 1 := by
    rw [hp, P1, P2]
    exact neg_ediv_pos (by omega)
  have hS0 : 0 ≤ A * W := Int.mul_nonneg a1 hw0
  have Ha := Lib.hid ha
  have Hb := Lib.hid hb
  clear hW hm hR hp P1 P2
  by_cases hO : 0 < W ∧ 1000000000000 / W < A
  · obtain ⟨hO1, hO2⟩ := hO
    have hov : 1000000000000 < A * W := (Int.ediv_lt_iff_lt_mul hO1).1 hO2
    have HR := Lib.hid (of_over (d := d) ha hb (by rw [hF]; split <;> omega))
    clear ha hb hF
    have ew : ((W : Int) == 0) = false := by simp; omega
    go_enter Try.func23, Try.ntmps23
    go_wp2_with fail
    refine (rvalid_any n d _).mono ?_
    rintro e w1 ⟨rfl, g1⟩
    rw [Ha.out]
    obtain ⟨s1, s2, s3, s4, s5⟩ := Gr.new2 g1
    have G := Gr.trans ((Grown.refl _).alloc _ _) g1
    clear g1
    go_wp2_with fail
    refine (Num.rvalid_any k _).mono ?_
    rintro e w2 ⟨rfl, rfl⟩
    rw [Hb.out]
    go_wp2_with fail
    refine (HA.out _).mono ?_
    rintro e w2 ⟨rfl, rfl⟩
    go_wp2_with fail
    have e1 := E1.out
    have e2 := E2.out
    have e3 := E3.out
    have e4 := E4.out
    go_quiet ((go_at_call 40; exact HB.out.first _ _))
    go_wp2_with fail
    go_quiet ((go_at_call 40; exact HB.out.later _ _ _))
    clear e1 e2 e3 e4
    go_wp2_with fail
    go_ret2
    exact ⟨by rw [HR.out.1, HR.out.2]; rfl, G⟩
  · have hS1 : A * W ≤ 1000000000000 := by
      by_cases h : 0 < W
      · have : A ≤ 1000000000000 / W := by omega
        exact Int.mul_le_of_le_ediv h this
      · have : W = 0 := by omega
        rw [this]
        omega
    have hT : (0 < W ∧ A ≤ 1000000000000 / W) ∨ W ≤ 0 := by omega
    clear hO
    by_cases hr : R % d = 0
    · rw [if_pos hr] at hF
      have hr' : R % d ≤ 0 := by omega
      clear hr
      by_cases hv : 1000000000000 < A * W + R / d
      · have HR := Lib.hid (of_over (d := d) ha hb (by omega))
        clear ha hb hF
        rcases hT with ⟨t1, t2⟩ | t1
        · have ew : ((W : Int) == 0) = false := by simp; omega
          go_enter Try.func23, Try.ntmps23
          go_wp2_with fail
          refine (rvalid_any n d _).mono ?_
          rintro e w1 ⟨rfl, g1⟩
          rw [Ha.out]
          obtain ⟨s1, s2, s3, s4, s5⟩ := Gr.new2 g1
          have G := Gr.trans ((Grown.refl _).alloc _ _) g1
          clear g1
          go_wp2_with fail
          refine (Num.rvalid_any k _).mono ?_
          rintro e w2 ⟨rfl, rfl⟩
          rw [Hb.out]
          go_wp2_with fail
          refine (HA.out _).mono ?_
          rintro e w2 ⟨rfl, rfl⟩
          go_wp2_with fail
          have e1 := E1.out
          have e2 := E2.out
          have e3 := E3.out
          have e4 := E4.out
          go_quiet ((go_at_call 40; exact HB.out.first _ _))
          go_wp2_with fail
          go_quiet ((go_at_call 40; exact HB.out.later _ _ _))
          clear e1 e2 e3 e4
          go_wp2_with fail
          go_ret2
          exact ⟨by rw [HR.out.1, HR.out.2]; rfl, G⟩
        · skip
          go_enter Try.func23, Try.ntmps23
          go_wp2_with fail
          refine (rvalid_any n d _).mono ?_
          rintro e w1 ⟨rfl, g1⟩
          rw [Ha.out]
          obtain ⟨s1, s2, s3, s4, s5⟩ := Gr.new2 g1
          have G := Gr.trans ((Grown.refl _).alloc _ _) g1
          clear g1
          go_wp2_with fail
          refine (Num.rvalid_any k _).mono ?_
          rintro e w2 ⟨rfl, rfl⟩
          rw [Hb.out]
          go_wp2_with fail
          refine (HA.out _).mono ?_
          rintro e w2 ⟨rfl, rfl⟩
          go_wp2_with fail
          have e1 := E1.out
          have e2 := E2.out
          have e3 := E3.out
          have e4 := E4.out
          go_quiet ((go_at_call 40; exact HB.out.first _ _))
          go_wp2_with fail
          go_quiet ((go_at_call 40; exact HB.out.later _ _ _))
          clear e1 e2 e3 e4
          go_wp2_with fail
          go_ret2
          exact ⟨by rw [HR.out.1, HR.out.2]; rfl, G⟩
      · have HR := Lib.hid (of_ok (d := d) ha hb hF (by omega))
        clear ha hb hF
        rcases hT with ⟨t1, t2⟩ | t1
        · have ew : ((W : Int) == 0) = false := by simp; omega
          go_enter Try.func23, Try.ntmps23
          go_wp2_with fail
          refine (rvalid_any n d _).mono ?_
          rintro e w1 ⟨rfl, g1⟩
          rw [Ha.out]
          obtain ⟨s1, s2, s3, s4, s5⟩ := Gr.new2 g1
          have G := Gr.trans ((Grown.refl _).alloc _ _) g1
          clear g1
          go_wp2_with fail
          refine (Num.rvalid_any k _).mono ?_
          rintro e w2 ⟨rfl, rfl⟩
          rw [Hb.out]
          go_wp2_with fail
          refine (HA.out _).mono ?_
          rintro e w2 ⟨rfl, rfl⟩
          go_wp2_with fail
          have e1 := E1.out
          have e2 := E2.out
          have e3 := E3.out
          have e4 := E4.out
          go_quiet ((go_at_call 40; exact HB.out.first _ _))
          go_wp2_with fail
          go_quiet ((go_at_call 40; exact HB.out.later _ _ _))
          clear e1 e2 e3 e4
          go_wp2_with fail
          go_ret2
          exact ⟨by rw [HR.out.1, HR.out.2]; rfl, G⟩
        · skip
          go_enter Try.func23, Try.ntmps23
          go_wp2_with fail
          refine (rvalid_any n d _).mono ?_
          rintro e w1 ⟨rfl, g1⟩
          rw [Ha.out]
          obtain ⟨s1, s2, s3, s4, s5⟩ := Gr.new2 g1
          have G := Gr.trans ((Grown.refl _).alloc _ _) g1
          clear g1
          go_wp2_with fail
          refine (Num.rvalid_any k _).mono ?_
          rintro e w2 ⟨rfl, rfl⟩
          rw [Hb.out]
          go_wp2_with fail
          refine (HA.out _).mono ?_
          rintro e w2 ⟨rfl, rfl⟩
          go_wp2_with fail
          have e1 := E1.out
          have e2 := E2.out
          have e3 := E3.out
          have e4 := E4.out
          go_quiet ((go_at_call 40; exact HB.out.first _ _))
          go_wp2_with fail
          go_quiet ((go_at_call 40; exact HB.out.later _ _ _))
          clear e1 e2 e3 e4
          go_wp2_with fail
          go_ret2
          exact ⟨by rw [HR.out.1, HR.out.2]; rfl, G⟩
    · rw [if_neg hr] at hF
      have hr' : 0 < R % d := by omega
      clear hr
      have hF2 : n * k / d = -(A * W + R / d + 1) := by omega
      clear hF
      by_cases hv : 1000000000000 < A * W + R / d + 1
      · have HR := Lib.hid (of_over (d := d) ha hb (by omega))
        clear ha hb hF2
        rcases hT with ⟨t1, t2⟩ | t1
        · have ew : ((W : Int) == 0) = false := by simp; omega
          go_enter Try.func23, Try.ntmps23
          go_wp2_with fail
          refine (rvalid_any n d _).mono ?_
          rintro e w1 ⟨rfl, g1⟩
          rw [Ha.out]
          obtain ⟨s1, s2, s3, s4, s5⟩ := Gr.new2 g1
          have G := Gr.trans ((Grown.refl _).alloc _ _) g1
          clear g1
          go_wp2_with fail
          refine (Num.rvalid_any k _).mono ?_
          rintro e w2 ⟨rfl, rfl⟩
          rw [Hb.out]
          go_wp2_with fail
          refine (HA.out _).mono ?_
          rintro e w2 ⟨rfl, rfl⟩
          go_wp2_with fail
          have e1 := E1.out
          have e2 := E2.out
          have e3 := E3.out
          have e4 := E4.out
          go_quiet ((go_at_call 40; exact HB.out.first _ _))
          go_wp2_with fail
          go_quiet ((go_at_call 40; exact HB.out.later _ _ _))
          clear e1 e2 e3 e4
          go_wp2_with fail
          go_ret2
          exact ⟨by rw [HR.out.1, HR.out.2]; rfl, G⟩
        · skip
          go_enter Try.func23, Try.ntmps23
          go_wp2_with fail
          refine (rvalid_any n d _).mono ?_
          rintro e w1 ⟨rfl, g1⟩
          rw [Ha.out]
          obtain ⟨s1, s2, s3, s4, s5⟩ := Gr.new2 g1
          have G := Gr.trans ((Grown.refl _).alloc _ _) g1
          clear g1
          go_wp2_with fail
          refine (Num.rvalid_any k _).mono ?_
          rintro e w2 ⟨rfl, rfl⟩
          rw [Hb.out]
          go_wp2_with fail
          refine (HA.out _).mono ?_
          rintro e w2 ⟨rfl, rfl⟩
          go_wp2_with fail
          have e1 := E1.out
          have e2 := E2.out
          have e3 := E3.out
          have e4 := E4.out
          go_quiet ((go_at_call 40; exact HB.out.first _ _))
          go_wp2_with fail
          go_quiet ((go_at_call 40; exact HB.out.later _ _ _))
          clear e1 e2 e3 e4
          go_wp2_with fail
          go_ret2
          exact ⟨by rw [HR.out.1, HR.out.2]; rfl, G⟩
      · have HR := Lib.hid (of_ok (d := d) ha hb hF2 (by omega))
        clear ha hb hF2
        rcases hT with ⟨t1, t2⟩ | t1
        · have ew : ((W : Int) == 0) = false := by simp; omega
          go_enter Try.func23, Try.ntmps23
          go_wp2_with fail
          refine (rvalid_any n d _).mono ?_
          rintro e w1 ⟨rfl, g1⟩
          rw [Ha.out]
          obtain ⟨s1, s2, s3, s4, s5⟩ := Gr.new2 g1
          have G := Gr.trans ((Grown.refl _).alloc _ _) g1
          clear g1
          go_wp2_with fail
          refine (Num.rvalid_any k _).mono ?_
          rintro e w2 ⟨rfl, rfl⟩
          rw [Hb.out]
          go_wp2_with fail
          refine (HA.out _).mono ?_
          rintro e w2 ⟨rfl, rfl⟩
          go_wp2_with fail
          have e1 := E1.out
          have e2 := E2.out
          have e3 := E3.out
          have e4 := E4.out
          go_quiet ((go_at_call 40; exact HB.out.first _ _))
          go_wp2_with fail
          go_quiet ((go_at_call 40; exact HB.out.later _ _ _))
          clear e1 e2 e3 e4
          go_wp2_with fail
          go_ret2
          exact ⟨by rw [HR.out.1, HR.out.2]; rfl, G⟩
        · skip
          go_enter Try.func23, Try.ntmps23
          go_wp2_with fail
          refine (rvalid_any n d _).mono ?_
          rintro e w1 ⟨rfl, g1⟩
          rw [Ha.out]
          obtain ⟨s1, s2, s3, s4, s5⟩ := Gr.new2 g1
          have G := Gr.trans ((Grown.refl _).alloc _ _) g1
          clear g1
          go_wp2_with fail
          refine (Num.rvalid_any k _).mono ?_
          rintro e w2 ⟨rfl, rfl⟩
          rw [Hb.out]
          go_wp2_with fail
          refine (HA.out _).mono ?_
          rintro e w2 ⟨rfl, rfl⟩
          go_wp2_with fail
          have e1 := E1.out
          have e2 := E2.out
          have e3 := E3.out
          have e4 := E4.out
          go_quiet ((go_at_call 40; exact HB.out.first _ _))
          go_wp2_with fail
          go_quiet ((go_at_call 40; exact HB.out.later _ _ _))
          clear e1 e2 e3 e4
          go_wp2_with fail
          go_ret2
          exact ⟨by rw [HR.out.1, HR.out.2]; rfl, G⟩

set_option maxHeartbeats 2000000 in
theorem rof_nn (n d k A B W m R : Int) (ha : vr n d = true) (hb : Num.vld k = true) (hn : n < 0) (hk : k ≤ 0)
    (a1 : 0 ≤ A) (a2 : A ≤ 1000000000) (b1 : 0 ≤ B) (b2 : B ≤ 1000000000000) (hp : n * k = A * B)
    (HA : Hid (amtI n A)) (HB : Hid (amtI k B)) (hW : Hid (W = B / d)) (hm : Hid (m = B % d)) (hR : Hid (R = A * m)) (w : World) : Ofs 23 n d k w := by
  obtain ⟨x1, x2, x3, x4, _⟩ := vr_true ha
  have y1 := Num.vld_true hb
  obtain ⟨y1, y2⟩ := y1
  have e0 : ((d : Int) == 0) = false := by simp; omega
  have hw0 : 0 ≤ W := by rw [hW.out]; exact Int.ediv_nonneg b1 (by omega)
  have hw1 : W ≤ 1000000000000 := by rw [hW.out]; exact Int.le_trans (Int.ediv_le_self _ b1) b2
  have hm0 : 0 ≤ m := by rw [hm.out]; exact Int.emod_nonneg _ (by omega)
  have hm1 : m < d := by rw [hm.out]; exact Int.emod_lt_of_pos _ (by omega)
  have hr0 : 0 ≤ R := by rw [hR.out]; exact Int.mul_nonneg a1 hm0
  have hr1 : R ≤ 1000000000000000 := by
    rw [hR.out]
    have p1 : A * m ≤ 1000000000 * m := Int.mul_le_mul_of_nonneg_right a2 hm0
    omega
  have hrd0 : 0 ≤ R / d := Int.ediv_nonneg hr0 (by omega)
  have hrd1 : R / d ≤ 1000000000000000 := Int.le_trans (Int.ediv_le_self _ hr0) hr1
  have hrm0 : 0 ≤ R % d := Int.emod_nonneg _ (by omega)
  have P := parts (A := A) (B := B) (d := d) (by omega)
  rw [← hW.out, ← hm.out, ← hR.out] at P
  obtain ⟨P1, P2⟩ := P
  have E1 := Lib.hid (show IntKind.i64.wrap (B.tdiv d) = W by rw [Int.tdiv_eq_ediv_of_nonneg b1, ← hW.out]; exact IntWalk.i64_in _ (by omega))
  have E2 := Lib.hid (show IntKind.i64.wrap (B.tmod d) = m by rw [Int.tmod_eq_emod_of_nonneg b1, ← hm.out]; exact IntWalk.i64_in _ (by omega))
  have E4 := Lib.hid (show B % d = m from hm.out.symm)
  have E3 := Lib.hid (show IntKind.i64.wrap (A * m) = R by rw [← hR.out]; exact IntWalk.i64_in _ (by omega))
  have hF : n * k / d = A * W + R / d := by
    rw [hp, P1]
    
  have hS0 : 0 ≤ A * W := Int.mul_nonneg a1 hw0
  have Ha := Lib.hid ha
  have Hb := Lib.hid hb
  clear hW hm hR hp P1 P2
  by_cases hO : 0 < W ∧ 1000000000000 / W < A
  · obtain ⟨hO1, hO2⟩ := hO
    have hov : 1000000000000 < A * W := (Int.ediv_lt_iff_lt_mul hO1).1 hO2
    have HR := Lib.hid (of_over (d := d) ha hb (by omega))
    clear ha hb hF
    have ew : ((W : Int) == 0) = false := by simp; omega
    go_enter Try.func23, Try.ntmps23
    go_wp2_with fail
    refine (rvalid_any n d _).mono ?_
    rintro e w1 ⟨rfl, g1⟩
    rw [Ha.out]
    obtain ⟨s1, s2, s3, s4, s5⟩ := Gr.new2 g1
    have G := Gr.trans ((Grown.refl _).alloc _ _) g1
    clear g1
    go_wp2_with fail
    refine (Num.rvalid_any k _).mono ?_
    rintro e w2 ⟨rfl, rfl⟩
    rw [Hb.out]
    go_wp2_with fail
    refine (HA.out _).mono ?_
    rintro e w2 ⟨rfl, rfl⟩
    go_wp2_with fail
    have e1 := E1.out
    have e2 := E2.out
    have e3 := E3.out
    have e4 := E4.out
    go_quiet ((go_at_call 40; exact HB.out.first _ _))
    go_wp2_with fail
    go_quiet ((go_at_call 40; exact HB.out.later _ _ _))
    clear e1 e2 e3 e4
    go_wp2_with fail
    go_ret2
    exact ⟨by rw [HR.out.1, HR.out.2]; rfl, G⟩
  · have hS1 : A * W ≤ 1000000000000 := by
      by_cases h : 0 < W
      · have : A ≤ 1000000000000 / W := by omega
        exact Int.mul_le_of_le_ediv h this
      · have : W = 0 := by omega
        rw [this]
        omega
    have hT : (0 < W ∧ A ≤ 1000000000000 / W) ∨ W ≤ 0 := by omega
    clear hO
    by_cases hv : 1000000000000 < A * W + R / d
    · have HR := Lib.hid (of_over (d := d) ha hb (by omega))
      clear ha hb hF
      rcases hT with ⟨t1, t2⟩ | t1
      · have ew : ((W : Int) == 0) = false := by simp; omega
        go_enter Try.func23, Try.ntmps23
        go_wp2_with fail
        refine (rvalid_any n d _).mono ?_
        rintro e w1 ⟨rfl, g1⟩
        rw [Ha.out]
        obtain ⟨s1, s2, s3, s4, s5⟩ := Gr.new2 g1
        have G := Gr.trans ((Grown.refl _).alloc _ _) g1
        clear g1
        go_wp2_with fail
        refine (Num.rvalid_any k _).mono ?_
        rintro e w2 ⟨rfl, rfl⟩
        rw [Hb.out]
        go_wp2_with fail
        refine (HA.out _).mono ?_
        rintro e w2 ⟨rfl, rfl⟩
        go_wp2_with fail
        have e1 := E1.out
        have e2 := E2.out
        have e3 := E3.out
        have e4 := E4.out
        go_quiet ((go_at_call 40; exact HB.out.first _ _))
        go_wp2_with fail
        go_quiet ((go_at_call 40; exact HB.out.later _ _ _))
        clear e1 e2 e3 e4
        go_wp2_with fail
        go_ret2
        exact ⟨by rw [HR.out.1, HR.out.2]; rfl, G⟩
      · skip
        go_enter Try.func23, Try.ntmps23
        go_wp2_with fail
        refine (rvalid_any n d _).mono ?_
        rintro e w1 ⟨rfl, g1⟩
        rw [Ha.out]
        obtain ⟨s1, s2, s3, s4, s5⟩ := Gr.new2 g1
        have G := Gr.trans ((Grown.refl _).alloc _ _) g1
        clear g1
        go_wp2_with fail
        refine (Num.rvalid_any k _).mono ?_
        rintro e w2 ⟨rfl, rfl⟩
        rw [Hb.out]
        go_wp2_with fail
        refine (HA.out _).mono ?_
        rintro e w2 ⟨rfl, rfl⟩
        go_wp2_with fail
        have e1 := E1.out
        have e2 := E2.out
        have e3 := E3.out
        have e4 := E4.out
        go_quiet ((go_at_call 40; exact HB.out.first _ _))
        go_wp2_with fail
        go_quiet ((go_at_call 40; exact HB.out.later _ _ _))
        clear e1 e2 e3 e4
        go_wp2_with fail
        go_ret2
        exact ⟨by rw [HR.out.1, HR.out.2]; rfl, G⟩
    · have HR := Lib.hid (of_ok (d := d) ha hb hF (by omega))
      clear ha hb hF
      rcases hT with ⟨t1, t2⟩ | t1
      · have ew : ((W : Int) == 0) = false := by simp; omega
        go_enter Try.func23, Try.ntmps23
        go_wp2_with fail
        refine (rvalid_any n d _).mono ?_
        rintro e w1 ⟨rfl, g1⟩
        rw [Ha.out]
        obtain ⟨s1, s2, s3, s4, s5⟩ := Gr.new2 g1
        have G := Gr.trans ((Grown.refl _).alloc _ _) g1
        clear g1
        go_wp2_with fail
        refine (Num.rvalid_any k _).mono ?_
        rintro e w2 ⟨rfl, rfl⟩
        rw [Hb.out]
        go_wp2_with fail
        refine (HA.out _).mono ?_
        rintro e w2 ⟨rfl, rfl⟩
        go_wp2_with fail
        have e1 := E1.out
        have e2 := E2.out
        have e3 := E3.out
        have e4 := E4.out
        go_quiet ((go_at_call 40; exact HB.out.first _ _))
        go_wp2_with fail
        go_quiet ((go_at_call 40; exact HB.out.later _ _ _))
        clear e1 e2 e3 e4
        go_wp2_with fail
        go_ret2
        exact ⟨by rw [HR.out.1, HR.out.2]; rfl, G⟩
      · skip
        go_enter Try.func23, Try.ntmps23
        go_wp2_with fail
        refine (rvalid_any n d _).mono ?_
        rintro e w1 ⟨rfl, g1⟩
        rw [Ha.out]
        obtain ⟨s1, s2, s3, s4, s5⟩ := Gr.new2 g1
        have G := Gr.trans ((Grown.refl _).alloc _ _) g1
        clear g1
        go_wp2_with fail
        refine (Num.rvalid_any k _).mono ?_
        rintro e w2 ⟨rfl, rfl⟩
        rw [Hb.out]
        go_wp2_with fail
        refine (HA.out _).mono ?_
        rintro e w2 ⟨rfl, rfl⟩
        go_wp2_with fail
        have e1 := E1.out
        have e2 := E2.out
        have e3 := E3.out
        have e4 := E4.out
        go_quiet ((go_at_call 40; exact HB.out.first _ _))
        go_wp2_with fail
        go_quiet ((go_at_call 40; exact HB.out.later _ _ _))
        clear e1 e2 e3 e4
        go_wp2_with fail
        go_ret2
        exact ⟨by rw [HR.out.1, HR.out.2]; rfl, G⟩

set_option maxHeartbeats 2000000 in
theorem rof_pp (n d k A B W m R : Int) (ha : vr n d = true) (hb : Num.vld k = true) (hn : 0 < n) (hk : 0 ≤ k)
    (a1 : 0 ≤ A) (a2 : A ≤ 1000000000) (b1 : 0 ≤ B) (b2 : B ≤ 1000000000000) (hp : n * k = A * B)
    (HA : Hid (amtI n A)) (HB : Hid (amtI k B)) (hW : Hid (W = B / d)) (hm : Hid (m = B % d)) (hR : Hid (R = A * m)) (w : World) : Ofs 23 n d k w := by
  obtain ⟨x1, x2, x3, x4, _⟩ := vr_true ha
  have y1 := Num.vld_true hb
  obtain ⟨y1, y2⟩ := y1
  have e0 : ((d : Int) == 0) = false := by simp; omega
  have hw0 : 0 ≤ W := by rw [hW.out]; exact Int.ediv_nonneg b1 (by omega)
  have hw1 : W ≤ 1000000000000 := by rw [hW.out]; exact Int.le_trans (Int.ediv_le_self _ b1) b2
  have hm0 : 0 ≤ m := by rw [hm.out]; exact Int.emod_nonneg _ (by omega)
  have hm1 : m < d := by rw [hm.out]; exact Int.emod_lt_of_pos _ (by omega)
  have hr0 : 0 ≤ R := by rw [hR.out]; exact Int.mul_nonneg a1 hm0
  have hr1 : R ≤ 1000000000000000 := by
    rw [hR.out]
    have p1 : A * m ≤ 1000000000 * m := Int.mul_le_mul_of_nonneg_right a2 hm0
    omega
  have hrd0 : 0 ≤ R / d := Int.ediv_nonneg hr0 (by omega)
  have hrd1 : R / d ≤ 1000000000000000 := Int.le_trans (Int.ediv_le_self _ hr0) hr1
  have hrm0 : 0 ≤ R % d := Int.emod_nonneg _ (by omega)
  have P := parts (A := A) (B := B) (d := d) (by omega)
  rw [← hW.out, ← hm.out, ← hR.out] at P
  obtain ⟨P1, P2⟩ := P
  have E1 := Lib.hid (show IntKind.i64.wrap (B.tdiv d) = W by rw [Int.tdiv_eq_ediv_of_nonneg b1, ← hW.out]; exact IntWalk.i64_in _ (by omega))
  have E2 := Lib.hid (show IntKind.i64.wrap (B.tmod d) = m by rw [Int.tmod_eq_emod_of_nonneg b1, ← hm.out]; exact IntWalk.i64_in _ (by omega))
  have E4 := Lib.hid (show B % d = m from hm.out.symm)
  have E3 := Lib.hid (show IntKind.i64.wrap (A * m) = R by rw [← hR.out]; exact IntWalk.i64_in _ (by omega))
  have hF : n * k / d = A * W + R / d := by
    rw [hp, P1]
    
  have hS0 : 0 ≤ A * W := Int.mul_nonneg a1 hw0
  have Ha := Lib.hid ha
  have Hb := Lib.hid hb
  clear hW hm hR hp P1 P2
  by_cases hO : 0 < W ∧ 1000000000000 / W < A
  · obtain ⟨hO1, hO2⟩ := hO
    have hov : 1000000000000 < A * W := (Int.ediv_lt_iff_lt_mul hO1).1 hO2
    have HR := Lib.hid (of_over (d := d) ha hb (by omega))
    clear ha hb hF
    have ew : ((W : Int) == 0) = false := by simp; omega
    go_enter Try.func23, Try.ntmps23
    go_wp2_with fail
    refine (rvalid_any n d _).mono ?_
    rintro e w1 ⟨rfl, g1⟩
    rw [Ha.out]
    obtain ⟨s1, s2, s3, s4, s5⟩ := Gr.new2 g1
    have G := Gr.trans ((Grown.refl _).alloc _ _) g1
    clear g1
    go_wp2_with fail
    refine (Num.rvalid_any k _).mono ?_
    rintro e w2 ⟨rfl, rfl⟩
    rw [Hb.out]
    go_wp2_with fail
    refine (HA.out _).mono ?_
    rintro e w2 ⟨rfl, rfl⟩
    go_wp2_with fail
    have e1 := E1.out
    have e2 := E2.out
    have e3 := E3.out
    have e4 := E4.out
    go_quiet ((go_at_call 40; exact HB.out.first _ _))
    go_wp2_with fail
    go_quiet ((go_at_call 40; exact HB.out.later _ _ _))
    clear e1 e2 e3 e4
    go_wp2_with fail
    go_ret2
    exact ⟨by rw [HR.out.1, HR.out.2]; rfl, G⟩
  · have hS1 : A * W ≤ 1000000000000 := by
      by_cases h : 0 < W
      · have : A ≤ 1000000000000 / W := by omega
        exact Int.mul_le_of_le_ediv h this
      · have : W = 0 := by omega
        rw [this]
        omega
    have hT : (0 < W ∧ A ≤ 1000000000000 / W) ∨ W ≤ 0 := by omega
    clear hO
    by_cases hv : 1000000000000 < A * W + R / d
    · have HR := Lib.hid (of_over (d := d) ha hb (by omega))
      clear ha hb hF
      rcases hT with ⟨t1, t2⟩ | t1
      · have ew : ((W : Int) == 0) = false := by simp; omega
        go_enter Try.func23, Try.ntmps23
        go_wp2_with fail
        refine (rvalid_any n d _).mono ?_
        rintro e w1 ⟨rfl, g1⟩
        rw [Ha.out]
        obtain ⟨s1, s2, s3, s4, s5⟩ := Gr.new2 g1
        have G := Gr.trans ((Grown.refl _).alloc _ _) g1
        clear g1
        go_wp2_with fail
        refine (Num.rvalid_any k _).mono ?_
        rintro e w2 ⟨rfl, rfl⟩
        rw [Hb.out]
        go_wp2_with fail
        refine (HA.out _).mono ?_
        rintro e w2 ⟨rfl, rfl⟩
        go_wp2_with fail
        have e1 := E1.out
        have e2 := E2.out
        have e3 := E3.out
        have e4 := E4.out
        go_quiet ((go_at_call 40; exact HB.out.first _ _))
        go_wp2_with fail
        go_quiet ((go_at_call 40; exact HB.out.later _ _ _))
        clear e1 e2 e3 e4
        go_wp2_with fail
        go_ret2
        exact ⟨by rw [HR.out.1, HR.out.2]; rfl, G⟩
      · skip
        go_enter Try.func23, Try.ntmps23
        go_wp2_with fail
        refine (rvalid_any n d _).mono ?_
        rintro e w1 ⟨rfl, g1⟩
        rw [Ha.out]
        obtain ⟨s1, s2, s3, s4, s5⟩ := Gr.new2 g1
        have G := Gr.trans ((Grown.refl _).alloc _ _) g1
        clear g1
        go_wp2_with fail
        refine (Num.rvalid_any k _).mono ?_
        rintro e w2 ⟨rfl, rfl⟩
        rw [Hb.out]
        go_wp2_with fail
        refine (HA.out _).mono ?_
        rintro e w2 ⟨rfl, rfl⟩
        go_wp2_with fail
        have e1 := E1.out
        have e2 := E2.out
        have e3 := E3.out
        have e4 := E4.out
        go_quiet ((go_at_call 40; exact HB.out.first _ _))
        go_wp2_with fail
        go_quiet ((go_at_call 40; exact HB.out.later _ _ _))
        clear e1 e2 e3 e4
        go_wp2_with fail
        go_ret2
        exact ⟨by rw [HR.out.1, HR.out.2]; rfl, G⟩
    · have HR := Lib.hid (of_ok (d := d) ha hb hF (by omega))
      clear ha hb hF
      rcases hT with ⟨t1, t2⟩ | t1
      · have ew : ((W : Int) == 0) = false := by simp; omega
        go_enter Try.func23, Try.ntmps23
        go_wp2_with fail
        refine (rvalid_any n d _).mono ?_
        rintro e w1 ⟨rfl, g1⟩
        rw [Ha.out]
        obtain ⟨s1, s2, s3, s4, s5⟩ := Gr.new2 g1
        have G := Gr.trans ((Grown.refl _).alloc _ _) g1
        clear g1
        go_wp2_with fail
        refine (Num.rvalid_any k _).mono ?_
        rintro e w2 ⟨rfl, rfl⟩
        rw [Hb.out]
        go_wp2_with fail
        refine (HA.out _).mono ?_
        rintro e w2 ⟨rfl, rfl⟩
        go_wp2_with fail
        have e1 := E1.out
        have e2 := E2.out
        have e3 := E3.out
        have e4 := E4.out
        go_quiet ((go_at_call 40; exact HB.out.first _ _))
        go_wp2_with fail
        go_quiet ((go_at_call 40; exact HB.out.later _ _ _))
        clear e1 e2 e3 e4
        go_wp2_with fail
        go_ret2
        exact ⟨by rw [HR.out.1, HR.out.2]; rfl, G⟩
      · skip
        go_enter Try.func23, Try.ntmps23
        go_wp2_with fail
        refine (rvalid_any n d _).mono ?_
        rintro e w1 ⟨rfl, g1⟩
        rw [Ha.out]
        obtain ⟨s1, s2, s3, s4, s5⟩ := Gr.new2 g1
        have G := Gr.trans ((Grown.refl _).alloc _ _) g1
        clear g1
        go_wp2_with fail
        refine (Num.rvalid_any k _).mono ?_
        rintro e w2 ⟨rfl, rfl⟩
        rw [Hb.out]
        go_wp2_with fail
        refine (HA.out _).mono ?_
        rintro e w2 ⟨rfl, rfl⟩
        go_wp2_with fail
        have e1 := E1.out
        have e2 := E2.out
        have e3 := E3.out
        have e4 := E4.out
        go_quiet ((go_at_call 40; exact HB.out.first _ _))
        go_wp2_with fail
        go_quiet ((go_at_call 40; exact HB.out.later _ _ _))
        clear e1 e2 e3 e4
        go_wp2_with fail
        go_ret2
        exact ⟨by rw [HR.out.1, HR.out.2]; rfl, G⟩

set_option maxHeartbeats 2000000 in
theorem rof_z (n d k A B W m R : Int) (ha : vr n d = true) (hb : Num.vld k = true) (hn : n ≤ 0) (hn2 : 0 ≤ n)
    (a1 : 0 ≤ A) (a2 : A ≤ 1000000000) (b1 : 0 ≤ B) (b2 : B ≤ 1000000000000) (hp : n * k = A * B)
    (HA : Hid (amtI n A)) (HB : Hid (amtI k B)) (hW : Hid (W = B / d)) (hm : Hid (m = B % d)) (hR : Hid (R = A * m)) (w : World) : Ofs 23 n d k w := by
  obtain ⟨x1, x2, x3, x4, _⟩ := vr_true ha
  have y1 := Num.vld_true hb
  obtain ⟨y1, y2⟩ := y1
  have e0 : ((d : Int) == 0) = false := by simp; omega
  have hw0 : 0 ≤ W := by rw [hW.out]; exact Int.ediv_nonneg b1 (by omega)
  have hw1 : W ≤ 1000000000000 := by rw [hW.out]; exact Int.le_trans (Int.ediv_le_self _ b1) b2
  have hm0 : 0 ≤ m := by rw [hm.out]; exact Int.emod_nonneg _ (by omega)
  have hm1 : m < d := by rw [hm.out]; exact Int.emod_lt_of_pos _ (by omega)
  have hr0 : 0 ≤ R := by rw [hR.out]; exact Int.mul_nonneg a1 hm0
  have hr1 : R ≤ 1000000000000000 := by
    rw [hR.out]
    have p1 : A * m ≤ 1000000000 * m := Int.mul_le_mul_of_nonneg_right a2 hm0
    omega
  have hrd0 : 0 ≤ R / d := Int.ediv_nonneg hr0 (by omega)
  have hrd1 : R / d ≤ 1000000000000000 := Int.le_trans (Int.ediv_le_self _ hr0) hr1
  have hrm0 : 0 ≤ R % d := Int.emod_nonneg _ (by omega)
  have P := parts (A := A) (B := B) (d := d) (by omega)
  rw [← hW.out, ← hm.out, ← hR.out] at P
  obtain ⟨P1, P2⟩ := P
  have E1 := Lib.hid (show IntKind.i64.wrap (B.tdiv d) = W by rw [Int.tdiv_eq_ediv_of_nonneg b1, ← hW.out]; exact IntWalk.i64_in _ (by omega))
  have E2 := Lib.hid (show IntKind.i64.wrap (B.tmod d) = m by rw [Int.tmod_eq_emod_of_nonneg b1, ← hm.out]; exact IntWalk.i64_in _ (by omega))
  have E4 := Lib.hid (show B % d = m from hm.out.symm)
  have E3 := Lib.hid (show IntKind.i64.wrap (A * m) = R by rw [← hR.out]; exact IntWalk.i64_in _ (by omega))
  have hF : n * k / d = A * W + R / d := by
    rw [hp, P1]
    
  have hS0 : 0 ≤ A * W := Int.mul_nonneg a1 hw0
  have Ha := Lib.hid ha
  have Hb := Lib.hid hb
  clear hW hm hR hp P1 P2
  by_cases hO : 0 < W ∧ 1000000000000 / W < A
  · obtain ⟨hO1, hO2⟩ := hO
    have hov : 1000000000000 < A * W := (Int.ediv_lt_iff_lt_mul hO1).1 hO2
    have HR := Lib.hid (of_over (d := d) ha hb (by omega))
    clear ha hb hF
    have ew : ((W : Int) == 0) = false := by simp; omega
    go_enter Try.func23, Try.ntmps23
    go_wp2_with fail
    refine (rvalid_any n d _).mono ?_
    rintro e w1 ⟨rfl, g1⟩
    rw [Ha.out]
    obtain ⟨s1, s2, s3, s4, s5⟩ := Gr.new2 g1
    have G := Gr.trans ((Grown.refl _).alloc _ _) g1
    clear g1
    go_wp2_with fail
    refine (Num.rvalid_any k _).mono ?_
    rintro e w2 ⟨rfl, rfl⟩
    rw [Hb.out]
    go_wp2_with fail
    refine (HA.out _).mono ?_
    rintro e w2 ⟨rfl, rfl⟩
    go_wp2_with fail
    have e1 := E1.out
    have e2 := E2.out
    have e3 := E3.out
    have e4 := E4.out
    go_quiet ((go_at_call 40; exact HB.out.first _ _))
    go_wp2_with fail
    go_quiet ((go_at_call 40; exact HB.out.later _ _ _))
    clear e1 e2 e3 e4
    go_wp2_with fail
    go_ret2
    exact ⟨by rw [HR.out.1, HR.out.2]; rfl, G⟩
  · have hS1 : A * W ≤ 1000000000000 := by
      by_cases h : 0 < W
      · have : A ≤ 1000000000000 / W := by omega
        exact Int.mul_le_of_le_ediv h this
      · have : W = 0 := by omega
        rw [this]
        omega
    have hT : (0 < W ∧ A ≤ 1000000000000 / W) ∨ W ≤ 0 := by omega
    clear hO
    by_cases hv : 1000000000000 < A * W + R / d
    · have HR := Lib.hid (of_over (d := d) ha hb (by omega))
      clear ha hb hF
      rcases hT with ⟨t1, t2⟩ | t1
      · have ew : ((W : Int) == 0) = false := by simp; omega
        go_enter Try.func23, Try.ntmps23
        go_wp2_with fail
        refine (rvalid_any n d _).mono ?_
        rintro e w1 ⟨rfl, g1⟩
        rw [Ha.out]
        obtain ⟨s1, s2, s3, s4, s5⟩ := Gr.new2 g1
        have G := Gr.trans ((Grown.refl _).alloc _ _) g1
        clear g1
        go_wp2_with fail
        refine (Num.rvalid_any k _).mono ?_
        rintro e w2 ⟨rfl, rfl⟩
        rw [Hb.out]
        go_wp2_with fail
        refine (HA.out _).mono ?_
        rintro e w2 ⟨rfl, rfl⟩
        go_wp2_with fail
        have e1 := E1.out
        have e2 := E2.out
        have e3 := E3.out
        have e4 := E4.out
        go_quiet ((go_at_call 40; exact HB.out.first _ _))
        go_wp2_with fail
        go_quiet ((go_at_call 40; exact HB.out.later _ _ _))
        clear e1 e2 e3 e4
        go_wp2_with fail
        go_ret2
        exact ⟨by rw [HR.out.1, HR.out.2]; rfl, G⟩
      · skip
        go_enter Try.func23, Try.ntmps23
        go_wp2_with fail
        refine (rvalid_any n d _).mono ?_
        rintro e w1 ⟨rfl, g1⟩
        rw [Ha.out]
        obtain ⟨s1, s2, s3, s4, s5⟩ := Gr.new2 g1
        have G := Gr.trans ((Grown.refl _).alloc _ _) g1
        clear g1
        go_wp2_with fail
        refine (Num.rvalid_any k _).mono ?_
        rintro e w2 ⟨rfl, rfl⟩
        rw [Hb.out]
        go_wp2_with fail
        refine (HA.out _).mono ?_
        rintro e w2 ⟨rfl, rfl⟩
        go_wp2_with fail
        have e1 := E1.out
        have e2 := E2.out
        have e3 := E3.out
        have e4 := E4.out
        go_quiet ((go_at_call 40; exact HB.out.first _ _))
        go_wp2_with fail
        go_quiet ((go_at_call 40; exact HB.out.later _ _ _))
        clear e1 e2 e3 e4
        go_wp2_with fail
        go_ret2
        exact ⟨by rw [HR.out.1, HR.out.2]; rfl, G⟩
    · have HR := Lib.hid (of_ok (d := d) ha hb hF (by omega))
      clear ha hb hF
      rcases hT with ⟨t1, t2⟩ | t1
      · have ew : ((W : Int) == 0) = false := by simp; omega
        go_enter Try.func23, Try.ntmps23
        go_wp2_with fail
        refine (rvalid_any n d _).mono ?_
        rintro e w1 ⟨rfl, g1⟩
        rw [Ha.out]
        obtain ⟨s1, s2, s3, s4, s5⟩ := Gr.new2 g1
        have G := Gr.trans ((Grown.refl _).alloc _ _) g1
        clear g1
        go_wp2_with fail
        refine (Num.rvalid_any k _).mono ?_
        rintro e w2 ⟨rfl, rfl⟩
        rw [Hb.out]
        go_wp2_with fail
        refine (HA.out _).mono ?_
        rintro e w2 ⟨rfl, rfl⟩
        go_wp2_with fail
        have e1 := E1.out
        have e2 := E2.out
        have e3 := E3.out
        have e4 := E4.out
        go_quiet ((go_at_call 40; exact HB.out.first _ _))
        go_wp2_with fail
        go_quiet ((go_at_call 40; exact HB.out.later _ _ _))
        clear e1 e2 e3 e4
        go_wp2_with fail
        go_ret2
        exact ⟨by rw [HR.out.1, HR.out.2]; rfl, G⟩
      · skip
        go_enter Try.func23, Try.ntmps23
        go_wp2_with fail
        refine (rvalid_any n d _).mono ?_
        rintro e w1 ⟨rfl, g1⟩
        rw [Ha.out]
        obtain ⟨s1, s2, s3, s4, s5⟩ := Gr.new2 g1
        have G := Gr.trans ((Grown.refl _).alloc _ _) g1
        clear g1
        go_wp2_with fail
        refine (Num.rvalid_any k _).mono ?_
        rintro e w2 ⟨rfl, rfl⟩
        rw [Hb.out]
        go_wp2_with fail
        refine (HA.out _).mono ?_
        rintro e w2 ⟨rfl, rfl⟩
        go_wp2_with fail
        have e1 := E1.out
        have e2 := E2.out
        have e3 := E3.out
        have e4 := E4.out
        go_quiet ((go_at_call 40; exact HB.out.first _ _))
        go_wp2_with fail
        go_quiet ((go_at_call 40; exact HB.out.later _ _ _))
        clear e1 e2 e3 e4
        go_wp2_with fail
        go_ret2
        exact ⟨by rw [HR.out.1, HR.out.2]; rfl, G⟩

theorem rof_any (n d k : Int) (w : World) : Ofs 23 n d k w := by
  cases h : (vr n d && Num.vld k)
  · exact rof_out n d k h w
  · obtain ⟨ha, hb⟩ : vr n d = true ∧ Num.vld k = true := by simpa using h
    obtain ⟨x1, x2, x3, x4, _⟩ := vr_true ha
    have y1 := Num.vld_true hb
    obtain ⟨y1, y2⟩ := y1
    have HA : Hid (amtI n (if n < 0 then -n else n)) := Lib.hid fun wx => ramt_any n (by omega) (by omega) wx
    have HB : Hid (amtI k (if k < 0 then -k else k)) := Lib.hid fun wx => ramt_any k (by omega) (by omega) wx
    have a1 : 0 ≤ (if n < 0 then -n else n) := by split <;> omega
    have a2 : (if n < 0 then -n else n) ≤ 1000000000 := by split <;> omega
    have b1 : 0 ≤ (if k < 0 then -k else k) := by split <;> omega
    have b2 : (if k < 0 then -k else k) ≤ 1000000000000 := by split <;> omega
    by_cases hn : n < 0
    · by_cases hk : 0 < k
      · exact rof_np n d k _ _ _ _ _ ha hb hn hk a1 a2 b1 b2 (by rw [if_pos hn, if_neg (by omega), Int.neg_mul, Int.neg_neg]) HA HB (Lib.hid rfl) (Lib.hid rfl) (Lib.hid rfl) w
      · refine rof_nn n d k _ _ _ _ _ ha hb hn (by omega) a1 a2 b1 b2 ?_ HA HB (Lib.hid rfl) (Lib.hid rfl) (Lib.hid rfl) w
        rw [if_pos hn]
        by_cases hk2 : k < 0
        · rw [if_pos hk2, Int.neg_mul_neg]
        · obtain rfl : k = 0 := by omega
          simp
    · by_cases hn2 : 0 < n
      · by_cases hk : k < 0
        · exact rof_pn n d k _ _ _ _ _ ha hb hn2 hk a1 a2 b1 b2 (by rw [if_pos hk, if_neg (by omega), Int.mul_neg, Int.neg_neg]) HA HB (Lib.hid rfl) (Lib.hid rfl) (Lib.hid rfl) w
        · exact rof_pp n d k _ _ _ _ _ ha hb hn2 (by omega) a1 a2 b1 b2 (by rw [if_neg hk, if_neg hn]) HA HB (Lib.hid rfl) (Lib.hid rfl) (Lib.hid rfl) w
      · refine rof_z n d k _ _ _ _ _ ha hb (by omega) (by omega) a1 a2 b1 b2 ?_ HA HB (Lib.hid rfl) (Lib.hid rfl) (Lib.hid rfl) w
        obtain rfl : n = 0 := by omega
        simp

end Rat2
end Go.Proofs.Ytghcbicapcpmlaa
