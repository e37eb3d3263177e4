/-
  Contracts of Cmp, Floor, Ceil and of the reference's.
-/
import Derived.Test.YtghcbicapcpmlaaRatD
namespace Go.Proofs.Ytghcbicapcpmlaa
open Go.RowKit
namespace Rat2

/-- What two boxed ratios read as, later on. -/
def Four (w w' : World) (a1 a2 b1 b2 : Int) : Prop :=
  w'.cell? ⟨w.heap.size, 0, none⟩ = some (.int .i64 a1) ∧ w'.cell? ⟨w.heap.size, 1, none⟩ = some (.int .i64 a2) ∧
  w'.cell? ⟨w.heap.size + 1, 0, none⟩ = some (.int .i64 b1) ∧ w'.cell? ⟨w.heap.size + 1, 1, none⟩ = some (.int .i64 b2) ∧ w.heap.size + 1 < w'.heap.size ∧ Grown w w'
theorem Four.new {w w' : World} {a1 a2 b1 b2 : Int} {s t : TypeId}
    (h : Grown ((w.alloc (.cells #[.int .i64 a1, .int .i64 a2] s)).alloc (.cells #[.int .i64 b1, .int .i64 b2] t)) w') : Four w w' a1 a2 b1 b2 := by
  have g2 := Gr.new2 h
  have h1 := Gr.trans ((Grown.refl _).alloc _ _) h
  have g1 := Gr.new2 h1
  simp only [size_alloc] at g2
  exact ⟨g1.1, g1.2.1, g2.1, g2.2.1, g2.2.2.2.2, Gr.trans ((Grown.refl _).alloc _ _) h1⟩
theorem Four.old {w w' w2 : World} {a1 a2 b1 b2 : Int} (h : Four w w' a1 a2 b1 b2) (g : Grown w' w2) : Four w w2 a1 a2 b1 b2 := by
  obtain ⟨h1, h2, h3, h4, h5, h6⟩ := h
  exact ⟨Gr.old g (by omega) h1, Gr.old g (by omega) h2, Gr.old g (by omega) h3, Gr.old g (by omega) h4, by have := g.2.2; omega, Gr.trans h6 g⟩

theorem cmp_ne1 (a1 a2 b1 b2 : Int) (e1 : (a1 == b1) = false) (w : World) :
    Calls Try.prog 24 #[rv a1 a2, rv b1 b2] w fun e w' => e = .returned (.int .i64 (cmp a1 a2 b1 b2)) ∧ Grown w w' := by
  have E1 := e1
  cases ha : vr a1 a2
  · rw [cmp_bad (by rw [ha]; rfl)]
    have Ha := Lib.hid ha
    clear ha
    go_enter Try.func24, Try.ntmps24
    go_wp2_with fail
    refine (valid_any a1 a2 _).mono ?_
    rintro e w1 ⟨rfl, g1⟩
    rw [Ha.out]
    have S := Four.new g1
    clear g1
    obtain ⟨s1, s2, s3, s4, s5, s6⟩ := id S
    go_wp2_with fail
    go_ret
    exact ⟨rfl, s6⟩
  · cases hb : vr b1 b2
    · rw [cmp_bad (by rw [ha, hb]; rfl)]
      have Ha := Lib.hid ha
      have Hb := Lib.hid hb
      clear ha hb
      go_enter Try.func24, Try.ntmps24
      go_wp2_with fail
      refine (valid_any a1 a2 _).mono ?_
      rintro e w1 ⟨rfl, g1⟩
      rw [Ha.out]
      have S := Four.new g1
      clear g1
      obtain ⟨s1, s2, s3, s4, s5, s6⟩ := id S
      go_wp2_with fail
      refine (valid_any b1 b2 _).mono ?_
      rintro e w2 ⟨rfl, g2⟩
      rw [Hb.out]
      clear s1 s2 s3 s4 s5 s6
      have S2 := S.old g2
      clear S g2
      obtain ⟨s1, s2, s3, s4, s5, s6⟩ := id S2
      go_wp2_with fail
      go_ret
      exact ⟨rfl, s6⟩
    · obtain ⟨x1, x2, x3, x4, _⟩ := vr_true ha
      obtain ⟨y1, y2, y3, y4, _⟩ := vr_true hb
      obtain ⟨u1, u2⟩ := nd_bd x3 x4 y1 y2
      obtain ⟨v1, v2⟩ := nd_bd y3 y4 x1 x2
      have Ha := Lib.hid ha
      have Hb := Lib.hid hb
      clear ha hb
      by_cases h : a1 * b2 < b1 * a2
      · rw [cmp_lt Ha.out Hb.out h]
        go_enter Try.func24, Try.ntmps24
        go_wp2_with fail
        refine (valid_any a1 a2 _).mono ?_
        rintro e w1 ⟨rfl, g1⟩
        rw [Ha.out]
        have S := Four.new g1
        clear g1
        obtain ⟨s1, s2, s3, s4, s5, s6⟩ := id S
        go_wp2_with fail
        refine (valid_any b1 b2 _).mono ?_
        rintro e w2 ⟨rfl, g2⟩
        rw [Hb.out]
        clear s1 s2 s3 s4 s5 s6
        have S2 := S.old g2
        clear S g2
        obtain ⟨s1, s2, s3, s4, s5, s6⟩ := id S2
        go_wp2_with fail
        go_ret
        exact ⟨rfl, s6⟩
      · rw [cmp_ge Ha.out Hb.out (fun g => by rw [g.1] at E1; simp at E1) h]
        have h' : b1 * a2 ≤ a1 * b2 := by omega
        clear h
        go_enter Try.func24, Try.ntmps24
        go_wp2_with fail
        refine (valid_any a1 a2 _).mono ?_
        rintro e w1 ⟨rfl, g1⟩
        rw [Ha.out]
        have S := Four.new g1
        clear g1
        obtain ⟨s1, s2, s3, s4, s5, s6⟩ := id S
        go_wp2_with fail
        refine (valid_any b1 b2 _).mono ?_
        rintro e w2 ⟨rfl, g2⟩
        rw [Hb.out]
        clear s1 s2 s3 s4 s5 s6
        have S2 := S.old g2
        clear S g2
        obtain ⟨s1, s2, s3, s4, s5, s6⟩ := id S2
        go_wp2_with fail
        go_ret
        exact ⟨rfl, s6⟩

theorem cmp_ne2 (a1 a2 b2 : Int) (e1 : (a2 == b2) = false) (w : World) :
    Calls Try.prog 24 #[rv a1 a2, rv a1 b2] w fun e w' => e = .returned (.int .i64 (cmp a1 a2 a1 b2)) ∧ Grown w w' := by
  cases ha : vr a1 a2
  · rw [cmp_bad (by rw [ha]; rfl)]
    have Ha := Lib.hid ha
    clear ha
    go_enter Try.func24, Try.ntmps24
    go_wp2_with fail
    refine (valid_any a1 a2 _).mono ?_
    rintro e w1 ⟨rfl, g1⟩
    rw [Ha.out]
    have S := Four.new g1
    clear g1
    obtain ⟨s1, s2, s3, s4, s5, s6⟩ := id S
    go_wp2_with fail
    go_ret
    exact ⟨rfl, s6⟩
  · cases hb : vr a1 b2
    · rw [cmp_bad (by rw [ha, hb]; rfl)]
      have Ha := Lib.hid ha
      have Hb := Lib.hid hb
      clear ha hb
      go_enter Try.func24, Try.ntmps24
      go_wp2_with fail
      refine (valid_any a1 a2 _).mono ?_
      rintro e w1 ⟨rfl, g1⟩
      rw [Ha.out]
      have S := Four.new g1
      clear g1
      obtain ⟨s1, s2, s3, s4, s5, s6⟩ := id S
      go_wp2_with fail
      refine (valid_any a1 b2 _).mono ?_
      rintro e w2 ⟨rfl, g2⟩
      rw [Hb.out]
      clear s1 s2 s3 s4 s5 s6
      have S2 := S.old g2
      clear S g2
      obtain ⟨s1, s2, s3, s4, s5, s6⟩ := id S2
      go_wp2_with fail
      go_ret
      exact ⟨rfl, s6⟩
    · obtain ⟨x1, x2, x3, x4, _⟩ := vr_true ha
      obtain ⟨y1, y2, y3, y4, _⟩ := vr_true hb
      obtain ⟨u1, u2⟩ := nd_bd x3 x4 y1 y2
      obtain ⟨v1, v2⟩ := nd_bd y3 y4 x1 x2
      have Ha := Lib.hid ha
      have Hb := Lib.hid hb
      clear ha hb
      by_cases h : a1 * b2 < a1 * a2
      · rw [cmp_lt Ha.out Hb.out h]
        go_enter Try.func24, Try.ntmps24
        go_wp2_with fail
        refine (valid_any a1 a2 _).mono ?_
        rintro e w1 ⟨rfl, g1⟩
        rw [Ha.out]
        have S := Four.new g1
        clear g1
        obtain ⟨s1, s2, s3, s4, s5, s6⟩ := id S
        go_wp2_with fail
        refine (valid_any a1 b2 _).mono ?_
        rintro e w2 ⟨rfl, g2⟩
        rw [Hb.out]
        clear s1 s2 s3 s4 s5 s6
        have S2 := S.old g2
        clear S g2
        obtain ⟨s1, s2, s3, s4, s5, s6⟩ := id S2
        go_wp2_with fail
        go_ret
        exact ⟨rfl, s6⟩
      · rw [cmp_ge Ha.out Hb.out (fun g => by rw [g.2] at e1; simp at e1) h]
        have h' : a1 * a2 ≤ a1 * b2 := by omega
        clear h
        go_enter Try.func24, Try.ntmps24
        go_wp2_with fail
        refine (valid_any a1 a2 _).mono ?_
        rintro e w1 ⟨rfl, g1⟩
        rw [Ha.out]
        have S := Four.new g1
        clear g1
        obtain ⟨s1, s2, s3, s4, s5, s6⟩ := id S
        go_wp2_with fail
        refine (valid_any a1 b2 _).mono ?_
        rintro e w2 ⟨rfl, g2⟩
        rw [Hb.out]
        clear s1 s2 s3 s4 s5 s6
        have S2 := S.old g2
        clear S g2
        obtain ⟨s1, s2, s3, s4, s5, s6⟩ := id S2
        go_wp2_with fail
        go_ret
        exact ⟨rfl, s6⟩

theorem cmp_same (a1 a2 : Int) (w : World) :
    Calls Try.prog 24 #[rv a1 a2, rv a1 a2] w fun e w' => e = .returned (.int .i64 0) ∧ Grown w w' := by
  go_enter Try.func24, Try.ntmps24
  go_wp2_with fail
  go_ret
  exact ⟨rfl, ((Grown.refl _).alloc _ _).alloc _ _⟩
theorem cmp_any (a1 a2 b1 b2 : Int) (w : World) :
    Calls Try.prog 24 #[rv a1 a2, rv b1 b2] w fun e w' => e = .returned (.int .i64 (cmp a1 a2 b1 b2)) ∧ Grown w w' := by
  by_cases h1 : a1 = b1
  · subst h1
    by_cases h2 : a2 = b2
    · subst h2
      rw [cmp_self]
      exact cmp_same a1 a2 w
    · exact cmp_ne2 a1 a2 b2 (by simpa using h2) w
  · exact cmp_ne1 a1 a2 b1 b2 (by simpa using h1) w

theorem rcmp_any (a1 a2 b1 b2 : Int) (w : World) :
    Calls Try.prog 25 #[rv a1 a2, rv b1 b2] w fun e w' => e = .returned (.int .i64 (cmp a1 a2 b1 b2)) ∧ Grown w w' := by
  cases ha : vr a1 a2
  · rw [cmp_bad (by rw [ha]; rfl)]
    have Ha := Lib.hid ha
    clear ha
    go_enter Try.func25, Try.ntmps25
    go_wp2_with fail
    refine (rvalid_any a1 a2 _).mono ?_
    rintro e w1 ⟨rfl, g1⟩
    rw [Ha.out]
    have S := Four.new g1
    clear g1
    obtain ⟨s1, s2, s3, s4, s5, s6⟩ := id S
    go_wp2_with fail
    go_ret
    exact ⟨rfl, s6⟩
  · cases hb : vr b1 b2
    · rw [cmp_bad (by rw [ha, hb]; rfl)]
      have Ha := Lib.hid ha
      have Hb := Lib.hid hb
      clear ha hb
      go_enter Try.func25, Try.ntmps25
      go_wp2_with fail
      refine (rvalid_any a1 a2 _).mono ?_
      rintro e w1 ⟨rfl, g1⟩
      rw [Ha.out]
      have S := Four.new g1
      clear g1
      obtain ⟨s1, s2, s3, s4, s5, s6⟩ := id S
      go_wp2_with fail
      refine (rvalid_any b1 b2 _).mono ?_
      rintro e w2 ⟨rfl, g2⟩
      rw [Hb.out]
      clear s1 s2 s3 s4 s5 s6
      have S2 := S.old g2
      clear S g2
      obtain ⟨s1, s2, s3, s4, s5, s6⟩ := id S2
      go_wp2_with fail
      go_ret
      exact ⟨rfl, s6⟩
    · obtain ⟨x1, x2, x3, x4, _⟩ := vr_true ha
      obtain ⟨y1, y2, y3, y4, _⟩ := vr_true hb
      obtain ⟨u1, u2⟩ := nd_bd x3 x4 y1 y2
      obtain ⟨v1, v2⟩ := nd_bd y3 y4 x1 x2
      have Ha := Lib.hid ha
      have Hb := Lib.hid hb
      clear ha hb
      rcases Int.lt_trichotomy (a1 * b2) (b1 * a2) with h | h | h
      · rw [cmp_lt Ha.out Hb.out h]
        go_enter Try.func25, Try.ntmps25
        go_wp2_with fail
        refine (rvalid_any a1 a2 _).mono ?_
        rintro e w1 ⟨rfl, g1⟩
        rw [Ha.out]
        have S := Four.new g1
        clear g1
        obtain ⟨s1, s2, s3, s4, s5, s6⟩ := id S
        go_wp2_with fail
        refine (rvalid_any b1 b2 _).mono ?_
        rintro e w2 ⟨rfl, g2⟩
        rw [Hb.out]
        clear s1 s2 s3 s4 s5 s6
        have S2 := S.old g2
        clear S g2
        obtain ⟨s1, s2, s3, s4, s5, s6⟩ := id S2
        go_wp2_with fail
        go_ret
        exact ⟨rfl, s6⟩
      · rw [cmp_eq Ha.out Hb.out h]
        have e1 : ¬ a1 * b2 < b1 * a2 := by omega
        have e2 : ¬ b1 * a2 < a1 * b2 := by omega
        clear h
        go_enter Try.func25, Try.ntmps25
        go_wp2_with fail
        refine (rvalid_any a1 a2 _).mono ?_
        rintro e w1 ⟨rfl, g1⟩
        rw [Ha.out]
        have S := Four.new g1
        clear g1
        obtain ⟨s1, s2, s3, s4, s5, s6⟩ := id S
        go_wp2_with fail
        refine (rvalid_any b1 b2 _).mono ?_
        rintro e w2 ⟨rfl, g2⟩
        rw [Hb.out]
        clear s1 s2 s3 s4 s5 s6
        have S2 := S.old g2
        clear S g2
        obtain ⟨s1, s2, s3, s4, s5, s6⟩ := id S2
        go_wp2_with fail
        go_ret
        exact ⟨rfl, s6⟩
      · rw [cmp_gt Ha.out Hb.out h]
        go_enter Try.func25, Try.ntmps25
        go_wp2_with fail
        refine (rvalid_any a1 a2 _).mono ?_
        rintro e w1 ⟨rfl, g1⟩
        rw [Ha.out]
        have S := Four.new g1
        clear g1
        obtain ⟨s1, s2, s3, s4, s5, s6⟩ := id S
        go_wp2_with fail
        refine (rvalid_any b1 b2 _).mono ?_
        rintro e w2 ⟨rfl, g2⟩
        rw [Hb.out]
        clear s1 s2 s3 s4 s5 s6
        have S2 := S.old g2
        clear S g2
        obtain ⟨s1, s2, s3, s4, s5, s6⟩ := id S2
        go_wp2_with fail
        go_ret
        exact ⟨rfl, s6⟩

theorem adj_pos {n d : Int} (hd : 0 < d) : Num.dq n d = n / d ∧ Num.dr n d = n % d := by
  have h := tdf (n := n) hd
  have e : d * n.tdiv d + n.tmod d = n := Int.mul_tdiv_add_tmod n d
  have e2 : d * (n / d) + n % d = n := Int.mul_ediv_add_emod n d
  have ha : Num.adj n d = decide (n.tmod d < 0) := by
    unfold Num.adj
    have : decide (d < 0) = false := by simp; omega
    rw [this]
    by_cases hz : n.tmod d < 0
    · have : n.tmod d ≠ 0 := by omega
      simp [hz, this]
    · simp [hz]
  unfold Num.dq Num.dr
  rw [ha]
  by_cases hz : n.tmod d < 0
  · rw [if_pos hz] at h
    simp only [hz, decide_true, if_true]
    refine ⟨h, ?_⟩
    rw [← h, Int.mul_sub] at e2
    omega
  · rw [if_neg hz] at h
    simp only [hz, decide_false, Bool.false_eq_true, if_false]
    refine ⟨h, ?_⟩
    rw [← h] at e2
    omega
theorem dm_in {n d : Int} (x1 : 1 ≤ d) (x2 : d ≤ 1000000) (x3 : -1000000000 ≤ n) (x4 : n ≤ 1000000000) : (Num.vld n && Num.vld d) = true := by
  rw [Num.vld_of (n := n) (by omega) (by omega), Num.vld_of (n := d) (by omega) (by omega)]
  rfl
theorem dmq_eq {n d : Int} (x1 : 1 ≤ d) (x2 : d ≤ 1000000) (x3 : -1000000000 ≤ n) (x4 : n ≤ 1000000000) : Num.dmQ n d = n / d := by
  unfold Num.dmQ
  rw [dm_in x1 x2 x3 x4, if_pos rfl, if_neg (by omega), (adj_pos (by omega)).1]
theorem cdv_eq {n d : Int} (x1 : 1 ≤ d) (x2 : d ≤ 1000000) (x3 : -1000000000 ≤ n) (x4 : n ≤ 1000000000) : Num.cdV n d = -((-n) / d) := by
  unfold Num.cdV Num.dmE Num.dmR
  have hd : ¬ d = 0 := by omega
  rw [dmq_eq x1 x2 x3 x4, dm_in x1 x2 x3 x4, if_pos (show (if true = true then (if d = 0 then (9 : Int) else 0) else 2) = 0 by rw [if_pos rfl, if_neg hd]), if_pos rfl, if_neg hd, (adj_pos (by omega)).2, neg_ediv_pos (by omega)]
  by_cases h : n % d = 0
  · simp [h]
  · have : (n % d != 0) = true := by simpa using h
    rw [if_pos this, if_neg h]
    omega

theorem floor_any (n d : Int) (w : World) :
    Calls Try.prog 26 #[rv n d] w fun e w' => e = .returned (.int .i64 (flo n d)) ∧ Grown w w' := by
  unfold flo
  cases ha : vr n d
  · have Ha := Lib.hid ha
    clear ha
    go_enter Try.func26, Try.ntmps26
    go_wp2_with fail
    refine (valid_any n d _).mono ?_
    rintro e w1 ⟨rfl, g1⟩
    rw [Ha.out]
    have G := Gr.trans ((Grown.refl _).alloc _ _) g1
    go_wp2_with fail
    go_ret
    exact ⟨rfl, G⟩
  · obtain ⟨x1, x2, x3, x4, _⟩ := vr_true ha
    have Ha := Lib.hid ha
    clear ha
    have HV := Lib.hid (dmq_eq (n := n) (d := d) x1 x2 x3 x4)
    go_enter Try.func26, Try.ntmps26
    go_wp2_with fail
    refine (valid_any n d _).mono ?_
    rintro e w1 ⟨rfl, g1⟩
    rw [Ha.out]
    obtain ⟨s1, s2, s3, s4, s5⟩ := Gr.new2 g1
    have G := Gr.trans ((Grown.refl _).alloc _ _) g1
    clear g1
    go_wp2_with fail
    refine (Num.divMod_any n d _).mono ?_
    rintro e w2 ⟨rfl, nn, rfl⟩
    unfold Num.trip
    rw [HV.out]
    go_wp2_with fail
    go_ret
    exact ⟨rfl, G⟩

theorem ceil_any (n d : Int) (w : World) :
    Calls Try.prog 28 #[rv n d] w fun e w' => e = .returned (.int .i64 (cel n d)) ∧ Grown w w' := by
  unfold cel
  cases ha : vr n d
  · have Ha := Lib.hid ha
    clear ha
    go_enter Try.func28, Try.ntmps28
    go_wp2_with fail
    refine (valid_any n d _).mono ?_
    rintro e w1 ⟨rfl, g1⟩
    rw [Ha.out]
    have G := Gr.trans ((Grown.refl _).alloc _ _) g1
    go_wp2_with fail
    go_ret
    exact ⟨rfl, G⟩
  · obtain ⟨x1, x2, x3, x4, _⟩ := vr_true ha
    have Ha := Lib.hid ha
    clear ha
    have HV := Lib.hid (cdv_eq (n := n) (d := d) x1 x2 x3 x4)
    go_enter Try.func28, Try.ntmps28
    go_wp2_with fail
    refine (valid_any n d _).mono ?_
    rintro e w1 ⟨rfl, g1⟩
    rw [Ha.out]
    obtain ⟨s1, s2, s3, s4, s5⟩ := Gr.new2 g1
    have G := Gr.trans ((Grown.refl _).alloc _ _) g1
    clear g1
    go_wp2_with fail
    refine (Num.ceilDiv_any n d _).mono ?_
    rintro e w2 ⟨rfl, nn, rfl⟩
    unfold Num.pair
    rw [HV.out]
    go_wp2_with fail
    go_ret
    exact ⟨rfl, G⟩

theorem rfloor_any (n d : Int) (w : World) :
    Calls Try.prog 27 #[rv n d] w fun e w' => e = .returned (.int .i64 (flo n d)) ∧ Grown w w' := by
  unfold flo
  cases ha : vr n d
  · have Ha := Lib.hid ha
    clear ha
    go_enter Try.func27, Try.ntmps27
    go_wp2_with fail
    refine (rvalid_any n d _).mono ?_
    rintro e w1 ⟨rfl, g1⟩
    rw [Ha.out]
    have G := Gr.trans ((Grown.refl _).alloc _ _) g1
    go_wp2_with fail
    go_ret
    exact ⟨rfl, G⟩
  · obtain ⟨x1, x2, x3, x4, _⟩ := vr_true ha
    have Ha := Lib.hid ha
    clear ha
    have HV := Lib.hid (tdf (n := n) (d := d) (by omega))
    have q1 := Num.tdiv_bd (a := n) (b := d) (by omega) (by omega) (by omega)
    obtain ⟨q1, q2⟩ := q1
    have r1 := Num.tmod_bd (a := n) (b := d) (by omega) (by omega) (by omega)
    obtain ⟨r1, r2⟩ := r1
    have e0 : ((d : Int) == 0) = false := by simp; omega
    by_cases ht : n.tmod d < 0
    · have HV2 := Lib.hid ((if_pos ht).symm.trans HV.out)
      clear HV
      go_enter Try.func27, Try.ntmps27
      go_wp2_with fail
      refine (rvalid_any n d _).mono ?_
      rintro e w1 ⟨rfl, g1⟩
      rw [Ha.out]
      obtain ⟨s1, s2, s3, s4, s5⟩ := Gr.new2 g1
      have G := Gr.trans ((Grown.refl _).alloc _ _) g1
      clear g1
      go_wp2_with fail
      go_ret
      exact ⟨ret_int HV2.out, G⟩
    · have HV2 := Lib.hid ((if_neg ht).symm.trans HV.out)
      clear HV
      go_enter Try.func27, Try.ntmps27
      go_wp2_with fail
      refine (rvalid_any n d _).mono ?_
      rintro e w1 ⟨rfl, g1⟩
      rw [Ha.out]
      obtain ⟨s1, s2, s3, s4, s5⟩ := Gr.new2 g1
      have G := Gr.trans ((Grown.refl _).alloc _ _) g1
      clear g1
      go_wp2_with fail
      go_ret
      exact ⟨ret_int HV2.out, G⟩

theorem rceil_any (n d : Int) (w : World) :
    Calls Try.prog 29 #[rv n d] w fun e w' => e = .returned (.int .i64 (cel n d)) ∧ Grown w w' := by
  unfold cel
  cases ha : vr n d
  · have Ha := Lib.hid ha
    clear ha
    go_enter Try.func29, Try.ntmps29
    go_wp2_with fail
    refine (rvalid_any n d _).mono ?_
    rintro e w1 ⟨rfl, g1⟩
    rw [Ha.out]
    have G := Gr.trans ((Grown.refl _).alloc _ _) g1
    go_wp2_with fail
    go_ret
    exact ⟨rfl, G⟩
  · obtain ⟨x1, x2, x3, x4, _⟩ := vr_true ha
    have Ha := Lib.hid ha
    clear ha
    have HV := Lib.hid (tdc (n := n) (d := d) (by omega))
    have q1 := Num.tdiv_bd (a := n) (b := d) (by omega) (by omega) (by omega)
    obtain ⟨q1, q2⟩ := q1
    have r1 := Num.tmod_bd (a := n) (b := d) (by omega) (by omega) (by omega)
    obtain ⟨r1, r2⟩ := r1
    have e0 : ((d : Int) == 0) = false := by simp; omega
    by_cases ht : 0 < n.tmod d
    · have HV2 := Lib.hid ((if_pos ht).symm.trans HV.out)
      clear HV
      go_enter Try.func29, Try.ntmps29
      go_wp2_with fail
      refine (rvalid_any n d _).mono ?_
      rintro e w1 ⟨rfl, g1⟩
      rw [Ha.out]
      obtain ⟨s1, s2, s3, s4, s5⟩ := Gr.new2 g1
      have G := Gr.trans ((Grown.refl _).alloc _ _) g1
      clear g1
      go_wp2_with fail
      go_ret
      exact ⟨ret_int HV2.out, G⟩
    · have HV2 := Lib.hid ((if_neg ht).symm.trans HV.out)
      clear HV
      go_enter Try.func29, Try.ntmps29
      go_wp2_with fail
      refine (rvalid_any n d _).mono ?_
      rintro e w1 ⟨rfl, g1⟩
      rw [Ha.out]
      obtain ⟨s1, s2, s3, s4, s5⟩ := Gr.new2 g1
      have G := Gr.trans ((Grown.refl _).alloc _ _) g1
      clear g1
      go_wp2_with fail
      go_ret
      exact ⟨ret_int HV2.out, G⟩

end Rat2
end Go.Proofs.Ytghcbicapcpmlaa
