/-
  Contracts of Of and of the reference's.
-/
import Derived.Test.YtghcbicapcpmlaaRatE
import Derived.Test.YtghcbicapcpmlaaNumD
namespace Go.Proofs.Ytghcbicapcpmlaa
open Go.RowKit
namespace Rat2

/-- What Of answers: the product, rounded down. -/
def ofV (n d k : Int) : Int := if vr n d && Num.vld k then Num.chk (n * k / d) else 0
def ofE (n d k : Int) : Int := if vr n d && Num.vld k then Num.chkE (n * k / d) else 2
theorem of_bad {n d k : Int} (h : (vr n d && Num.vld k) = false) : ofV n d k = 0 ∧ ofE n d k = 2 := by unfold ofV ofE; rw [h]; exact ⟨rfl, rfl⟩
theorem of_over {n d k : Int} (h1 : vr n d = true) (h2 : Num.vld k = true) (h : ¬ (-1000000000000 ≤ n * k / d ∧ n * k / d ≤ 1000000000000)) : ofV n d k = 0 ∧ ofE n d k = 8 := by
  unfold ofV ofE Num.chk Num.chkE
  rw [h1, h2, Num.vld_not h]
  exact ⟨rfl, rfl⟩
theorem of_ok {n d k x : Int} (h1 : vr n d = true) (h2 : Num.vld k = true) (e : n * k / d = x) (h : -1000000000000 ≤ x ∧ x ≤ 1000000000000) : ofV n d k = x ∧ ofE n d k = 0 := by
  unfold ofV ofE Num.chk Num.chkE
  rw [h1, h2, e, Num.vld_of h.1 h.2]
  exact ⟨rfl, rfl⟩
theorem of_sub {n d k q : Int} (h1 : vr n d = true) (h2 : Num.vld k = true) (e : n * k / d = -q - 1) (h : 0 ≤ q ∧ q ≤ 1000000000000) : ofV n d k = Num.subV (-q) 1 ∧ ofE n d k = Num.subE (-q) 1 := by
  unfold ofV ofE Num.subV Num.subE
  rw [h1, h2, e, Num.vld_of (n := -q) (by omega) (by omega), Num.vld_of (n := 1) (by omega) (by omega)]
  exact ⟨rfl, rfl⟩
theorem rem_iff {n d k A B : Int} (hv : vr n d = true) (h : A * B = n * k ∨ A * B = -(n * k)) : A * B % d = 0 ↔ k.tmod d = 0 := by
  obtain ⟨_, _, _, _, hg⟩ := vr_true hv
  constructor
  · intro e
    have h1 : d ∣ A * B := Int.dvd_of_emod_eq_zero e
    have h2 : d ∣ n * k := by
      rcases h with h | h
      · rw [← h]; exact h1
      · rw [h] at h1; exact Int.dvd_neg.1 h1
    exact Int.tmod_eq_zero_of_dvd (cop_dvd hg h2)
  · intro e
    have h1 : d ∣ k := Int.dvd_of_tmod_eq_zero e
    have h2 : d ∣ n * k := Int.dvd_trans h1 (Int.dvd_mul_left _ _)
    apply Int.emod_eq_zero_of_dvd
    rcases h with h | h
    · rw [h]; exact h2
    · rw [h]; exact Int.dvd_neg.2 h2
theorem md_ok {A B d : Int} (a1 : 0 ≤ A) (a2 : A ≤ 1000000000) (b1 : 0 ≤ B) (b2 : B ≤ 1000000000000) (d1 : 1 ≤ d) (d2 : d ≤ 1000000) (h : A * B / d ≤ 1000000000000) : Num.mdV A B d = A * B / d ∧ Num.mdE A B d = 0 := by
  unfold Num.mdV Num.mdE
  rw [Num.amt_of a1 (by omega), Num.amt_of b1 b2, Num.amt_of (n := d) (by omega) (by omega)]
  have hd : ¬ d = 0 := by omega
  simp [hd, h]
theorem md_no {A B d : Int} (a1 : 0 ≤ A) (a2 : A ≤ 1000000000) (b1 : 0 ≤ B) (b2 : B ≤ 1000000000000) (d1 : 1 ≤ d) (d2 : d ≤ 1000000) (h : ¬ A * B / d ≤ 1000000000000) : Num.mdV A B d = 0 ∧ Num.mdE A B d = 8 := by
  unfold Num.mdV Num.mdE
  rw [Num.amt_of a1 (by omega), Num.amt_of b1 b2, Num.amt_of (n := d) (by omega) (by omega)]
  have hd : ¬ d = 0 := by omega
  simp [hd]
  constructor <;> omega
abbrev Ofs (f : Nat) (n d k : Int) (w : World) : Prop := Calls Try.prog f #[rv n d, .int .i64 k] w fun e w' => e = Num.pair (ofV n d k) (ofE n d k) ∧ Grown w w'

theorem of_out (n d k : Int) (h : (vr n d && Num.vld k) = false) (w : World) : Ofs 22 n d k w := by
  have HB := Lib.hid (of_bad h)
  cases ha : vr n d
  · have Ha := Lib.hid ha
    clear ha h
    go_enter Try.func22, Try.ntmps22
    go_wp2_with fail
    refine (valid_any n d _).mono ?_
    rintro e w1 ⟨rfl, g1⟩
    rw [Ha.out]
    have G := Gr.trans ((Grown.refl _).alloc _ _) g1
    go_wp2_with fail
    go_ret2
    exact ⟨by rw [HB.out.1, HB.out.2]; rfl, G⟩
  · have hb : Num.vld k = false := by rw [ha] at h; exact h
    have Ha := Lib.hid ha
    have Hb := Lib.hid hb
    clear ha hb h
    go_enter Try.func22, Try.ntmps22
    go_wp2_with fail
    refine (valid_any n d _).mono ?_
    rintro e w1 ⟨rfl, g1⟩
    rw [Ha.out]
    have G := Gr.trans ((Grown.refl _).alloc _ _) g1
    go_wp2_with fail
    refine (Num.valid_any k _).mono ?_
    rintro e w2 ⟨rfl, rfl⟩
    rw [Hb.out]
    go_wp2_with fail
    go_ret2
    exact ⟨by rw [HB.out.1, HB.out.2]; rfl, G⟩

theorem rof_out (n d k : Int) (h : (vr n d && Num.vld k) = false) (w : World) : Ofs 23 n d k w := by
  have HB := Lib.hid (of_bad h)
  cases ha : vr n d
  · have Ha := Lib.hid ha
    clear ha h
    go_enter Try.func23, Try.ntmps23
    go_wp2_with fail
    refine (rvalid_any n d _).mono ?_
    rintro e w1 ⟨rfl, g1⟩
    rw [Ha.out]
    have G := Gr.trans ((Grown.refl _).alloc _ _) g1
    go_wp2_with fail
    go_ret2
    exact ⟨by rw [HB.out.1, HB.out.2]; rfl, G⟩
  · have hb : Num.vld k = false := by rw [ha] at h; exact h
    have Ha := Lib.hid ha
    have Hb := Lib.hid hb
    clear ha hb h
    go_enter Try.func23, Try.ntmps23
    go_wp2_with fail
    refine (rvalid_any n d _).mono ?_
    rintro e w1 ⟨rfl, g1⟩
    rw [Ha.out]
    have G := Gr.trans ((Grown.refl _).alloc _ _) g1
    go_wp2_with fail
    refine (Num.rvalid_any k _).mono ?_
    rintro e w2 ⟨rfl, rfl⟩
    rw [Hb.out]
    go_wp2_with fail
    go_ret2
    exact ⟨by rw [HB.out.1, HB.out.2]; rfl, G⟩

theorem of_pp (n d k : Int) (ha : vr n d = true) (hb : Num.vld k = true) (hn : 0 ≤ n) (hk : 0 ≤ k) (w : World) : Ofs 22 n d k w := by
  obtain ⟨x1, x2, x3, x4, _⟩ := vr_true ha
  have y1 := Num.vld_true hb
  obtain ⟨y1, y2⟩ := y1
  have hp : (max n (-n)) * (max k (-k)) = (n * k) := by rw [show max n (-n) = n by omega, show max k (-k) = k by omega]
  have e0 : ((d : Int) == 0) = false := by simp; omega
  have hs : (decide (n < 0) == decide (k < 0)) = true := by rw [decide_eq_false (p := n < 0) (by omega), decide_eq_false (p := k < 0) (by omega)]; rfl
  have hq0 : 0 ≤ (max n (-n)) * (max k (-k)) / d := Int.ediv_nonneg (Int.mul_nonneg (by omega) (by omega)) (by omega)
  have hF : n * k / d = (max n (-n)) * (max k (-k)) / d := by rw [hp]
  have Ha := Lib.hid ha
  have Hb := Lib.hid hb
  by_cases hq : (max n (-n)) * (max k (-k)) / d ≤ 1000000000000
  · have HM := Lib.hid (md_ok (A := (max n (-n))) (B := (max k (-k))) (d := d) (by omega) (by omega) (by omega) (by omega) x1 x2 hq)
    have HR := Lib.hid (of_ok ha hb hF ⟨by omega, hq⟩)
    generalize (max n (-n)) * (max k (-k)) / d = q at *
    clear ha hb hp hF
    go_enter Try.func22, Try.ntmps22
    go_wp2_with fail
    refine (valid_any n d _).mono ?_
    rintro e w1 ⟨rfl, g1⟩
    rw [Ha.out]
    obtain ⟨s1, s2, s3, s4, s5⟩ := Gr.new2 g1
    have G := Gr.trans ((Grown.refl _).alloc _ _) g1
    clear g1
    go_wp2_with fail
    refine (Num.valid_any k _).mono ?_
    rintro e w2 ⟨rfl, rfl⟩
    rw [Hb.out]
    go_wp2_with fail
    refine (Num.mulDiv_any (max n (-n)) (max k (-k)) d _).mono ?_
    rintro e w3 ⟨rfl, nn, rfl⟩
    unfold Num.pair
    rw [HM.out.1, HM.out.2]
    go_wp2_with fail
    go_ret2
    exact ⟨by rw [HR.out.1, HR.out.2]; rfl, G⟩
  · have HM := Lib.hid (md_no (A := (max n (-n))) (B := (max k (-k))) (d := d) (by omega) (by omega) (by omega) (by omega) x1 x2 hq)
    have HR := Lib.hid (of_over (d := d) ha hb (by omega))
    clear ha hb hp hF hq hq0
    go_enter Try.func22, Try.ntmps22
    go_wp2_with fail
    refine (valid_any n d _).mono ?_
    rintro e w1 ⟨rfl, g1⟩
    rw [Ha.out]
    obtain ⟨s1, s2, s3, s4, s5⟩ := Gr.new2 g1
    have G := Gr.trans ((Grown.refl _).alloc _ _) g1
    clear g1
    go_wp2_with fail
    refine (Num.valid_any k _).mono ?_
    rintro e w2 ⟨rfl, rfl⟩
    rw [Hb.out]
    go_wp2_with fail
    refine (Num.mulDiv_any (max n (-n)) (max k (-k)) d _).mono ?_
    rintro e w3 ⟨rfl, nn, rfl⟩
    unfold Num.pair
    rw [HM.out.1, HM.out.2]
    go_wp2_with fail
    go_ret2
    exact ⟨by rw [HR.out.1, HR.out.2]; rfl, G⟩

theorem of_pm (n d k : Int) (ha : vr n d = true) (hb : Num.vld k = true) (hn : 0 ≤ n) (hk : k < 0) (w : World) : Ofs 22 n d k w := by
  obtain ⟨x1, x2, x3, x4, _⟩ := vr_true ha
  have y1 := Num.vld_true hb
  obtain ⟨y1, y2⟩ := y1
  have hp : (max n (-n)) * (max k (-k)) = -(n * k) := by rw [show max n (-n) = n by omega, show max k (-k) = (-k) by omega]; exact Int.mul_neg n k
  have e0 : ((d : Int) == 0) = false := by simp; omega
  have hs : (decide (n < 0) == decide (k < 0)) = false := by rw [decide_eq_false (p := n < 0) (by omega), decide_eq_true (p := k < 0) (by omega)]; rfl
  have hq0 : 0 ≤ (max n (-n)) * (max k (-k)) / d := Int.ediv_nonneg (Int.mul_nonneg (by omega) (by omega)) (by omega)
  have hF : n * k / d = if (max n (-n)) * (max k (-k)) % d = 0 then -((max n (-n)) * (max k (-k)) / d) else -((max n (-n)) * (max k (-k)) / d) - 1 := by rw [show n * k = -((max n (-n)) * (max k (-k))) by rw [hp, Int.neg_neg]]; exact neg_ediv_pos (by omega)
  have Ha := Lib.hid ha
  have Hb := Lib.hid hb
  by_cases hq : (max n (-n)) * (max k (-k)) / d ≤ 1000000000000
  · have HM := Lib.hid (md_ok (A := (max n (-n))) (B := (max k (-k))) (d := d) (by omega) (by omega) (by omega) (by omega) x1 x2 hq)
    have hrem := rem_iff (A := (max n (-n))) (B := (max k (-k))) ha (.inr hp)
    by_cases hr : k.tmod d = 0
    · rw [if_pos (hrem.2 hr)] at hF
      have HR := Lib.hid (of_ok ha hb hF ⟨by omega, by omega⟩)
      have hr2 : ((k.tmod d : Int) != 0) = false := by simpa using hr
      have hr3 : ((k % d : Int) != 0) = false := by rw [bne_eq_false_iff_eq]; exact Int.emod_eq_zero_of_dvd (Int.dvd_of_tmod_eq_zero hr)
      generalize (max n (-n)) * (max k (-k)) / d = q at *
      clear ha hb hp hF hrem hr
      go_enter Try.func22, Try.ntmps22
      go_wp2_with fail
      refine (valid_any n d _).mono ?_
      rintro e w1 ⟨rfl, g1⟩
      rw [Ha.out]
      obtain ⟨s1, s2, s3, s4, s5⟩ := Gr.new2 g1
      have G := Gr.trans ((Grown.refl _).alloc _ _) g1
      clear g1
      go_wp2_with fail
      refine (Num.valid_any k _).mono ?_
      rintro e w2 ⟨rfl, rfl⟩
      rw [Hb.out]
      go_wp2_with fail
      refine (Num.mulDiv_any (max n (-n)) (max k (-k)) d _).mono ?_
      rintro e w3 ⟨rfl, nn, rfl⟩
      unfold Num.pair
      rw [HM.out.1, HM.out.2]
      go_wp2_with fail
      go_ret2
      exact ⟨by rw [HR.out.1, HR.out.2]; rfl, G⟩
    · rw [if_neg (fun e => hr (hrem.1 e))] at hF
      have HR := Lib.hid (of_sub ha hb hF ⟨hq0, hq⟩)
      have hr2 : ((k.tmod d : Int) != 0) = true := by simpa using hr
      have hr3 : ((k % d : Int) != 0) = true := by simpa using (fun e => hr (Int.tmod_eq_zero_of_dvd (Int.dvd_of_emod_eq_zero e)))
      generalize (max n (-n)) * (max k (-k)) / d = q at *
      clear ha hb hp hF hrem hr
      go_enter Try.func22, Try.ntmps22
      go_wp2_with fail
      refine (valid_any n d _).mono ?_
      rintro e w1 ⟨rfl, g1⟩
      rw [Ha.out]
      obtain ⟨s1, s2, s3, s4, s5⟩ := Gr.new2 g1
      have G := Gr.trans ((Grown.refl _).alloc _ _) g1
      clear g1
      go_wp2_with fail
      refine (Num.valid_any k _).mono ?_
      rintro e w2 ⟨rfl, rfl⟩
      rw [Hb.out]
      go_wp2_with fail
      refine (Num.mulDiv_any (max n (-n)) (max k (-k)) d _).mono ?_
      rintro e w3 ⟨rfl, nn, rfl⟩
      unfold Num.pair
      rw [HM.out.1, HM.out.2]
      go_wp2_with fail
      refine (Num.sub_any (-q) 1 _).mono ?_
      rintro e w4 ⟨rfl, rfl⟩
      unfold Num.pair
      go_wp2_with fail
      go_ret2
      exact ⟨by rw [HR.out.1, HR.out.2]; rfl, G⟩
  · have HM := Lib.hid (md_no (A := (max n (-n))) (B := (max k (-k))) (d := d) (by omega) (by omega) (by omega) (by omega) x1 x2 hq)
    have HR := Lib.hid (of_over (d := d) ha hb (by rw [hF]; split <;> omega))
    clear ha hb hp hF hq hq0
    go_enter Try.func22, Try.ntmps22
    go_wp2_with fail
    refine (valid_any n d _).mono ?_
    rintro e w1 ⟨rfl, g1⟩
    rw [Ha.out]
    obtain ⟨s1, s2, s3, s4, s5⟩ := Gr.new2 g1
    have G := Gr.trans ((Grown.refl _).alloc _ _) g1
    clear g1
    go_wp2_with fail
    refine (Num.valid_any k _).mono ?_
    rintro e w2 ⟨rfl, rfl⟩
    rw [Hb.out]
    go_wp2_with fail
    refine (Num.mulDiv_any (max n (-n)) (max k (-k)) d _).mono ?_
    rintro e w3 ⟨rfl, nn, rfl⟩
    unfold Num.pair
    rw [HM.out.1, HM.out.2]
    go_wp2_with fail
    go_ret2
    exact ⟨by rw [HR.out.1, HR.out.2]; rfl, G⟩

theorem of_mp (n d k : Int) (ha : vr n d = true) (hb : Num.vld k = true) (hn : n < 0) (hk : 0 ≤ k) (w : World) : Ofs 22 n d k w := by
  obtain ⟨x1, x2, x3, x4, _⟩ := vr_true ha
  have y1 := Num.vld_true hb
  obtain ⟨y1, y2⟩ := y1
  have hp : (max n (-n)) * (max k (-k)) = -(n * k) := by rw [show max n (-n) = (-n) by omega, show max k (-k) = k by omega]; exact Int.neg_mul n k
  have e0 : ((d : Int) == 0) = false := by simp; omega
  have hs : (decide (n < 0) == decide (k < 0)) = false := by rw [decide_eq_true (p := n < 0) (by omega), decide_eq_false (p := k < 0) (by omega)]; rfl
  have hq0 : 0 ≤ (max n (-n)) * (max k (-k)) / d := Int.ediv_nonneg (Int.mul_nonneg (by omega) (by omega)) (by omega)
  have hF : n * k / d = if (max n (-n)) * (max k (-k)) % d = 0 then -((max n (-n)) * (max k (-k)) / d) else -((max n (-n)) * (max k (-k)) / d) - 1 := by rw [show n * k = -((max n (-n)) * (max k (-k))) by rw [hp, Int.neg_neg]]; exact neg_ediv_pos (by omega)
  have Ha := Lib.hid ha
  have Hb := Lib.hid hb
  by_cases hq : (max n (-n)) * (max k (-k)) / d ≤ 1000000000000
  · have HM := Lib.hid (md_ok (A := (max n (-n))) (B := (max k (-k))) (d := d) (by omega) (by omega) (by omega) (by omega) x1 x2 hq)
    have hrem := rem_iff (A := (max n (-n))) (B := (max k (-k))) ha (.inr hp)
    by_cases hr : k.tmod d = 0
    · rw [if_pos (hrem.2 hr)] at hF
      have HR := Lib.hid (of_ok ha hb hF ⟨by omega, by omega⟩)
      have hr2 : ((k.tmod d : Int) != 0) = false := by simpa using hr
      have hr3 : ((k % d : Int) != 0) = false := by rw [bne_eq_false_iff_eq]; exact Int.emod_eq_zero_of_dvd (Int.dvd_of_tmod_eq_zero hr)
      generalize (max n (-n)) * (max k (-k)) / d = q at *
      clear ha hb hp hF hrem hr
      go_enter Try.func22, Try.ntmps22
      go_wp2_with fail
      refine (valid_any n d _).mono ?_
      rintro e w1 ⟨rfl, g1⟩
      rw [Ha.out]
      obtain ⟨s1, s2, s3, s4, s5⟩ := Gr.new2 g1
      have G := Gr.trans ((Grown.refl _).alloc _ _) g1
      clear g1
      go_wp2_with fail
      refine (Num.valid_any k _).mono ?_
      rintro e w2 ⟨rfl, rfl⟩
      rw [Hb.out]
      go_wp2_with fail
      refine (Num.mulDiv_any (max n (-n)) (max k (-k)) d _).mono ?_
      rintro e w3 ⟨rfl, nn, rfl⟩
      unfold Num.pair
      rw [HM.out.1, HM.out.2]
      go_wp2_with fail
      go_ret2
      exact ⟨by rw [HR.out.1, HR.out.2]; rfl, G⟩
    · rw [if_neg (fun e => hr (hrem.1 e))] at hF
      have HR := Lib.hid (of_sub ha hb hF ⟨hq0, hq⟩)
      have hr2 : ((k.tmod d : Int) != 0) = true := by simpa using hr
      have hr3 : ((k % d : Int) != 0) = true := by simpa using (fun e => hr (Int.tmod_eq_zero_of_dvd (Int.dvd_of_emod_eq_zero e)))
      generalize (max n (-n)) * (max k (-k)) / d = q at *
      clear ha hb hp hF hrem hr
      go_enter Try.func22, Try.ntmps22
      go_wp2_with fail
      refine (valid_any n d _).mono ?_
      rintro e w1 ⟨rfl, g1⟩
      rw [Ha.out]
      obtain ⟨s1, s2, s3, s4, s5⟩ := Gr.new2 g1
      have G := Gr.trans ((Grown.refl _).alloc _ _) g1
      clear g1
      go_wp2_with fail
      refine (Num.valid_any k _).mono ?_
      rintro e w2 ⟨rfl, rfl⟩
      rw [Hb.out]
      go_wp2_with fail
      refine (Num.mulDiv_any (max n (-n)) (max k (-k)) d _).mono ?_
      rintro e w3 ⟨rfl, nn, rfl⟩
      unfold Num.pair
      rw [HM.out.1, HM.out.2]
      go_wp2_with fail
      refine (Num.sub_any (-q) 1 _).mono ?_
      rintro e w4 ⟨rfl, rfl⟩
      unfold Num.pair
      go_wp2_with fail
      go_ret2
      exact ⟨by rw [HR.out.1, HR.out.2]; rfl, G⟩
  · have HM := Lib.hid (md_no (A := (max n (-n))) (B := (max k (-k))) (d := d) (by omega) (by omega) (by omega) (by omega) x1 x2 hq)
    have HR := Lib.hid (of_over (d := d) ha hb (by rw [hF]; split <;> omega))
    clear ha hb hp hF hq hq0
    go_enter Try.func22, Try.ntmps22
    go_wp2_with fail
    refine (valid_any n d _).mono ?_
    rintro e w1 ⟨rfl, g1⟩
    rw [Ha.out]
    obtain ⟨s1, s2, s3, s4, s5⟩ := Gr.new2 g1
    have G := Gr.trans ((Grown.refl _).alloc _ _) g1
    clear g1
    go_wp2_with fail
    refine (Num.valid_any k _).mono ?_
    rintro e w2 ⟨rfl, rfl⟩
    rw [Hb.out]
    go_wp2_with fail
    refine (Num.mulDiv_any (max n (-n)) (max k (-k)) d _).mono ?_
    rintro e w3 ⟨rfl, nn, rfl⟩
    unfold Num.pair
    rw [HM.out.1, HM.out.2]
    go_wp2_with fail
    go_ret2
    exact ⟨by rw [HR.out.1, HR.out.2]; rfl, G⟩

theorem of_mm (n d k : Int) (ha : vr n d = true) (hb : Num.vld k = true) (hn : n < 0) (hk : k < 0) (w : World) : Ofs 22 n d k w := by
  obtain ⟨x1, x2, x3, x4, _⟩ := vr_true ha
  have y1 := Num.vld_true hb
  obtain ⟨y1, y2⟩ := y1
  have hp : (max n (-n)) * (max k (-k)) = (n * k) := by rw [show max n (-n) = (-n) by omega, show max k (-k) = (-k) by omega]; exact Int.neg_mul_neg n k
  have e0 : ((d : Int) == 0) = false := by simp; omega
  have hs : (decide (n < 0) == decide (k < 0)) = true := by rw [decide_eq_true (p := n < 0) (by omega), decide_eq_true (p := k < 0) (by omega)]; rfl
  have hq0 : 0 ≤ (max n (-n)) * (max k (-k)) / d := Int.ediv_nonneg (Int.mul_nonneg (by omega) (by omega)) (by omega)
  have hF : n * k / d = (max n (-n)) * (max k (-k)) / d := by rw [hp]
  have Ha := Lib.hid ha
  have Hb := Lib.hid hb
  by_cases hq : (max n (-n)) * (max k (-k)) / d ≤ 1000000000000
  · have HM := Lib.hid (md_ok (A := (max n (-n))) (B := (max k (-k))) (d := d) (by omega) (by omega) (by omega) (by omega) x1 x2 hq)
    have HR := Lib.hid (of_ok ha hb hF ⟨by omega, hq⟩)
    generalize (max n (-n)) * (max k (-k)) / d = q at *
    clear ha hb hp hF
    go_enter Try.func22, Try.ntmps22
    go_wp2_with fail
    refine (valid_any n d _).mono ?_
    rintro e w1 ⟨rfl, g1⟩
    rw [Ha.out]
    obtain ⟨s1, s2, s3, s4, s5⟩ := Gr.new2 g1
    have G := Gr.trans ((Grown.refl _).alloc _ _) g1
    clear g1
    go_wp2_with fail
    refine (Num.valid_any k _).mono ?_
    rintro e w2 ⟨rfl, rfl⟩
    rw [Hb.out]
    go_wp2_with fail
    refine (Num.mulDiv_any (max n (-n)) (max k (-k)) d _).mono ?_
    rintro e w3 ⟨rfl, nn, rfl⟩
    unfold Num.pair
    rw [HM.out.1, HM.out.2]
    go_wp2_with fail
    go_ret2
    exact ⟨by rw [HR.out.1, HR.out.2]; rfl, G⟩
  · have HM := Lib.hid (md_no (A := (max n (-n))) (B := (max k (-k))) (d := d) (by omega) (by omega) (by omega) (by omega) x1 x2 hq)
    have HR := Lib.hid (of_over (d := d) ha hb (by omega))
    clear ha hb hp hF hq hq0
    go_enter Try.func22, Try.ntmps22
    go_wp2_with fail
    refine (valid_any n d _).mono ?_
    rintro e w1 ⟨rfl, g1⟩
    rw [Ha.out]
    obtain ⟨s1, s2, s3, s4, s5⟩ := Gr.new2 g1
    have G := Gr.trans ((Grown.refl _).alloc _ _) g1
    clear g1
    go_wp2_with fail
    refine (Num.valid_any k _).mono ?_
    rintro e w2 ⟨rfl, rfl⟩
    rw [Hb.out]
    go_wp2_with fail
    refine (Num.mulDiv_any (max n (-n)) (max k (-k)) d _).mono ?_
    rintro e w3 ⟨rfl, nn, rfl⟩
    unfold Num.pair
    rw [HM.out.1, HM.out.2]
    go_wp2_with fail
    go_ret2
    exact ⟨by rw [HR.out.1, HR.out.2]; rfl, G⟩

theorem of_any (n d k : Int) (w : World) : Ofs 22 n d k w := by
  cases h : (vr n d && Num.vld k)
  · exact of_out n d k h w
  · obtain ⟨ha, hb⟩ : vr n d = true ∧ Num.vld k = true := by simpa using h
    by_cases hn : 0 ≤ n
    · by_cases hk : 0 ≤ k
      · exact of_pp n d k ha hb hn hk w
      · exact of_pm n d k ha hb hn (by omega) w
    · by_cases hk : 0 ≤ k
      · exact of_mp n d k ha hb (by omega) hk w
      · exact of_mm n d k ha hb (by omega) (by omega) w

end Rat2
end Go.Proofs.Ytghcbicapcpmlaa
