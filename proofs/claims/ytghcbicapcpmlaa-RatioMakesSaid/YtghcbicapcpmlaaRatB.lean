/-
  Contracts of what brings a fraction to lowest terms.
-/
import Derived.Test.YtghcbicapcpmlaaRatA
import Derived.RegionTactic
import Derived.ChangeAlike
namespace Go.Proofs.Ytghcbicapcpmlaa
open Go.RowKit
namespace Rat2

/-- A ratio and an error. -/
abbrev pr (n d e : Int) : Ending := .returned (.tuple #[rv n d, .int .i64 e])

theorem Calls.grown {P : Program} {f : Nat} {args : Array Value} {w : World} {E : Ending → Prop} (h : Calls P f args w fun e w' => E e ∧ w' = w) : Calls P f args w fun e w' => E e ∧ Grown w w' :=
  h.mono fun _ _ ⟨he, hw⟩ => ⟨he, hw ▸ Grown.refl _⟩
theorem reduce_pos (n d x y : Int) (b : Bool) (h1 : -4000000000000000000 ≤ n) (h2 : n ≤ 4000000000000000000) (h3 : 0 < d) (h4 : d ≤ 4000000000000000000)
    (hx : Hid (n.tdiv (gcd n d) = x)) (hy : Hid (d.tdiv (gcd n d) = y)) (hxf : fits x) (hyf : fits y) (hb : Hid (vr x y = b)) (w : World) :
    Calls Try.prog 35 #[.int .i64 n, .int .i64 d] w fun e w' => e = pr (if b then x else 0) (if b then y else 0) (if b then 0 else 8) ∧ Grown w w' := by
  have hg1 := gcd_pos (a := n) (b := d) (by omega)
  have hg2 := gcd_le (a := n) h3
  go_enter Try.func35, Try.ntmps35
  go_wp2_with fail
  refine (divisor_any n d (by unfold gcdI; omega) _).mono ?_
  rintro e w1 ⟨rfl, g1⟩
  generalize gcd n d = g at *
  obtain ⟨a0, a1, f0, f1, z1⟩ := Gr.new2 g1
  have e0 : ((g : Int) == 0) = false := by simp; omega
  have e1 : IntKind.i64.wrap (n.tdiv g) = x := by rw [hx.out]; exact IntWalk.i64_in _ hxf
  have e2 : IntKind.i64.wrap (d.tdiv g) = y := by rw [hy.out]; exact IntWalk.i64_in _ hyf
  go_wp2_with fail
  go_region
  clear e0 e1 e2
  go_wp2_with fail
  refine (valid_any x y _).mono ?_
  rintro e w2 ⟨rfl, g2⟩
  have g2' : Grown (w1.alloc (.cells #[.int .i64 x, .int .i64 y] 23)) w2 := g2
  obtain ⟨k0, k1, _, _, z2⟩ := Gr.new2 g2'
  have g3 : Grown w1 w2 := Gr.trans ((Grown.refl _).alloc _ _) g2'
  have A0 := Gr.old g3 z1 a0
  have A1 := Gr.old g3 z1 a1
  have F0 := Gr.oldF g3 f0
  have F1 := Gr.oldF g3 f1
  clear a0 a1 f0 f1
  rw [hb.out]
  have G : Grown w w2 := Gr.trans (Gr.trans ((Grown.refl _).alloc _ _) g1) g3
  clear g1 g2 g2' g3 hx hy hb
  cases b
  · go_wp2_with fail
    exact bodyPost_ret (v := .tuple #[rv 0 0, .int .i64 8]) (by simp [results, Try.results35, go_sem, A0, A1]) rfl ⟨rfl, (G.setCell (Nat.le_refl _) _).setCell (Nat.le_refl _) _⟩
  · go_wp2_with fail
    exact bodyPost_ret (v := .tuple #[rv x y, .int .i64 0]) (by simp [results, Try.results35, go_sem, A0, A1]) rfl ⟨rfl, (G.setCell (Nat.le_refl _) _).setCell (Nat.le_refl _) _⟩
theorem reduce_neg (n d x y : Int) (b : Bool) (h1 : -4000000000000000000 ≤ n) (h2 : n ≤ 4000000000000000000) (h3 : -4000000000000000000 ≤ d) (h4 : d < 0)
    (hx : Hid (-(n.tdiv (gcd n d)) = x)) (hy : Hid (-(d.tdiv (gcd n d)) = y)) (hxf : fits x) (hyf : fits y) (hb : Hid (vr x y = b)) (w : World) :
    Calls Try.prog 35 #[.int .i64 n, .int .i64 d] w fun e w' => e = pr (if b then x else 0) (if b then y else 0) (if b then 0 else 8) ∧ Grown w w' := by
  have hg1 := gcd_pos (a := n) (b := d) (by omega)
  have hg2 : gcd n d ≤ 4000000000000000000 := by have := gcd_le (a := n) (b := -d) (by omega); rw [gcd_neg2] at this; omega
  go_enter Try.func35, Try.ntmps35
  go_wp2_with fail
  refine (divisor_any n d (by unfold gcdI; omega) _).mono ?_
  rintro e w1 ⟨rfl, g1⟩
  generalize gcd n d = g at *
  obtain ⟨a0, a1, f0, f1, z1⟩ := Gr.new2 g1
  have e0 : ((g : Int) == 0) = false := by simp; omega
  have e3 : ((-g : Int) == 0) = false := by simp; omega
  have e1 : IntKind.i64.wrap (-(n.tdiv g)) = x := by rw [hx.out]; exact IntWalk.i64_in _ hxf
  have e2 : IntKind.i64.wrap (-(d.tdiv g)) = y := by rw [hy.out]; exact IntWalk.i64_in _ hyf
  go_wp2_with fail
  go_region
  clear e0 e1 e2 e3
  go_wp2_with fail
  refine (valid_any x y _).mono ?_
  rintro e w2 ⟨rfl, g2⟩
  have g2' : Grown (w1.alloc (.cells #[.int .i64 x, .int .i64 y] 23)) w2 := g2
  obtain ⟨k0, k1, _, _, z2⟩ := Gr.new2 g2'
  have g3 : Grown w1 w2 := Gr.trans ((Grown.refl _).alloc _ _) g2'
  have A0 := Gr.old g3 z1 a0
  have A1 := Gr.old g3 z1 a1
  have F0 := Gr.oldF g3 f0
  have F1 := Gr.oldF g3 f1
  clear a0 a1 f0 f1
  rw [hb.out]
  have G : Grown w w2 := Gr.trans (Gr.trans ((Grown.refl _).alloc _ _) g1) g3
  clear g1 g2 g2' g3 hx hy hb
  cases b
  · go_wp2_with fail
    exact bodyPost_ret (v := .tuple #[rv 0 0, .int .i64 8]) (by simp [results, Try.results35, go_sem, A0, A1]) rfl ⟨rfl, (G.setCell (Nat.le_refl _) _).setCell (Nat.le_refl _) _⟩
  · go_wp2_with fail
    exact bodyPost_ret (v := .tuple #[rv x y, .int .i64 0]) (by simp [results, Try.results35, go_sem, A0, A1]) rfl ⟨rfl, (G.setCell (Nat.le_refl _) _).setCell (Nat.le_refl _) _⟩
theorem reduce_any (n d : Int) (h1 : -4000000000000000000 ≤ n) (h2 : n ≤ 4000000000000000000) (h3 : -4000000000000000000 ≤ d) (h4 : d ≤ 4000000000000000000) (hd : d ≠ 0) (w : World) :
    Calls Try.prog 35 #[.int .i64 n, .int .i64 d] w fun e w' => e = pr (redN n d) (redD n d) (redE n d) ∧ Grown w w' := by
  have hl := low_bd hd h1 h2 h3 h4
  by_cases h : d < 0
  · refine reduce_neg n d (lowN n d) (lowD n d) _ h1 h2 h3 h (Lib.hid ?_) (Lib.hid ?_) ?_ ?_ (Lib.hid rfl) w
    · rw [← lowN_code (n := n) (d := d), if_pos h, Int.tdiv_neg]
    · rw [← lowD_code (n := n) (d := d), if_pos h, Int.tdiv_neg]
    · unfold fits; omega
    · unfold fits; omega
  · refine reduce_pos n d (lowN n d) (lowD n d) _ h1 h2 (by omega) h4 (Lib.hid ?_) (Lib.hid ?_) ?_ ?_ (Lib.hid rfl) w
    · rw [← lowN_code (n := n) (d := d), if_neg h]
    · rw [← lowD_code (n := n) (d := d), if_neg h]
    · unfold fits; omega
    · unfold fits; omega

theorem rreduced_pos (n d x y : Int) (b : Bool) (h1 : -4000000000000000000 ≤ n) (h2 : n ≤ 4000000000000000000) (h3 : 0 < d) (h4 : d ≤ 4000000000000000000)
    (hx : Hid (n.tdiv (gcd n d) = x)) (hy : Hid (d.tdiv (gcd n d) = y)) (hxf : fits x) (hyf : fits y) (hb : Hid (vr x y = b)) (w : World) :
    Calls Try.prog 37 #[.int .i64 n, .int .i64 d] w fun e w' => e = pr (if b then x else 0) (if b then y else 0) (if b then 0 else 8) ∧ Grown w w' := by
  have hg1 := gcd_pos (a := n) (b := d) (by omega)
  obtain ⟨m, hm⟩ : ∃ m, (if n < 0 then -n else n) = m := ⟨_, rfl⟩
  have hm1 : 0 ≤ m := by rw [← hm]; split <;> omega
  have hm2 : m ≤ 4000000000000000000 := by rw [← hm]; split <;> omega
  have hgm : gcd m d = gcd n d := by rw [← hm, gcd_abs]
  have hg2 : gcd n d ≤ 4000000000000000000 := by have := gcd_le (a := m) (b := d) (by omega); rw [hgm] at this; omega
  have HA : Hid (∀ wx, Calls Try.prog 40 #[.int .i64 n] wx fun e w' => e = .returned (.int .i64 m) ∧ w' = wx) := Lib.hid fun wx => hm ▸ ramt_any n (by omega) (by omega) wx
  have HD : Hid (∀ wx, Calls Try.prog 39 #[.int .i64 m, .int .i64 d] wx fun e w' => e = .returned (.int .i64 (gcd n d)) ∧ Grown wx w') := Lib.hid fun wx => hgm ▸ (Calls.grown (rdivisor_any m d hm1 (by unfold gcdI; omega) (by omega) wx))
  clear hm hgm
  go_enter Try.func37, Try.ntmps37
  go_wp2_with (first | (go_at_call 40; refine (HA.out _).mono ?_; rintro e w' ⟨rfl, rfl⟩) | (go_at_call 39; refine (HD.out _).mono ?_; rintro e w1 ⟨rfl, g1⟩))
  generalize gcd n d = g at *
  obtain ⟨a0, a1, f0, f1, z1⟩ := Gr.new2 g1
  have e0 : ((g : Int) == 0) = false := by simp; omega
  have e1 : IntKind.i64.wrap (n.tdiv g) = x := by rw [hx.out]; exact IntWalk.i64_in _ hxf
  have e2 : IntKind.i64.wrap (d.tdiv g) = y := by rw [hy.out]; exact IntWalk.i64_in _ hyf
  go_wp2_with fail
  go_region
  clear e0 e1 e2
  go_wp2_with fail
  refine (rvalid_any x y _).mono ?_
  rintro e w2 ⟨rfl, g2⟩
  have g2' : Grown (w1.alloc (.cells #[.int .i64 x, .int .i64 y] 23)) w2 := g2
  obtain ⟨k0, k1, _, _, z2⟩ := Gr.new2 g2'
  have g3 : Grown w1 w2 := Gr.trans ((Grown.refl _).alloc _ _) g2'
  have A0 := Gr.old g3 z1 a0
  have A1 := Gr.old g3 z1 a1
  have F0 := Gr.oldF g3 f0
  have F1 := Gr.oldF g3 f1
  clear a0 a1 f0 f1
  rw [hb.out]
  have G : Grown w w2 := Gr.trans (Gr.trans ((Grown.refl _).alloc _ _) g1) g3
  clear g1 g2 g2' g3 hx hy hb
  cases b
  · go_wp2_with fail
    exact bodyPost_ret (v := .tuple #[rv 0 0, .int .i64 8]) (by simp [results, Try.results37, go_sem, A0, A1]) rfl ⟨rfl, (G.setCell (Nat.le_refl _) _).setCell (Nat.le_refl _) _⟩
  · go_wp2_with fail
    exact bodyPost_ret (v := .tuple #[rv x y, .int .i64 0]) (by simp [results, Try.results37, go_sem, A0, A1]) rfl ⟨rfl, (G.setCell (Nat.le_refl _) _).setCell (Nat.le_refl _) _⟩

theorem rreduced_neg (n d x y : Int) (b : Bool) (h1 : -4000000000000000000 ≤ n) (h2 : n ≤ 4000000000000000000) (h3 : -4000000000000000000 ≤ d) (h4 : d < 0)
    (hx : Hid (-(n.tdiv (gcd n d)) = x)) (hy : Hid (-(d.tdiv (gcd n d)) = y)) (hxf : fits x) (hyf : fits y) (hb : Hid (vr x y = b)) (w : World) :
    Calls Try.prog 37 #[.int .i64 n, .int .i64 d] w fun e w' => e = pr (if b then x else 0) (if b then y else 0) (if b then 0 else 8) ∧ Grown w w' := by
  have hg1 := gcd_pos (a := n) (b := d) (by omega)
  obtain ⟨m, hm⟩ : ∃ m, (if (-n) < 0 then -(-n) else (-n)) = m := ⟨_, rfl⟩
  have hm1 : 0 ≤ m := by rw [← hm]; split <;> omega
  have hm2 : m ≤ 4000000000000000000 := by rw [← hm]; split <;> omega
  have hgm : gcd m (-d) = gcd n d := by rw [← hm, gcd_abs]; rw [gcd_neg, gcd_neg2]
  have hg2 : gcd n d ≤ 4000000000000000000 := by have := gcd_le (a := m) (b := (-d)) (by omega); rw [hgm] at this; omega
  have HA : Hid (∀ wx, Calls Try.prog 40 #[.int .i64 (-n)] wx fun e w' => e = .returned (.int .i64 m) ∧ w' = wx) := Lib.hid fun wx => hm ▸ ramt_any (-n) (by omega) (by omega) wx
  have HD : Hid (∀ wx, Calls Try.prog 39 #[.int .i64 m, .int .i64 (-d)] wx fun e w' => e = .returned (.int .i64 (gcd n d)) ∧ Grown wx w') := Lib.hid fun wx => hgm ▸ (Calls.grown (rdivisor_any m (-d) hm1 (by unfold gcdI; omega) (by omega) wx))
  clear hm hgm
  go_enter Try.func37, Try.ntmps37
  go_wp2_with (first | (go_at_call 40; refine (HA.out _).mono ?_; rintro e w' ⟨rfl, rfl⟩) | (go_at_call 39; refine (HD.out _).mono ?_; rintro e w1 ⟨rfl, g1⟩))
  generalize gcd n d = g at *
  obtain ⟨a0, a1, f0, f1, z1⟩ := Gr.new2 g1
  have e0 : ((g : Int) == 0) = false := by simp; omega
  have e1 : IntKind.i64.wrap (-(n.tdiv g)) = x := by rw [hx.out]; exact IntWalk.i64_in _ hxf
  have e2 : IntKind.i64.wrap (-(d.tdiv g)) = y := by rw [hy.out]; exact IntWalk.i64_in _ hyf
  go_wp2_with fail
  go_region
  clear e0 e1 e2
  go_wp2_with fail
  refine (rvalid_any x y _).mono ?_
  rintro e w2 ⟨rfl, g2⟩
  have g2' : Grown (w1.alloc (.cells #[.int .i64 x, .int .i64 y] 23)) w2 := g2
  obtain ⟨k0, k1, _, _, z2⟩ := Gr.new2 g2'
  have g3 : Grown w1 w2 := Gr.trans ((Grown.refl _).alloc _ _) g2'
  have A0 := Gr.old g3 z1 a0
  have A1 := Gr.old g3 z1 a1
  have F0 := Gr.oldF g3 f0
  have F1 := Gr.oldF g3 f1
  clear a0 a1 f0 f1
  rw [hb.out]
  have G : Grown w w2 := Gr.trans (Gr.trans ((Grown.refl _).alloc _ _) g1) g3
  clear g1 g2 g2' g3 hx hy hb
  cases b
  · go_wp2_with fail
    exact bodyPost_ret (v := .tuple #[rv 0 0, .int .i64 8]) (by simp [results, Try.results37, go_sem, A0, A1]) rfl ⟨rfl, (G.setCell (Nat.le_refl _) _).setCell (Nat.le_refl _) _⟩
  · go_wp2_with fail
    exact bodyPost_ret (v := .tuple #[rv x y, .int .i64 0]) (by simp [results, Try.results37, go_sem, A0, A1]) rfl ⟨rfl, (G.setCell (Nat.le_refl _) _).setCell (Nat.le_refl _) _⟩

theorem rreduced_any (n d : Int) (h1 : -4000000000000000000 ≤ n) (h2 : n ≤ 4000000000000000000) (h3 : -4000000000000000000 ≤ d) (h4 : d ≤ 4000000000000000000) (hd : d ≠ 0) (w : World) :
    Calls Try.prog 37 #[.int .i64 n, .int .i64 d] w fun e w' => e = pr (redN n d) (redD n d) (redE n d) ∧ Grown w w' := by
  have hl := low_bd hd h1 h2 h3 h4
  by_cases h : d < 0
  · refine rreduced_neg n d (lowN n d) (lowD n d) _ h1 h2 h3 h (Lib.hid ?_) (Lib.hid ?_) ?_ ?_ (Lib.hid rfl) w
    · unfold lowN; rw [if_pos h, ← Int.neg_tdiv, tdiv_dvd (Int.dvd_neg.2 (gcd_dvd1 n d))]
    · unfold lowD; rw [if_pos h, ← Int.neg_tdiv, tdiv_dvd (Int.dvd_neg.2 (gcd_dvd2 n d))]
    · unfold fits; omega
    · unfold fits; omega
  · refine rreduced_pos n d (lowN n d) (lowD n d) _ h1 h2 (by omega) h4 (Lib.hid ?_) (Lib.hid ?_) ?_ ?_ (Lib.hid rfl) w
    · unfold lowN; rw [if_neg h, tdiv_dvd (gcd_dvd1 n d)]
    · unfold lowD; rw [if_neg h, tdiv_dvd (gcd_dvd2 n d)]
    · unfold fits; omega
    · unfold fits; omega

end Rat2
end Go.Proofs.Ytghcbicapcpmlaa
