/-
  Layer 6: cmpCells, CompareFunc, Cmp; the law ValueOrders.
-/
import Derived.Test.YtonlcjackbhnmaaGreatDoorVdH
import Derived.Test.YtonlcjackbhnmaaGreatDoorVdC
namespace Go.Proofs.YtonlcjackbhnmaaGreatDoor
open Go.RowKit Go.ChangeShapes Go.WideShapes
namespace Val

set_option maxRecDepth 100000 in
set_option maxHeartbeats 4000000 in
theorem cmpCells_any (xk xi xn : Int) (X : ByteArray) (yk yi yn : Int) (Y : ByteArray) (w : World) :
    Calls Tryz.prog 45 #[.agg #[.int .i64 xk, .int .i64 xi, .string X, .int .i64 xn], .agg #[.int .i64 yk, .int .i64 yi, .string Y, .int .i64 yn]] w fun e w' => e = .returned (.int .i64 (cmpC ⟨xk, xi, X.toList, xn⟩ ⟨yk, yi, Y.toList, yn⟩)) ∧ Bel w w' := by
  obtain ⟨W, hW⟩ : ∃ W, (w.alloc (.cells #[.int .i64 xk, .int .i64 xi, .string X, .int .i64 xn] 44)).alloc (.cells #[.int .i64 yk, .int .i64 yi, .string Y, .int .i64 yn] 44) = W := ⟨_, rfl⟩
  have B0 : Bel w W := by rw [← hW]; exact Bel.alloc (Bel.alloc (Bel.refl w) _) _
  obtain ⟨c1, c2, c3⟩ : W.cell? ⟨w.heap.size, 0, none⟩ = some (.int .i64 xk) ∧ W.cell? ⟨w.heap.size, 1, none⟩ = some (.int .i64 xi) ∧ W.cell? ⟨w.heap.size, 2, none⟩ = some (.string X) := by
    obtain ⟨a, b, c, -⟩ := boxC w xk xi xn X 44
    rw [← hW]
    exact ⟨(Bel.alloc (Bel.refl _) _).cell' a, (Bel.alloc (Bel.refl _) _).cell' b, (Bel.alloc (Bel.refl _) _).cell' c⟩
  obtain ⟨d1, d2, d3⟩ : W.cell? ⟨w.heap.size + 1, 0, none⟩ = some (.int .i64 yk) ∧ W.cell? ⟨w.heap.size + 1, 1, none⟩ = some (.int .i64 yi) ∧ W.cell? ⟨w.heap.size + 1, 2, none⟩ = some (.string Y) := by
    obtain ⟨a, b, c, -⟩ := boxC (w.alloc (.cells #[.int .i64 xk, .int .i64 xi, .string X, .int .i64 xn] 44)) yk yi yn Y 44
    rw [hW] at a b c
    exact ⟨by simpa using a, by simpa using b, by simpa using c⟩
  have hkeep : Hid (∀ W', Bel W W' → (W'.cell? ⟨w.heap.size, 0, none⟩ = some (.int .i64 xk) ∧ W'.cell? ⟨w.heap.size, 1, none⟩ = some (.int .i64 xi) ∧ W'.cell? ⟨w.heap.size, 2, none⟩ = some (.string X)) ∧ (W'.cell? ⟨w.heap.size + 1, 0, none⟩ = some (.int .i64 yk) ∧ W'.cell? ⟨w.heap.size + 1, 1, none⟩ = some (.int .i64 yi) ∧ W'.cell? ⟨w.heap.size + 1, 2, none⟩ = some (.string Y)) ∧ Bel W W') :=
    Lib.hid fun W' g => ⟨⟨g.cell' c1, g.cell' c2, g.cell' c3⟩, ⟨g.cell' d1, g.cell' d2, g.cell' d3⟩, g⟩
  obtain ⟨zk, hzk⟩ : ∃ z, ord xk yk = z := ⟨_, rfl⟩
  obtain ⟨zi, hzi⟩ : ∃ z, ord xi yi = z := ⟨_, rfl⟩
  obtain ⟨zs, hzs⟩ : ∃ z, words X.toList Y.toList = z := ⟨_, rfl⟩
  obtain ⟨z, hz⟩ : ∃ z, cmpC ⟨xk, xi, X.toList, xn⟩ ⟨yk, yi, Y.toList, yn⟩ = z := ⟨_, rfl⟩
  have hz2 : Hid (andThen zk (andThen zi zs) = z) := Lib.hid (by rw [← hz, ← hzk, ← hzi, ← hzs]; rfl)
  have HK := Lib.hid (cmpK_any xk yk)
  have HI := Lib.hid (cmpI_any xi yi)
  have HS := Lib.hid (cmpS_any X Y)
  rw [hzk] at HK
  rw [hzi] at HI
  rw [hzs] at HS
  rw [hz]
  have HB := Lib.hid B0
  clear hz hzk hzi hzs B0
  go_enter Tryz.func45, Tryz.ntmps45
  go_upto_region 1 with (fail)
  clear hW
  go_region_held3 (fun w' => (w'.cell? ⟨w.heap.size, 0, none⟩ = some (.int .i64 xk) ∧ w'.cell? ⟨w.heap.size, 1, none⟩ = some (.int .i64 xi) ∧ w'.cell? ⟨w.heap.size, 2, none⟩ = some (.string X)) ∧ (w'.cell? ⟨w.heap.size + 1, 0, none⟩ = some (.int .i64 yk) ∧ w'.cell? ⟨w.heap.size + 1, 1, none⟩ = some (.int .i64 yi) ∧ w'.cell? ⟨w.heap.size + 1, 2, none⟩ = some (.string Y)) ∧ Bel W w') (first | (refine hkeep.out _ ?_; ((repeat (first | exact Bel.refl _ | assumption | refine Below.drew ?_ | refine Bel.alloc ?_ _)); done))) (first | (go_at_call 74; (with_reducible refine (HK.out _).mono ?_); rintro e w' ⟨rfl, rfl⟩) | (go_at_call 75; (with_reducible refine (HI.out _).mono ?_); rintro e w' ⟨rfl, rfl⟩) | (go_at_call 76; (with_reducible refine (HS.out _).mono ?_); rintro e w' ⟨rfl, rfl⟩) | (go_at_call 73; refine (or3_any zk zi zs _ _ (World.cell?_alloc_new ..) (World.cell?_alloc_new ..) (World.cell?_alloc_new ..)).mono ?_; rintro e w' ⟨rfl, rfl⟩))
  go_wp2
  go_ret
  refine ⟨by rw [hz2.out]; rfl, HB.out.trans ?_⟩
  ((repeat (first | exact Bel.refl _ | assumption | refine Below.drew ?_ | refine Bel.alloc ?_ _)); done)
set_option maxRecDepth 100000 in
set_option maxHeartbeats 4000000 in
theorem compareFunc_any (a b : List Cel) (o1 o2 : Option Addr) (n1 c1 n2 c2 : Nat) (hn1 : n1 ≤ 10000000) (hn2 : n2 ≤ 10000000) (w : World) (hA : CArg w o1 n1 a) (hB : CArg w o2 n2 b) :
    Calls Tryz.prog 43 #[.slice o1 n1 c1, .slice o2 n2 c2, .func (.func 45) #[] #[]] w fun e w' => e = .returned (.int .i64 (lexC a b)) ∧ Bel w w' := by
  have hent : ∀ (args : Array Value) (w : World), (callFunc 45 args).run Tryz.prog w = .ok (.enter 45 args) w := fun args w => rfl
  have HA := Lib.hid hA
  have HB := Lib.hid hB
  have h1 := hA.1
  have h2 := hB.1
  obtain ⟨R, hR⟩ : ∃ R, lexC a b = R := ⟨_, rfl⟩
  rw [hR]
  have HR := Lib.hid hR
  clear hA hB hR
  go_enter Tryz.func43, Tryz.ntmps43
  go_wp2
  go_loopw [13] (fun i wr => ∃ k : Nat, i = .int .i64 (k : Int) ∧ k ≤ n1 ∧ k ≤ n2 ∧ Hid (lexC (a.drop k) (b.drop k) = R) ∧ Hid (Bel w wr)) (fun i _ => n1 - (intOf i).toNat)
  case atStart => exact ⟨0, rfl, Nat.zero_le _, Nat.zero_le _, HR, Lib.hid (Bel.refl _)⟩
  case round =>
    obtain ⟨k, rfl, hk1, hk2, hr, hb⟩ := hrel
    rename World => W0
    clear HR
    by_cases hlt : k < n1
    · have hka : k < a.length := by omega
      obtain ⟨b1, f1, rfl, hc1⟩ := (HA.out.on hb.out).2.2 (by omega)
      obtain ⟨p1, p2, p3, p4⟩ := hc1 k hka
      have hst := hr.out
      rw [List.drop_eq_getElem_cons hka] at hst
      generalize a[k] = x at *
      obtain ⟨xk, xi, xs, xn⟩ := x
      simp only at p1 p2 p3 p4
      obtain ⟨X, hX⟩ : ∃ X : ByteArray, ⟨xs.toArray⟩ = X := ⟨_, rfl⟩
      obtain rfl : xs = X.toList := by rw [← hX, tl xs]
      rw [str_back] at p3
      clear hX hc1 hr
      by_cases hlt2 : k < n2
      · have hkb : k < b.length := by omega
        obtain ⟨b2, f2, rfl, hc2⟩ := (HB.out.on hb.out).2.2 (by omega)
        obtain ⟨q1, q2, q3, q4⟩ := hc2 k hkb
        rw [List.drop_eq_getElem_cons hkb] at hst
        generalize b[k] = y at *
        obtain ⟨yk, yi, ys, yn⟩ := y
        simp only at q1 q2 q3 q4
        obtain ⟨Y, hY⟩ : ∃ Y : ByteArray, ⟨ys.toArray⟩ = Y := ⟨_, rfl⟩
        obtain rfl : ys = Y.toList := by rw [← hY, tl ys]
        rw [str_back] at q3
        clear hY hc2
        have HC := Lib.hid (cmpCells_any xk xi xn X yk yi yn Y)
        have hst2 : andThen (cmpC ⟨xk, xi, X.toList, xn⟩ ⟨yk, yi, Y.toList, yn⟩) (lexC (a.drop (k + 1)) (b.drop (k + 1))) = R := hst
        obtain ⟨z, hz⟩ : ∃ z, cmpC ⟨xk, xi, X.toList, xn⟩ ⟨yk, yi, Y.toList, yn⟩ = z := ⟨_, rfl⟩
        rw [hz] at HC hst2
        have Hst := Lib.hid hst2
        have GB := Lib.hid (Bel.alloc (Bel.alloc hb.out (.cells #[.int .i64 xk, .int .i64 xi, .string X, .int .i64 xn] 44)) (.cells #[.int .i64 yk, .int .i64 yi, .string Y, .int .i64 yn] 44))
        have Bx := Bel.alloc (Bel.refl W0) (.cells #[.int .i64 xk, .int .i64 xi, .string X, .int .i64 xn] 44)
        have q1' := Bx.cell' q1
        have q2' := Bx.cell' q2
        have q3' := Bx.cell' q3
        have q4' := Bx.cell' q4
        have dk : decide (n2 ≤ k) = false := decide_eq_false (by omega)
        clear hz hst hst2 Bx q1 q2 q3 q4
        by_cases hz0 : z = 0
        · have hr2 : Hid (lexC (a.drop (k + 1)) (b.drop (k + 1)) = R) := Lib.hid (by rw [← Hst.out, hz0]; rfl)
          have hzb : (z != 0) = false := by simpa using hz0
          subst hz0
          clear Hst
          go_wp2_with fail
          refine (HC.out _).mono ?_
          rintro e w1 ⟨rfl, g1⟩
          have G1 := Lib.hid (Bel.trans GB.out g1)
          clear g1
          go_wp2_with fail
          go_round
          case rel => exact ⟨k + 1, by go_num, by omega, by omega, hr2, G1⟩
          case measure => simp [intOf]; omega
        · have hr2 : Hid (z = R) := Lib.hid (by rw [← Hst.out, at_n hz0])
          have hzb : (z != 0) = true := by simpa using hz0
          clear Hst
          go_wp2_with fail
          refine (HC.out _).mono ?_
          rintro e w1 ⟨rfl, g1⟩
          have G1 := Lib.hid (Bel.trans GB.out g1)
          clear g1
          go_wp2_with fail
          go_ret
          exact ⟨by rw [← hr2.out]; rfl, G1.out⟩
      · obtain rfl : k = n2 := by omega
        have hr2 : Hid (R = 1) := Lib.hid (by rw [← hst, List.drop_of_length_le (show b.length ≤ k by omega)]; rfl)
        have GB := Lib.hid (Bel.alloc hb.out (.cells #[.int .i64 xk, .int .i64 xi, .string X, .int .i64 xn] 44))
        have dk : decide (k ≤ k) = true := decide_eq_true (Nat.le_refl k)
        clear hst
        go_wp2_with fail
        go_ret
        exact ⟨by rw [hr2.out]; rfl, GB.out⟩
    · obtain rfl : k = n1 := by omega
      by_cases hlt2 : k < n2
      · have hkb : k < b.length := by omega
        have hr2 : Hid (R = -1) := Lib.hid (by rw [← hr.out, List.drop_of_length_le (show a.length ≤ k by omega), List.drop_eq_getElem_cons hkb]; rfl)
        clear hr
        go_wp2
        go_ret
        exact ⟨by rw [hr2.out]; rfl, hb.out⟩
      · obtain rfl : k = n2 := by omega
        have hr2 : Hid (R = 0) := Lib.hid (by rw [← hr.out, List.drop_of_length_le (show a.length ≤ k by omega), List.drop_of_length_le (show b.length ≤ k by omega)]; rfl)
        clear hr
        go_wp2
        go_ret
        exact ⟨by rw [hr2.out]; rfl, hb.out⟩
set_option maxRecDepth 100000 in
set_option maxHeartbeats 4000000 in
theorem vcmp_yes (a b : List Cel) (v u : V) (hpa : par a = some v) (hpb : par b = some u) (hca : chk a = 0) (hcb : chk b = 0) (o1 o2 : Option Addr) (n1 c1 n2 c2 : Nat) (hn1 : n1 ≤ 1000000) (hn2 : n2 ≤ 1000000) (hsa : Shrt a) (hsb : Shrt b) (w : World) (hA : CArg w o1 n1 a) (hB : CArg w o2 n2 b) :
    Calls Tryz.prog 21 #[.slice o1 n1 c1, .slice o2 n2 c2] w fun e w' => e = .returned (.int .i64 (cmp v u)) ∧ Bel w w' := by
  have HA := Lib.hid hA
  have HB := Lib.hid hB
  have H1 := Lib.hid (vcheck_any a o1 n1 c1 hn1 hsa w hA)
  rw [hca] at H1
  have Hsa := Lib.hid hsa
  have Hsb := Lib.hid hsb
  have Hpa := Lib.hid hpa
  have Hpb := Lib.hid hpb
  have Hcb := Lib.hid hcb
  obtain ⟨z, hz⟩ : ∃ z, cmp v u = z := ⟨_, rfl⟩
  have HZ := Lib.hid ((lex_cmp v u spt0 spt0).trans hz)
  rw [hz]
  clear hA hB hca hcb hsa hsb hpa hpb hz
  go_enter Tryz.func21, Tryz.ntmps21
  go_wp2_with fail
  refine H1.out.mono ?_
  rintro e w1 ⟨rfl, g1⟩
  have G1 := Lib.hid g1
  have H2 := Lib.hid (vcheck_any b o2 n2 c2 hn2 Hsb.out w1 (HB.out.on g1))
  rw [Hcb.out] at H2
  clear g1
  go_wp2_with fail
  refine H2.out.mono ?_
  rintro e w2 ⟨rfl, g2⟩
  have G2 := Lib.hid (Bel.trans G1.out g2)
  clear g2
  go_wp2_with fail
  refine (ordering_any a v Hpa.out o1 n1 c1 hn1 Hsa.out w2 (HA.out.on G2.out)).mono ?_
  rintro e w3 ⟨⟨p3, m3, q3, rfl, hA3, hm3⟩, g3⟩
  have G3 := Lib.hid (Bel.trans G2.out g3)
  have A3 := Lib.hid hA3
  clear g3 hA3
  go_wp2_with fail
  refine (ordering_any b u Hpb.out o2 n2 c2 hn2 Hsb.out w3 (HB.out.on G3.out)).mono ?_
  rintro e w4 ⟨⟨p4, m4, q4, rfl, hA4, hm4⟩, g4⟩
  have G4 := Lib.hid (Bel.trans G3.out g4)
  have HC := Lib.hid (compareFunc_any _ _ p3 p4 m3 q3 m4 q4 (by omega) (by omega) w4 (A3.out.on g4) hA4)
  rw [HZ.out] at HC
  clear g4 hA4
  go_wp2_with fail
  refine HC.out.mono ?_
  rintro e w5 ⟨rfl, g5⟩
  go_wp2_with fail
  go_ret
  exact ⟨rfl, Bel.trans G4.out g5⟩
end Val
end Go.Proofs.YtonlcjackbhnmaaGreatDoor
