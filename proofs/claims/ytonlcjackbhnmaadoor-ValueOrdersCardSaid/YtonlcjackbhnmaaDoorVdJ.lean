/-
  Layer 6: the law ValueOrders.
-/
import Derived.Test.YtonlcjackbhnmaaDoorVdI
namespace Go.Proofs.YtonlcjackbhnmaaDoor
open Go.RowKit Go.ChangeShapes Go.WideShapes
namespace Val

/-- The law, where all three are small and valid. -/
def OrdP (a b c : List Cel) (va vb vc : V) : Prop := par a = some va ∧ par b = some vb ∧ par c = some vc ∧ chk a = 0 ∧ chk b = 0 ∧ chk c = 0
theorem par_inj {a b : List Cel} {v u : V} (h : par a = some v) (k : par b = some u) : cmp v u = 0 ↔ a = b := by
  obtain ⟨-, rfl⟩ := par_some.1 h
  obtain ⟨-, rfl⟩ := par_some.1 k
  constructor
  · intro hz
    rw [cmp_zero v u hz]
  · intro e
    rw [e] at h
    have : some v = some u := h.symm.trans k
    cases this
    exact cmp_self v
set_option maxRecDepth 100000 in
set_option maxHeartbeats 8000000 in
theorem orders_yes (a b c : List Cel) (va vb vc : V) (hp : OrdP a b c va vb vc) (oa ob oc : Option Addr) (na ca nb cb nc cc : Nat) (hsa : smallB a = true) (hsb : smallB b = true) (hsc : smallB c = true) (w : World) (hA : CArg w oa na a) (hB : CArg w ob nb b) (hC : CArg w oc nc c) :
    Calls Tryd.prog 5 #[.slice oa na ca, .slice ob nb cb, .slice oc nc cc] w fun e w' => e = .returned (.bool true) ∧ Bel w w' := by
  obtain ⟨hpa, hpb, hpc, hka, hkb, hkc⟩ := hp
  have hna : na ≤ 1000000 := by have := (small_yes hsa).1; have := hA.1; omega
  have hnb : nb ≤ 1000000 := by have := (small_yes hsb).1; have := hB.1; omega
  have hnc : nc ≤ 1000000 := by have := (small_yes hsc).1; have := hC.1; omega
  have HA := Lib.hid hA
  have HB := Lib.hid hB
  have HC := Lib.hid hC
  have SA := Lib.hid (small_any a oa na ca (by omega) w hA)
  have SB := Lib.hid (small_any b ob nb cb (by omega) w hB)
  have SC := Lib.hid (small_any c oc nc cc (by omega) w hC)
  rw [hsa] at SA
  rw [hsb] at SB
  rw [hsc] at SC
  have ha := Lib.hid (small_shrt hsa)
  have hb := Lib.hid (small_shrt hsb)
  have hc := Lib.hid (small_shrt hsc)
  have HK := Lib.hid (⟨hka, hkb, hkc⟩ : chk a = 0 ∧ chk b = 0 ∧ chk c = 0)
  have HP := Lib.hid (⟨hpa, hpb, hpc⟩ : par a = some va ∧ par b = some vb ∧ par c = some vc)
  have t1 := cmp_bd va vb
  have t2 := cmp_bd vb vc
  have t3 := cmp_tri va vb vc
  have t4 := cmp_anti va vb
  have t5 := par_inj hpa hpb
  have t6 := fun h k => cmp_zz (a := va) (b := vb) (c := vc) h k
  have E1 := Lib.hid (fun w g1 g2 => vcmp_yes a b va vb hpa hpb hka hkb oa ob na ca nb cb hna hnb ha.out hb.out w g1 g2)
  have E2 := Lib.hid (fun w g1 g2 => vcmp_yes b c vb vc hpb hpc hkb hkc ob oc nb cb nc cc hnb hnc hb.out hc.out w g1 g2)
  have E3 := Lib.hid (fun w g1 g2 => vcmp_yes a c va vc hpa hpc hka hkc oa oc na ca nc cc hna hnc ha.out hc.out w g1 g2)
  have E4 := Lib.hid (fun w g1 g2 => vcmp_yes b a vb va hpb hpa hkb hka ob oa nb cb na ca hnb hna hb.out ha.out w g1 g2)
  obtain ⟨x, hx⟩ : ∃ x, cmp va vb = x := ⟨_, rfl⟩
  obtain ⟨y, hy⟩ : ∃ y, cmp vb vc = y := ⟨_, rfl⟩
  obtain ⟨z, hz⟩ : ∃ z, cmp va vc = z := ⟨_, rfl⟩
  rw [t4] at E4
  rw [hx] at t1 t3 t5 t6 E1 E4
  rw [hy] at t2 t3 t6 E2
  rw [hz] at t3 t6 E3
  obtain ⟨S, hS⟩ : ∃ S, sameB a b = S := ⟨_, rfl⟩
  have hSx : (decide (x = 0)) = S := by
    rw [← hS]
    unfold sameB
    rw [Bool.eq_iff_iff, decide_eq_true_eq, decide_eq_true_eq]
    exact t5
  have ES := Lib.hid (fun w g1 g2 => vsame_any a b oa ob na ca nb cb hna hnb w g1 g2)
  rw [hS] at ES
  unfold Tri at t3
  have C1 := Lib.hid (fun w g => vcheck_any a oa na ca hna ha.out w g)
  have C2 := Lib.hid (fun w g => vcheck_any b ob nb cb hnb hb.out w g)
  have C3 := Lib.hid (fun w g => vcheck_any c oc nc cc hnc hc.out w g)
  rw [hka] at C1
  rw [hkb] at C2
  rw [hkc] at C3
  clear hA hB hC hsa hsb hsc hpa hpb hpc hka hkb hkc t4 t5 hx hy hz hS
  have hcase : (x = 1 ∧ S = false) ∨ (x = -1 ∧ S = false ∧ y = 1) ∨ (x = 0 ∧ S = true ∧ y = 1) ∨ (x = -1 ∧ S = false ∧ y = -1 ∧ z < 0) ∨ (x = -1 ∧ S = false ∧ y = 0 ∧ z < 0) ∨ (x = 0 ∧ S = true ∧ y = -1 ∧ z < 0) ∨ (x = 0 ∧ S = true ∧ y = 0 ∧ z = 0) := by
    rcases t1 with rfl | rfl | rfl
    · have hs : S = false := by rw [← hSx]; rfl
      rcases t2 with rfl | rfl | rfl
      · have := t3 (by omega) (by omega)
        exact Or.inr (Or.inr (Or.inr (Or.inl ⟨rfl, hs, rfl, by omega⟩)))
      · have := t3 (by omega) (by omega)
        exact Or.inr (Or.inr (Or.inr (Or.inr (Or.inl ⟨rfl, hs, rfl, by omega⟩))))
      · exact Or.inr (Or.inl ⟨rfl, hs, rfl⟩)
    · have hs : S = true := by rw [← hSx]; rfl
      rcases t2 with rfl | rfl | rfl
      · have := t3 (by omega) (by omega)
        exact Or.inr (Or.inr (Or.inr (Or.inr (Or.inr (Or.inl ⟨rfl, hs, rfl, by omega⟩)))))
      · exact Or.inr (Or.inr (Or.inr (Or.inr (Or.inr (Or.inr ⟨rfl, hs, rfl, t6 rfl rfl⟩)))))
      · exact Or.inr (Or.inr (Or.inl ⟨rfl, hs, rfl⟩))
    · exact Or.inl ⟨rfl, by rw [← hSx]; rfl⟩
  clear t1 t2 t3 t6 hSx
  go_enter Tryd.func5, Tryd.ntmps5
  go_wp2_with fail
  refine SA.out.mono ?_
  rintro e w' ⟨rfl, rfl⟩
  go_wp2_with fail
  refine SB.out.mono ?_
  rintro e w' ⟨rfl, rfl⟩
  go_wp2_with fail
  refine SC.out.mono ?_
  rintro e w' ⟨rfl, rfl⟩
  clear SA SB SC
  go_wp2_with fail
  refine (C1.out w HA.out).mono ?_
  rintro e w1 ⟨rfl, g1⟩
  have G1 := Lib.hid g1
  clear g1
  go_wp2_with fail
  refine (C2.out w1 (HB.out.on G1.out)).mono ?_
  rintro e w2 ⟨rfl, g2⟩
  have G2 := Lib.hid (Bel.trans G1.out g2)
  clear g2
  go_wp2_with fail
  refine (C3.out w2 (HC.out.on G2.out)).mono ?_
  rintro e w3 ⟨rfl, g3⟩
  have G3 := Lib.hid (Bel.trans G2.out g3)
  clear g3 C1 C2 C3
  go_wp2_with fail
  refine (E1.out w3 (HA.out.on G3.out) (HB.out.on G3.out)).mono ?_
  rintro e w4 ⟨rfl, g4⟩
  have G4 := Lib.hid (Bel.trans G3.out g4)
  clear g4
  go_wp2_with fail
  refine (E2.out w4 (HB.out.on G4.out) (HC.out.on G4.out)).mono ?_
  rintro e w5 ⟨rfl, g5⟩
  have G5 := Lib.hid (Bel.trans G4.out g5)
  clear g5
  go_wp2_with fail
  refine (E3.out w5 (HA.out.on G5.out) (HC.out.on G5.out)).mono ?_
  rintro e w6 ⟨rfl, g6⟩
  have G6 := Lib.hid (Bel.trans G5.out g6)
  clear g6
  go_wp2_with fail
  refine (E4.out w6 (HB.out.on G6.out) (HA.out.on G6.out)).mono ?_
  rintro e w7 ⟨rfl, g7⟩
  have G7 := Lib.hid (Bel.trans G6.out g7)
  have ES7 := Lib.hid (ES.out w7 (HA.out.on G7.out) (HB.out.on G7.out))
  clear g7 E1 E2 E3 E4 ES G1 G2 G3 G4 G5 G6
  rcases hcase with ⟨rfl, rfl⟩ | ⟨rfl, rfl, rfl⟩ | ⟨rfl, rfl, rfl⟩ | ⟨rfl, rfl, rfl, hz⟩ | ⟨rfl, rfl, rfl, hz⟩ | ⟨rfl, rfl, rfl, hz⟩ | ⟨rfl, rfl, rfl, rfl⟩
  all_goals
    go_wp2_with fail
    refine ES7.out.mono ?_
    rintro e w8 ⟨rfl, g8⟩
    have G8 := Lib.hid (Bel.trans G7.out g8)
    clear g8
    go_wp2_with fail
    refine (awake_any w8).mono ?_
    rintro e w9 ⟨rfl, g9⟩
    go_wp2_with fail
    go_ret
    exact ⟨rfl, Bel.trans G8.out g9⟩
set_option maxRecDepth 100000 in
set_option maxHeartbeats 8000000 in
theorem law_orders (a b c : List Cel) (oa ob oc : Option Addr) (na ca nb cb nc cc : Nat) (hna : na ≤ 4611686018427387904) (hnb : nb ≤ 4611686018427387904) (hnc : nc ≤ 4611686018427387904) (w : World) (hA : CArg w oa na a) (hB : CArg w ob nb b) (hC : CArg w oc nc c) :
    Calls Tryd.prog 5 #[.slice oa na ca, .slice ob nb cb, .slice oc nc cc] w fun e w' => e = .returned (.bool true) ∧ Bel w w' := by
  have SA := Lib.hid (small_any a oa na ca hna w hA)
  have SB := Lib.hid (small_any b ob nb cb hnb w hB)
  have SC := Lib.hid (small_any c oc nc cc hnc w hC)
  by_cases hsm : smallB a = true ∧ smallB b = true ∧ smallB c = true
  · obtain ⟨hsa, hsb, hsc⟩ := hsm
    by_cases hck : chk a = 0 ∧ chk b = 0 ∧ chk c = 0
    · obtain ⟨hka, hkb, hkc⟩ := hck
      obtain ⟨va, hpa, -⟩ := chk_ok hka
      obtain ⟨vb, hpb, -⟩ := chk_ok hkb
      obtain ⟨vc, hpc, -⟩ := chk_ok hkc
      exact orders_yes a b c va vb vc ⟨hpa, hpb, hpc, hka, hkb, hkc⟩ oa ob oc na ca nb cb nc cc hsa hsb hsc w hA hB hC
    · have HA := Lib.hid hA
      have HB := Lib.hid hB
      have HC := Lib.hid hC
      have C1 := Lib.hid (fun w g => vcheck_any a oa na ca (by have := (small_yes hsa).1; have := hA.1; omega) (small_shrt hsa) w g)
      have C2 := Lib.hid (fun w g => vcheck_any b ob nb cb (by have := (small_yes hsb).1; have := hB.1; omega) (small_shrt hsb) w g)
      have C3 := Lib.hid (fun w g => vcheck_any c oc nc cc (by have := (small_yes hsc).1; have := hC.1; omega) (small_shrt hsc) w g)
      rw [hsa] at SA
      rw [hsb] at SB
      rw [hsc] at SC
      obtain ⟨ka, hka⟩ : ∃ k, chk a = k := ⟨_, rfl⟩
      obtain ⟨kb, hkb⟩ : ∃ k, chk b = k := ⟨_, rfl⟩
      obtain ⟨kc, hkc⟩ : ∃ k, chk c = k := ⟨_, rfl⟩
      rw [hka] at C1 hck
      rw [hkb] at C2 hck
      rw [hkc] at C3 hck
      clear hA hB hC hsa hsb hsc hka hkb hkc
      by_cases h1 : ka = 0
      · subst h1
        by_cases h2 : kb = 0
        · subst h2
          have h3 : (kc != 0) = true := by simpa using fun h => hck ⟨rfl, rfl, h⟩
          clear hck
          go_enter Tryd.func5, Tryd.ntmps5
          go_wp2_with fail
          refine SA.out.mono ?_
          rintro e w' ⟨rfl, rfl⟩
          go_wp2_with fail
          refine SB.out.mono ?_
          rintro e w' ⟨rfl, rfl⟩
          go_wp2_with fail
          refine SC.out.mono ?_
          rintro e w' ⟨rfl, rfl⟩
          go_wp2_with fail
          refine (C1.out w HA.out).mono ?_
          rintro e w1 ⟨rfl, g1⟩
          have G1 := Lib.hid g1
          clear g1
          go_wp2_with fail
          refine (C2.out w1 (HB.out.on G1.out)).mono ?_
          rintro e w2 ⟨rfl, g2⟩
          have G2 := Lib.hid (Bel.trans G1.out g2)
          clear g2
          go_wp2_with fail
          refine (C3.out w2 (HC.out.on G2.out)).mono ?_
          rintro e w3 ⟨rfl, g3⟩
          have G3 := Lib.hid (Bel.trans G2.out g3)
          clear g3
          go_wp2_with fail
          refine (awake_any w3).mono ?_
          rintro e w4 ⟨rfl, g4⟩
          go_wp2_with fail
          go_ret
          exact ⟨rfl, Bel.trans G3.out g4⟩
        · have h3 : (kb != 0) = true := by simpa using h2
          clear hck
          go_enter Tryd.func5, Tryd.ntmps5
          go_wp2_with fail
          refine SA.out.mono ?_
          rintro e w' ⟨rfl, rfl⟩
          go_wp2_with fail
          refine SB.out.mono ?_
          rintro e w' ⟨rfl, rfl⟩
          go_wp2_with fail
          refine SC.out.mono ?_
          rintro e w' ⟨rfl, rfl⟩
          go_wp2_with fail
          refine (C1.out w HA.out).mono ?_
          rintro e w1 ⟨rfl, g1⟩
          have G1 := Lib.hid g1
          clear g1
          go_wp2_with fail
          refine (C2.out w1 (HB.out.on G1.out)).mono ?_
          rintro e w2 ⟨rfl, g2⟩
          have G2 := Lib.hid (Bel.trans G1.out g2)
          clear g2
          go_wp2_with fail
          refine (awake_any w2).mono ?_
          rintro e w4 ⟨rfl, g4⟩
          go_wp2_with fail
          go_ret
          exact ⟨rfl, Bel.trans G2.out g4⟩
      · have h3 : (ka != 0) = true := by simpa using h1
        clear hck
        go_enter Tryd.func5, Tryd.ntmps5
        go_wp2_with fail
        refine SA.out.mono ?_
        rintro e w' ⟨rfl, rfl⟩
        go_wp2_with fail
        refine SB.out.mono ?_
        rintro e w' ⟨rfl, rfl⟩
        go_wp2_with fail
        refine SC.out.mono ?_
        rintro e w' ⟨rfl, rfl⟩
        go_wp2_with fail
        refine (C1.out w HA.out).mono ?_
        rintro e w1 ⟨rfl, g1⟩
        have G1 := Lib.hid g1
        clear g1
        go_wp2_with fail
        refine (awake_any w1).mono ?_
        rintro e w4 ⟨rfl, g4⟩
        go_wp2_with fail
        go_ret
        exact ⟨rfl, Bel.trans G1.out g4⟩
  · obtain ⟨sa, hsa⟩ : ∃ s, smallB a = s := ⟨_, rfl⟩
    obtain ⟨sb, hsb⟩ : ∃ s, smallB b = s := ⟨_, rfl⟩
    obtain ⟨sc, hsc⟩ : ∃ s, smallB c = s := ⟨_, rfl⟩
    rw [hsa] at SA hsm
    rw [hsb] at SB hsm
    rw [hsc] at SC hsm
    clear hA hB hC hsa hsb hsc
    have hord : sa = false ∨ (sa = true ∧ sb = false) ∨ (sa = true ∧ sb = true ∧ sc = false) := by cases sa <;> cases sb <;> cases sc <;> simp_all
    clear hsm
    rcases hord with rfl | ⟨rfl, rfl⟩ | ⟨rfl, rfl, rfl⟩
    all_goals
      go_enter Tryd.func5, Tryd.ntmps5
      go_wp2_with fail
      refine SA.out.mono ?_
      rintro e w' ⟨rfl, rfl⟩
      go_wp2_with fail
      first
        | (refine (awake_any w).mono ?_)
        | (refine SB.out.mono ?_; rintro e w' ⟨rfl, rfl⟩; go_wp2_with fail; refine (awake_any w).mono ?_)
        | (refine SB.out.mono ?_; rintro e w' ⟨rfl, rfl⟩; go_wp2_with fail; refine SC.out.mono ?_; rintro e w' ⟨rfl, rfl⟩; go_wp2_with fail; refine (awake_any w).mono ?_)
      rintro e w1 ⟨rfl, g1⟩
      go_wp2_with fail
      go_ret
      exact ⟨rfl, g1⟩
end Val
end Go.Proofs.YtonlcjackbhnmaaDoor
