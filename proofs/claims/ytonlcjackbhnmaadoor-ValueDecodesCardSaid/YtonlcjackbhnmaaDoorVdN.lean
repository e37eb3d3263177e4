/-
  Layer 6, the reference: readMany, over a list.
-/
import Derived.Test.YtonlcjackbhnmaaDoorVdM
namespace Go.Proofs.YtonlcjackbhnmaaDoor
open Go.RowKit Go.ChangeShapes Go.WideShapes
namespace Val

theorem shp2 {s : ByteArray} {i : Nat} {p r : Txt} {c : UInt8} (h : s.toList.drop i = p ++ c :: r) : s.toList.drop (i + p.length) = c :: r := by
  rw [← List.drop_drop, h, List.drop_left]
theorem at_drop {l r : Txt} {q : Nat} {c : UInt8} (h : l.drop q = c :: r) : l[q]? = some c := by
  rw [← List.head?_drop, h]
  rfl
theorem own_ne {w : World} {g : Nat} {e : TypeId} {z n : Nat} {v : Value} {xs : List Value} (h : w.ownsRow (g + 1) e z v n xs) : some g ≠ v.ownBlock := fun k => by
  have := (h.lt g k.symm).1
  omega
theorem own_bel1 {a w w' : World} {e : TypeId} {z n : Nat} {v : Value} {xs : List Value} (h : w.ownsRow (a.heap.size + 1) e z v n xs) (b : Bel a w) (hg : w.grownBy w' v.ownBlock) : Bel a w' :=
  Below.grown b hg b.size fun i hi => Nat.le_of_succ_le (h.lt i hi).1
set_option maxRecDepth 100000 in
set_option maxHeartbeats 8000000 in
theorem many_list (s : ByteArray) (k : Nat) (hs : s.size ≤ 1000000) (hV : RRead s k) (i : Nat) (w : World) (hi : i < s.size) (hk : s.size - i ≤ k + 1) (hc : s[i] = 91) :
    Calls Tryd.prog 87 #[.string s, .int .i64 (i : Int)] w fun e w' => RP s w' e (gE (gV (rdG intR k)) 5 93 k (s.toList.drop (i + 1))) ∧ Bel w w' := by
  obtain ⟨Z, hZ⟩ : ∃ Z, gE (gV (rdG intR k)) 5 93 k (s.toList.drop (i + 1)) = Z := ⟨_, rfl⟩
  rw [hZ]
  have HZ : Hid (tgt (gV (rdG intR k)) 5 93 false k (s.toList.drop (i + 1)) [] 0 = Z) := Lib.hid (by rw [tgt_start, hZ])
  have HV := Lib.hid hV
  have hix0 : ((s[i].toNat : Int) == 123) = false := by rw [hc]; rfl
  have HSt : Hid (∀ (q : Nat) (w : World), q ≤ s.size → Calls Tryd.prog 85 #[.string s, .int .i64 ((q : Int)), .string ⟨#[93]⟩] w fun e w' => e = .returned (.bool (([93] : Txt).isPrefixOf (s.toList.drop q))) ∧ w = w') := Lib.hid (fun q w hq => by
    have := starts_any s ⟨#[93]⟩ q (by omega) (by omega) (by decide) (by decide) w
    rw [show (⟨#[93]⟩ : ByteArray).toList = [93] from tl [93]] at this
    exact this)
  have HCo : Hid (∀ (q : Nat) (w : World), q ≤ s.size → Calls Tryd.prog 85 #[.string s, .int .i64 ((q : Int)), .string ⟨#[44]⟩] w fun e w' => e = .returned (.bool (([44] : Txt).isPrefixOf (s.toList.drop q))) ∧ w = w') := Lib.hid (fun q w hq => by
    have := starts_any s ⟨#[44]⟩ q (by omega) (by omega) (by decide) (by decide) w
    rw [show (⟨#[44]⟩ : ByteArray).toList = [44] from tl [44]] at this
    exact this)
  have HN := Lib.hid (StC.new w 5 51)
  have HB := Lib.hid (Bel.alloc (Bel.refl w) (.cells #[.int .i64 5, .int .i64 0, .string ⟨#[]⟩, .int .i64 0] 51))
  have HO := Lib.hid (World.ownsRow_nil (w.alloc (.cells #[.int .i64 5, .int .i64 0, .string ⟨#[]⟩, .int .i64 0] 51)) (w.heap.size + 1) 51 4)
  have HSz : Hid (w.heap.size + 1 ≤ (w.alloc (.cells #[.int .i64 5, .int .i64 0, .string ⟨#[]⟩, .int .i64 0] 51)).heap.size) := Lib.hid (alloc_lt w _)
  clear hc hV hZ
  go_enter Tryd.func87, Tryd.ntmps87
  go_wp2
  go_loopw [8, 9] (fun v ix wr => ∃ (m p c' : Nat) (a : Option Addr) (j f : Nat) (cs : List Cel) (comma : Bool), v = .slice a m c' ∧ ix = .int .i64 ((p : Int) + 1) ∧ p + 1 ≤ s.size ∧ s.size - (p + 1) ≤ f ∧ f ≤ k ∧ m ≤ p ∧ j ≤ p ∧ Hid (m = 0 → a = none ∧ c' = 0) ∧ Hid (cs.length = m) ∧ Hid (∀ c ∈ cs, Fits c) ∧ Hid (StC wr w.heap.size 5 (j : Int)) ∧ Hid (wr.ownsRow (w.heap.size + 1) 51 4 (.slice a m c') m (encCs cs)) ∧ Hid (Bel w wr) ∧ Hid (w.heap.size + 1 ≤ wr.heap.size) ∧ Hid ((decide (0 < j) && decide (s.toList[p]? = some 44)) = comma) ∧ Hid (tgt (gV (rdG intR k)) 5 93 comma f (s.toList.drop (p + 1)) cs j = Z)) (fun _ ix _ => s.size + 1 - (intOf ix).toNat)
  case atStart => exact ⟨0, i, 0, none, 0, k, [], false, rfl, by go_num, by omega, by omega, Nat.le_refl _, Nat.zero_le _, Nat.zero_le _, Lib.hid (fun _ => ⟨rfl, rfl⟩), Lib.hid rfl, Lib.hid (fun c h => by cases h), HN, HO, HB, HSz, Lib.hid rfl, HZ⟩
  case round =>
    obtain ⟨m, p, c', a, j, f, cs, comma, rfl, rfl, hp, hf, hfk, hmp, hjp, hm0, hcl, hfit, hst, hown, hb, hsz, hcm, ht⟩ := hrel
    rename World => W0
    clear HN HB HO HSz HZ
    obtain ⟨k0, k1, k2, k3, kz⟩ := hst.out
    have HS1 := Lib.hid (HSt.out (p + 1) W0 hp)
    rw [Int.natCast_succ] at HS1
    have HR := Lib.hid (HV.out (p + 1) W0 hp (by omega))
    rw [Int.natCast_succ] at HR
    have hpl : p < s.size := by omega
    have hat : Hid (s.toList[p]? = some s[p]) := Lib.hid (at_drop (drop_at hpl))
    have b44' : ((s[p].toNat : Int) == 44) = decide (s[p] = 44) := byte_is s[p] 44 44 rfl
    cases hpr : ([93] : Txt).isPrefixOf (s.toList.drop (p + 1)) with
    | true =>
      rw [hpr] at HS1
      have HPR := Lib.hid hpr
      by_cases hj : j = 0
      · subst hj
        have hcf : Hid (comma = false) := Lib.hid (by rw [← hcm.out, decide_eq_false (by omega)]; rfl)
        clear hpr b44' hat HR
        have hz : Hid (Z = some (⟨5, 0, [], (0 : Int)⟩ :: cs, (s.toList.drop (p + 1)).drop 1)) := Lib.hid (by
          have h1 := ht.out
          have h2 : comma = false := hcf.out
          rw [h2, tgt_end HPR.out] at h1
          exact h1.symm)
        have hix : Hid (ixR s.size Z = (p : Int) + 1 + 1) := Lib.hid (by
          rw [hz.out]
          have h1 : 1 + ((s.toList.drop (p + 1)).drop 1).length = (s.toList.drop (p + 1)).length := pre_len HPR.out
          have h2 : (s.toList.drop (p + 1)).length = s.size - (p + 1) := by rw [List.length_drop, toL_len]
          rw [h2] at h1
          show (s.size : Int) - (((s.toList.drop (p + 1)).drop 1).length : Int) = _
          omega)
        have own1 := Lib.hid (World.ownsRow_lit (base := W0.heap.size) (e := 51) (size := 4) W0 #[.int .i64 5, .int .i64 0, .string ⟨#[]⟩, .int .i64 (0 : Int)] 1 (Nat.le_refl _) (by decide) rfl)
        have B1 := Lib.hid (Bel.alloc (Bel.refl W0) (.cells #[.int .i64 5, .int .i64 0, .string ⟨#[]⟩, .int .i64 (0 : Int)] 51))
        have C1 := Lib.hid ((own_cArg hown.out hfit.out).on B1.out)
        have own2 : Hid ((W0.alloc (.cells #[.int .i64 5, .int .i64 0, .string ⟨#[]⟩, .int .i64 (0 : Int)] 51)).ownsRow W0.heap.size 51 4 (.slice (some ⟨W0.heap.size, 0, none⟩) 1 1) 1 (encCs [⟨5, 0, [], (0 : Int)⟩])) := own1
        have hfh : Hid (∀ c ∈ (⟨5, 0, [], (0 : Int)⟩ : Cel) :: cs, Fits c) := Lib.hid (fun c h => by
          rcases List.mem_cons.1 h with rfl | h
          · exact fits_small _ _ _ _ (by omega) (by omega) (by omega) (by decide)
          · exact hfit.out c h)
        clear own1 HV HCo
        by_cases h0 : m = 0
        · obtain ⟨rfl, rfl⟩ := hm0.out h0
          subst h0
          have hcs : Hid (cs = []) := Lib.hid (List.length_eq_zero_iff.1 hcl.out)
          clear hm0
          go_wp2_with fail
          refine HS1.out.mono ?_
          rintro e w' ⟨rfl, rfl⟩
          go_wp2_with (at_builtin; refine list_app0 _ _ rfl rfl rfl rfl rfl own2.out ?_; refine Hid.out ?_)
          refine Lib.hid ?_
          go_wp2
          go_ret2
          exact ⟨⟨_, 1, 1, [⟨5, 0, [], (0 : Int)⟩], by rw [hix.out]; rfl, own_cArg own2.out (fun c h => hfh.out c (by rw [List.mem_singleton.1 h]; exact List.mem_cons_self ..)), Nat.le_refl _, fun x hx => by rw [hz.out, hcs.out] at hx; cases hx; rfl⟩, Bel.trans hb.out B1.out⟩
        · have q1 : Hid (1 + m ≤ 1099511627776) := Lib.hid (by omega)
          have h0' : 0 < m := by omega
          go_wp2_with fail
          refine HS1.out.mono ?_
          rintro e w' ⟨rfl, rfl⟩
          go_wp2_with (at_builtin; refine list_appC _ _ rfl rfl rfl rfl rfl B1.out own2.out C1.out h0' q1.out ?_; intro o3 c3 w3 gg3 kk3; refine Hid.out ?_)
          refine Lib.hid ?_
          obtain ⟨_, _, h5, hmc⟩ := own4_shape kk3.out
          cases h5
          have hca := Lib.hid (own_cArg kk3.out hfh.out)
          go_wp2
          go_ret2
          exact ⟨⟨_, _, _, _, by rw [hix.out]; rfl, hca.out, hmc, fun x hx => by rw [hz.out] at hx; cases hx; rfl⟩, Bel.trans hb.out gg3.out⟩
      · have hjd : (0 : Int) < (j : Int) := by omega
        have hjd2 : decide (0 < j) = true := decide_eq_true (by omega)
        by_cases h44 : s[p] = 44
        · have hz : Hid (Z = none) := Lib.hid (by
            have h2 : comma = true := by rw [← hcm.out, hjd2, hat.out, h44]; rfl
            obtain ⟨r, hr⟩ := pre_cons hpr
            rw [← ht.out, h2]
            exact tgt_no (by simp) (by rw [hr]; exact gV_cl k r))
          have hg : gV (rdG intR k) (s.toList.drop (p + 1)) = none := by
            obtain ⟨r, hr⟩ := pre_cons hpr
            rw [hr]; exact gV_cl k r
          rw [hg] at HR
          rw [decide_eq_true h44] at b44'
          clear hpr hg h44 HV HCo HSt hown hfit ht hm0
          go_wp2_with fail
          refine HS1.out.mono ?_
          rintro e w' ⟨rfl, rfl⟩
          go_wp2_with fail
          refine HR.out.mono ?_
          rintro e w1 ⟨⟨o, n, c, l, rfl, hA, hnc, hl⟩, g⟩
          have HG := Lib.hid (Bel.trans hb.out g)
          obtain ⟨e0, e1, e2, e3, ez⟩ := hst.out.on g
          clear hA hl g
          simp only [ixR]
          go_wp2_with fail
          go_ret2
          exact ⟨⟨none, 0, 0, [], by rw [hz.out]; rfl, CArg.nil _ none, Nat.le_refl _, fun x hx => by rw [hz.out] at hx; cases hx⟩, HG.out⟩
        · have hcf : Hid (comma = false) := Lib.hid (by rw [← hcm.out, hat.out, decide_eq_false (fun h => h44 (Option.some.inj h)), Bool.and_false])
          rw [decide_eq_false h44] at b44'
          clear hpr hat HR h44 hjd2
          have hz : Hid (Z = some (⟨5, 0, [], (j : Int)⟩ :: cs, (s.toList.drop (p + 1)).drop 1)) := Lib.hid (by
            have h1 := ht.out
            have h2 : comma = false := hcf.out
            rw [h2, tgt_end HPR.out] at h1
            exact h1.symm)
          have hix : Hid (ixR s.size Z = (p : Int) + 1 + 1) := Lib.hid (by
            rw [hz.out]
            have h1 : 1 + ((s.toList.drop (p + 1)).drop 1).length = (s.toList.drop (p + 1)).length := pre_len HPR.out
            have h2 : (s.toList.drop (p + 1)).length = s.size - (p + 1) := by rw [List.length_drop, toL_len]
            rw [h2] at h1
            show (s.size : Int) - (((s.toList.drop (p + 1)).drop 1).length : Int) = _
            omega)
          have own1 := Lib.hid (World.ownsRow_lit (base := W0.heap.size) (e := 51) (size := 4) W0 #[.int .i64 5, .int .i64 0, .string ⟨#[]⟩, .int .i64 (j : Int)] 1 (Nat.le_refl _) (by decide) rfl)
          have B1 := Lib.hid (Bel.alloc (Bel.refl W0) (.cells #[.int .i64 5, .int .i64 0, .string ⟨#[]⟩, .int .i64 (j : Int)] 51))
          have C1 := Lib.hid ((own_cArg hown.out hfit.out).on B1.out)
          have own2 : Hid ((W0.alloc (.cells #[.int .i64 5, .int .i64 0, .string ⟨#[]⟩, .int .i64 (j : Int)] 51)).ownsRow W0.heap.size 51 4 (.slice (some ⟨W0.heap.size, 0, none⟩) 1 1) 1 (encCs [⟨5, 0, [], (j : Int)⟩])) := own1
          have hfh : Hid (∀ c ∈ (⟨5, 0, [], (j : Int)⟩ : Cel) :: cs, Fits c) := Lib.hid (fun c h => by
            rcases List.mem_cons.1 h with rfl | h
            · exact fits_small _ _ _ _ (by omega) (by omega) (by omega) (by decide)
            · exact hfit.out c h)
          clear own1 HV HCo
          by_cases h0 : m = 0
          · obtain ⟨rfl, rfl⟩ := hm0.out h0
            subst h0
            have hcs : Hid (cs = []) := Lib.hid (List.length_eq_zero_iff.1 hcl.out)
            clear hm0
            go_wp2_with fail
            refine HS1.out.mono ?_
            rintro e w' ⟨rfl, rfl⟩
            go_wp2_with (at_builtin; refine list_app0 _ _ rfl rfl rfl rfl rfl own2.out ?_; refine Hid.out ?_)
            refine Lib.hid ?_
            go_wp2
            go_ret2
            exact ⟨⟨_, 1, 1, [⟨5, 0, [], (j : Int)⟩], by rw [hix.out]; rfl, own_cArg own2.out (fun c h => hfh.out c (by rw [List.mem_singleton.1 h]; exact List.mem_cons_self ..)), Nat.le_refl _, fun x hx => by rw [hz.out, hcs.out] at hx; cases hx; rfl⟩, Bel.trans hb.out B1.out⟩
          · have q1 : Hid (1 + m ≤ 1099511627776) := Lib.hid (by omega)
            have h0' : 0 < m := by omega
            go_wp2_with fail
            refine HS1.out.mono ?_
            rintro e w' ⟨rfl, rfl⟩
            go_wp2_with (at_builtin; refine list_appC _ _ rfl rfl rfl rfl rfl B1.out own2.out C1.out h0' q1.out ?_; intro o3 c3 w3 gg3 kk3; refine Hid.out ?_)
            refine Lib.hid ?_
            obtain ⟨_, _, h5, hmc⟩ := own4_shape kk3.out
            cases h5
            have hca := Lib.hid (own_cArg kk3.out hfh.out)
            go_wp2
            go_ret2
            exact ⟨⟨_, _, _, _, by rw [hix.out]; rfl, hca.out, hmc, fun x hx => by rw [hz.out] at hx; cases hx; rfl⟩, Bel.trans hb.out gg3.out⟩
    | false =>
      rw [hpr] at HS1
      have HPR : Hid ((([93] : Txt).isPrefixOf (s.toList.drop (p + 1)) && !comma) = false) := Lib.hid (by rw [hpr]; rfl)
      clear b44' hat hcm hpr
      cases hg : gV (rdG intR k) (s.toList.drop (p + 1)) with
      | none =>
        rw [hg] at HR
        have hz : Hid (Z = none) := Lib.hid (by rw [← ht.out]; exact tgt_no HPR.out hg)
        clear hg HV HCo HSt hown hfit ht hm0
        go_wp2_with fail
        refine HS1.out.mono ?_
        rintro e w' ⟨rfl, rfl⟩
        go_wp2_with fail
        refine HR.out.mono ?_
        rintro e w1 ⟨⟨o, n, c, l, rfl, hA, hnc, hl⟩, g⟩
        have HG := Lib.hid (Bel.trans hb.out g)
        obtain ⟨e0, e1, e2, e3, ez⟩ := hst.out.on g
        clear hA hl g
        simp only [ixR]
        go_wp2_with fail
        go_ret2
        exact ⟨⟨none, 0, 0, [], by rw [hz.out]; rfl, CArg.nil _ none, Nat.le_refl _, fun x hx => by rw [hz.out] at hx; cases hx⟩, HG.out⟩
      | some y =>
        obtain ⟨cs1, r⟩ := y
        obtain ⟨hn1, hn2, P, d, hPd, hd⟩ := gV_shp k hg
        rw [List.length_drop, toL_len] at hn2
        obtain ⟨hs1, -, hs3, hs4⟩ := shp_at hPd
        have hdp := shp2 hPd
        obtain ⟨p2, hp2⟩ : ∃ p2, p + 1 + P.length = p2 := ⟨_, rfl⟩
        rw [hp2] at hs1 hs3 hs4 hdp
        have hpp : p + 1 ≤ p2 := by omega
        have hixr : ixR s.size (some (cs1, r)) = (p2 : Int) + 1 := by
          show (s.size : Int) - (r.length : Int) = _
          omega
        rw [hg] at HR
        have HR2 : Hid (Calls Tryd.prog 54 #[.string s, .int .i64 ((p : Int) + 1)] W0 fun e w' => (∃ o n c, e = .returned (.tuple #[.slice o n c, .int .i64 ((p2 : Int) + 1)]) ∧ CArg w' o n cs1 ∧ n ≤ c) ∧ Bel W0 w') := Lib.hid (HR.out.mono (by
          rintro e w' ⟨⟨o, n, c, l, rfl, hA, hnc, hl⟩, g⟩
          obtain rfl := hl _ rfl
          rw [hixr]
          exact ⟨⟨o, n, c, rfl, hA, hnc⟩, g⟩))
        clear HR
        obtain ⟨f', rfl⟩ : ∃ f', f = f' + 1 := ⟨f - 1, by omega⟩
        have HGg := Lib.hid hg
        have Hs3 := Lib.hid hs3
        have Hdp := Lib.hid (at_drop hdp)
        have Hd := Lib.hid hd
        clear hg hPd hp2 hixr hs3 hdp hd
        go_wp2_with fail
        refine HS1.out.mono ?_
        rintro e w' ⟨rfl, rfl⟩
        go_wp2_with fail
        refine HR2.out.mono ?_
        rintro e w1 ⟨⟨o, n, c, rfl, hA, hnc⟩, g⟩
        have hln := hA.1
        rw [hln] at hn1 hn2
        have B1 := Lib.hid (Bel.trans hb.out g)
        have S1 := Lib.hid (hst.out.on g)
        have O1 := Lib.hid (own_belz hown.out g)
        have A1 := Lib.hid hA
        have hbs : Hid (w.heap.size + 1 ≤ w1.heap.size) := Lib.hid (cell_lt S1.out.1)
        obtain ⟨e0, e1, e2, e3, ez⟩ := S1.out
        have q1 : Hid (m + n ≤ 1099511627776) := Lib.hid (by omega)
        clear hA g HR2 k0 k1 k2 k3 kz HS1
        go_wp2_with (at_builtin; refine list_appG _ _ rfl rfl rfl rfl rfl hbs.out O1.out A1.out hn1 q1.out ?_; intro o3 c3 w3 g3 k3; refine Hid.out ?_)
        refine Lib.hid ?_
        have S3 := Lib.hid (S1.out.grown g3.out (own_ne O1.out))
        have B3 := Lib.hid (own_bel1 O1.out B1.out g3.out)
        clear e0 e1 e2 e3 ez
        obtain ⟨e0, e1, e2, e3, ez⟩ := S3.out
        have HC1 := Lib.hid (HCo.out (p2 + 1) (w3.setCell ⟨w.heap.size, 3, none⟩ (.int .i64 ((j : Int) + 1))) (by omega))
        have HS2 := Lib.hid (HSt.out (p2 + 1) (w3.setCell ⟨w.heap.size, 3, none⟩ (.int .i64 ((j : Int) + 1))) (by omega))
        rw [Int.natCast_succ, Hs3.out] at HC1 HS2
        have S4 : Hid (StC (w3.setCell ⟨w.heap.size, 3, none⟩ (.int .i64 ((j : Int) + 1))) w.heap.size 5 ((j + 1 : Nat) : Int)) := Lib.hid (S3.out.count ((j : Int) + 1))
        have O4 := Lib.hid (own_kept k3.out ((Mod.refl (fun q => q = w.heap.size) w3).setCell (Or.inl rfl) (.int .i64 ((j : Int) + 1)) : Mod _ w3 (w3.setCell ⟨w.heap.size, 3, none⟩ (.int .i64 ((j : Int) + 1)))) (fun b hb e => own_ne k3.out (by rw [hb, e])))
        have B4 := Lib.hid (B3.out.setCell (p := ⟨w.heap.size, 3, none⟩) (Nat.le_refl _) (.int .i64 ((j : Int) + 1)))
        have Z4 : Hid (w.heap.size + 1 ≤ (w3.setCell ⟨w.heap.size, 3, none⟩ (.int .i64 ((j : Int) + 1))).heap.size) := Lib.hid (cell_lt S4.out.1)
        have F4 : Hid (∀ c ∈ cs ++ cs1, Fits c) := Lib.hid (fun c h => (List.mem_append.1 h).elim (hfit.out c) (A1.out.2.1 c))
        have L4 : Hid ((cs ++ cs1).length = m + n) := Lib.hid (by rw [List.length_append, hcl.out, hln])
        have N4 : Hid (m + n = 0 → o3 = none ∧ c3 = 0) := Lib.hid (fun h => by omega)
        obtain ⟨b1, hb1⟩ : ∃ b1, ([44] : Txt).isPrefixOf r = b1 := ⟨_, rfl⟩
        obtain ⟨b2, hb2⟩ : ∃ b2, ([93] : Txt).isPrefixOf r = b2 := ⟨_, rfl⟩
        rw [hb1] at HC1
        rw [hb2] at HS2
        have Hb1 := Lib.hid hb1
        have Hb2 := Lib.hid hb2
        clear S1 O1 A1 B1 S3 B3 hbs q1 HCo HSt HV hcl hfit hst hown hb hsz hm0 g3 k3 hb1 hb2
        go_wp2_with fail
        refine HC1.out.mono ?_
        rintro e w' ⟨rfl, rfl⟩
        clear HC1
        cases b1 with
        | true =>
          obtain ⟨r', hr'⟩ := pre_cons Hb1.out
          have hrl : r.length = r'.length + 1 := by rw [hr']; rfl
          have hc4 : Hid ((decide (0 < j + 1) && decide (s.toList[p2 + 1]? = some 44)) = true) := Lib.hid (by
            have h1 : s.toList.drop (p2 + 1) = 44 :: r' := by rw [Hs3.out, hr']
            rw [at_drop h1]
            simp)
          have ht4 : Hid (tgt (gV (rdG intR k)) 5 93 true f' (s.toList.drop (p2 + 1 + 1)) (cs ++ cs1) (j + 1) = Z) := Lib.hid (by
            rw [← ht.out, ← List.drop_drop, Hs3.out, hr']
            exact (tgt_comma HPR.out (by rw [HGg.out, hr']; rfl)).symm)
          clear ht HPR HGg hr' Hs3 Hdp HS2 e0 e1 e2 e3 ez
          go_wp2
          go_round
          case rel => exact ⟨m + n, p2 + 1, c3, o3, j + 1, f', cs ++ cs1, true, rfl, by go_num, by omega, by omega, by omega, by omega, by omega, N4, L4, F4, S4, O4, B4, Z4, hc4, ht4⟩
          case measure => simp [intOf]; omega
        | false =>
          go_wp2_with fail
          refine HS2.out.mono ?_
          rintro e w' ⟨rfl, rfl⟩
          clear HS2
          cases b2 with
          | true =>
            obtain ⟨r', hr'⟩ := pre_cons Hb2.out
            have hc4 : Hid ((decide (0 < j + 1) && decide (s.toList[p2]? = some 44)) = false) := Lib.hid (by
              rw [Hdp.out, decide_eq_false (p := some d = some 44) (fun h => Hd.out (Option.some.inj h)), Bool.and_false])
            have ht4 : Hid (tgt (gV (rdG intR k)) 5 93 false f' (s.toList.drop (p2 + 1)) (cs ++ cs1) (j + 1) = Z) := Lib.hid (by
              rw [← ht.out, Hs3.out, hr']
              exact (tgt_close HPR.out (by decide) (by rw [HGg.out, hr'])).symm)
            clear ht HPR HGg hr' Hs3 Hdp e0 e1 e2 e3 ez
            go_wp2
            go_round
            case rel => exact ⟨m + n, p2, c3, o3, j + 1, f', cs ++ cs1, false, rfl, by go_num, by omega, by omega, by omega, by omega, by omega, N4, L4, F4, S4, O4, B4, Z4, hc4, ht4⟩
            case measure => simp [intOf]; omega
          | false =>
            have hz : Hid (Z = none) := Lib.hid (by rw [← ht.out]; exact tgt_bad HPR.out HGg.out Hb1.out Hb2.out)
            clear ht HPR HGg Hs3 Hdp e0 e1 e2 e3 ez
            go_wp2
            go_ret2
            exact ⟨⟨none, 0, 0, [], by rw [hz.out]; rfl, CArg.nil _ none, Nat.le_refl _, fun x hx => by rw [hz.out] at hx; cases hx⟩, B4.out⟩
end Val
end Go.Proofs.YtonlcjackbhnmaaDoor
