/-
  Layer 6, the reference: readMany, over a map.
-/
import Derived.Test.YtonlcjackbhnmaaDoorVdN
namespace Go.Proofs.YtonlcjackbhnmaaDoor
open Go.RowKit Go.ChangeShapes Go.WideShapes
namespace Val

theorem strB_S {S t q : Txt} (h : strB S = some (t, q)) : S = quo t ++ q := by
  cases S with
  | nil => cases h
  | cons c r =>
    rw [strB] at h
    by_cases hc : c = 34
    · rw [if_pos hc] at h
      rw [hc, rdS_sound h, quo]
      simp
    · rw [if_neg hc] at h; cases h
theorem rdK_B0 {S : Txt} (h : strB S = none) : rdK S = none := by
  cases S with
  | nil => rfl
  | cons c r =>
    rw [strB] at h
    by_cases hc : c = 34
    · rw [if_pos hc] at h
      rw [hc]
      exact rdK_s h
    · exact rdK_no (pre1f r hc)
theorem rdK_B1 {S t q : Txt} (h : strB S = some (t, q)) (hq : ([58] : Txt).isPrefixOf q = false) : rdK S = none := by
  cases S with
  | nil => rfl
  | cons c r =>
    rw [strB] at h
    by_cases hc : c = 34
    · rw [if_pos hc] at h
      rw [hc]
      exact rdK_c h hq
    · rw [if_neg hc] at h; cases h
theorem rdK_B2 {S t q : Txt} (h : strB S = some (t, 58 :: q)) : rdK S = some (t, q) := by
  cases S with
  | nil => cases h
  | cons c r =>
    rw [strB] at h
    by_cases hc : c = 34
    · rw [if_pos hc] at h
      rw [hc]
      exact rdK_y h
    · rw [if_neg hc] at h; cases h
theorem gP_no {g : Txt → Option (V × Txt)} {S : Txt} (h : rdK S = none) : gP g S = none := by
  unfold gP
  rw [h]
theorem gP_at {g : Txt → Option (V × Txt)} {S t q : Txt} (h : rdK S = some (t, q)) : gP g S = (gV g q).map fun x => (⟨4, 0, t, 0⟩ :: x.1, x.2) := by
  unfold gP gV
  rw [h]
  dsimp only
  cases g q <;> rfl
theorem gP_cl (k : Nat) (r : Txt) : gP (rdG intR k) (125 :: r) = none := gP_no (rdK_no rfl)
set_option maxRecDepth 100000 in
set_option maxHeartbeats 8000000 in
theorem many_map (s : ByteArray) (k : Nat) (hs : s.size ≤ 1000000) (hV : RRead s k) (i : Nat) (w : World) (hi : i < s.size) (hk : s.size - i ≤ k + 1) (hc : s[i] = 123) :
    Calls Tryd.prog 87 #[.string s, .int .i64 (i : Int)] w fun e w' => RP s w' e (gE (gP (rdG intR k)) 6 125 k (s.toList.drop (i + 1))) ∧ Bel w w' := by
  obtain ⟨Z, hZ⟩ : ∃ Z, gE (gP (rdG intR k)) 6 125 k (s.toList.drop (i + 1)) = Z := ⟨_, rfl⟩
  rw [hZ]
  have HZ : Hid (tgt (gP (rdG intR k)) 6 125 false k (s.toList.drop (i + 1)) [] 0 = Z) := Lib.hid (by rw [tgt_start, hZ])
  have HV := Lib.hid hV
  have hix0 : ((s[i].toNat : Int) == 123) = true := by rw [hc]; rfl
  have HSt : Hid (∀ (q : Nat) (w : World), q ≤ s.size → Calls Tryd.prog 85 #[.string s, .int .i64 ((q : Int)), .string ⟨#[125]⟩] w fun e w' => e = .returned (.bool (([125] : Txt).isPrefixOf (s.toList.drop q))) ∧ w = w') := Lib.hid (fun q w hq => by
    have := starts_any s ⟨#[125]⟩ q (by omega) (by omega) (by decide) (by decide) w
    rw [show (⟨#[125]⟩ : ByteArray).toList = [125] from tl [125]] at this
    exact this)
  have HCo : Hid (∀ (q : Nat) (w : World), q ≤ s.size → Calls Tryd.prog 85 #[.string s, .int .i64 ((q : Int)), .string ⟨#[44]⟩] w fun e w' => e = .returned (.bool (([44] : Txt).isPrefixOf (s.toList.drop q))) ∧ w = w') := Lib.hid (fun q w hq => by
    have := starts_any s ⟨#[44]⟩ q (by omega) (by omega) (by decide) (by decide) w
    rw [show (⟨#[44]⟩ : ByteArray).toList = [44] from tl [44]] at this
    exact this)
  have H58 : Hid (∀ (q : Nat) (w : World), q ≤ s.size → Calls Tryd.prog 85 #[.string s, .int .i64 ((q : Int)), .string ⟨#[58]⟩] w fun e w' => e = .returned (.bool (([58] : Txt).isPrefixOf (s.toList.drop q))) ∧ w = w') := Lib.hid (fun q w hq => by
    have := starts_any s ⟨#[58]⟩ q (by omega) (by omega) (by decide) (by decide) w
    rw [show (⟨#[58]⟩ : ByteArray).toList = [58] from tl [58]] at this
    exact this)
  have HN := Lib.hid (StC.new w 6 51)
  have HB := Lib.hid (Bel.alloc (Bel.refl w) (.cells #[.int .i64 6, .int .i64 0, .string ⟨#[]⟩, .int .i64 0] 51))
  have HO := Lib.hid (World.ownsRow_nil (w.alloc (.cells #[.int .i64 6, .int .i64 0, .string ⟨#[]⟩, .int .i64 0] 51)) (w.heap.size + 1) 51 4)
  have HSz : Hid (w.heap.size + 1 ≤ (w.alloc (.cells #[.int .i64 6, .int .i64 0, .string ⟨#[]⟩, .int .i64 0] 51)).heap.size) := Lib.hid (alloc_lt w _)
  clear hc hV hZ
  go_enter Tryd.func87, Tryd.ntmps87
  go_wp2
  go_loopw [8, 9] (fun v ix wr => ∃ (m p c' : Nat) (a : Option Addr) (j f : Nat) (cs : List Cel) (comma : Bool), v = .slice a m c' ∧ ix = .int .i64 ((p : Int) + 1) ∧ p + 1 ≤ s.size ∧ s.size - (p + 1) ≤ f ∧ f ≤ k ∧ m ≤ p ∧ j ≤ p ∧ Hid (m = 0 → a = none ∧ c' = 0) ∧ Hid (cs.length = m) ∧ Hid (∀ c ∈ cs, Fits c) ∧ Hid (StC wr w.heap.size 6 (j : Int)) ∧ Hid (wr.ownsRow (w.heap.size + 1) 51 4 (.slice a m c') m (encCs cs)) ∧ Hid (Bel w wr) ∧ Hid (w.heap.size + 1 ≤ wr.heap.size) ∧ Hid ((decide (0 < j) && decide (s.toList[p]? = some 44)) = comma) ∧ Hid (tgt (gP (rdG intR k)) 6 125 comma f (s.toList.drop (p + 1)) cs j = Z)) (fun _ ix _ => s.size + 1 - (intOf ix).toNat)
  case atStart => exact ⟨0, i, 0, none, 0, k, [], false, rfl, by go_num, by omega, by omega, Nat.le_refl _, Nat.zero_le _, Nat.zero_le _, Lib.hid (fun _ => ⟨rfl, rfl⟩), Lib.hid rfl, Lib.hid (fun c h => by cases h), HN, HO, HB, HSz, Lib.hid rfl, HZ⟩
  case round =>
    obtain ⟨m, p, c', a, j, f, cs, comma, rfl, rfl, hp, hf, hfk, hmp, hjp, hm0, hcl, hfit, hst, hown, hb, hsz, hcm, ht⟩ := hrel
    rename World => W0
    clear HN HB HO HSz HZ
    obtain ⟨k0, k1, k2, k3, kz⟩ := hst.out
    have HS1 := Lib.hid (HSt.out (p + 1) W0 hp)
    rw [Int.natCast_succ] at HS1
    have HR := Lib.hid (readString_any s (p + 1) (by omega) hp W0)
    rw [Int.natCast_succ] at HR
    have hpl : p < s.size := by omega
    have hat : Hid (s.toList[p]? = some s[p]) := Lib.hid (at_drop (drop_at hpl))
    have b44' : ((s[p].toNat : Int) == 44) = decide (s[p] = 44) := byte_is s[p] 44 44 rfl
    cases hpr : ([125] : Txt).isPrefixOf (s.toList.drop (p + 1)) with
    | true =>
      rw [hpr] at HS1
      have HPR := Lib.hid hpr
      by_cases hj : j = 0
      · subst hj
        have hcf : Hid (comma = false) := Lib.hid (by rw [← hcm.out, decide_eq_false (by omega)]; rfl)
        clear hpr b44' hat HR
        have hz : Hid (Z = some (⟨6, 0, [], (0 : Int)⟩ :: cs, (s.toList.drop (p + 1)).drop 1)) := Lib.hid (by
          have h1 := ht.out
          have h2 : comma = false := hcf.out
          rw [h2, tgt_end HPR.out] at h1
          exact h1.symm)
        have hix : Hid (ixR s.size Z = (p : Int) + 1 + 1) := Lib.hid (by
          rw [hz.out]
          have h1 : 1 + ((s.toList.drop (p + 1)).drop 1).length = (s.toList.drop (p + 1)).length := pre_len HPR.out
          have h2 : (s.toList.drop (p + 1)).length = s.size - (p + 1) := by rw [List.length_drop, toL_len]
          rw [h2] at h1
          show (s.size : Int) - (((s.toList.drop (p + 1)).drop 1).length : Int) = _
          omega)
        have own1 := Lib.hid (World.ownsRow_lit (base := W0.heap.size) (e := 51) (size := 4) W0 #[.int .i64 6, .int .i64 0, .string ⟨#[]⟩, .int .i64 (0 : Int)] 1 (Nat.le_refl _) (by decide) rfl)
        have B1 := Lib.hid (Bel.alloc (Bel.refl W0) (.cells #[.int .i64 6, .int .i64 0, .string ⟨#[]⟩, .int .i64 (0 : Int)] 51))
        have C1 := Lib.hid ((own_cArg hown.out hfit.out).on B1.out)
        have own2 : Hid ((W0.alloc (.cells #[.int .i64 6, .int .i64 0, .string ⟨#[]⟩, .int .i64 (0 : Int)] 51)).ownsRow W0.heap.size 51 4 (.slice (some ⟨W0.heap.size, 0, none⟩) 1 1) 1 (encCs [⟨6, 0, [], (0 : Int)⟩])) := own1
        have hfh : Hid (∀ c ∈ (⟨6, 0, [], (0 : Int)⟩ : Cel) :: cs, Fits c) := Lib.hid (fun c h => by
          rcases List.mem_cons.1 h with rfl | h
          · exact fits_small _ _ _ _ (by omega) (by omega) (by omega) (by decide)
          · exact hfit.out c h)
        clear own1 HV HCo
        by_cases h0 : m = 0
        · obtain ⟨rfl, rfl⟩ := hm0.out h0
          subst h0
          have hcs : Hid (cs = []) := Lib.hid (List.length_eq_zero_iff.1 hcl.out)
          clear hm0
          go_wp2_with fail
          refine HS1.out.mono ?_
          rintro e w' ⟨rfl, rfl⟩
          go_wp2_with (at_builtin; refine list_app0 _ _ rfl rfl rfl rfl rfl own2.out ?_; refine Hid.out ?_)
          refine Lib.hid ?_
          go_wp2
          go_ret2
          exact ⟨⟨_, 1, 1, [⟨6, 0, [], (0 : Int)⟩], by rw [hix.out]; rfl, own_cArg own2.out (fun c h => hfh.out c (by rw [List.mem_singleton.1 h]; exact List.mem_cons_self ..)), Nat.le_refl _, fun x hx => by rw [hz.out, hcs.out] at hx; cases hx; rfl⟩, Bel.trans hb.out B1.out⟩
        · have q1 : Hid (1 + m ≤ 1099511627776) := Lib.hid (by omega)
          have h0' : 0 < m := by omega
          go_wp2_with fail
          refine HS1.out.mono ?_
          rintro e w' ⟨rfl, rfl⟩
          go_wp2_with (at_builtin; refine list_appC _ _ rfl rfl rfl rfl rfl B1.out own2.out C1.out h0' q1.out ?_; intro o3 c3 w3 gg3 kk3; refine Hid.out ?_)
          refine Lib.hid ?_
          obtain ⟨_, _, h5, hmc⟩ := own4_shape kk3.out
          cases h5
          have hca := Lib.hid (own_cArg kk3.out hfh.out)
          go_wp2
          go_ret2
          exact ⟨⟨_, _, _, _, by rw [hix.out]; rfl, hca.out, hmc, fun x hx => by rw [hz.out] at hx; cases hx; rfl⟩, Bel.trans hb.out gg3.out⟩
      · have hjd : (0 : Int) < (j : Int) := by omega
        have hjd2 : decide (0 < j) = true := decide_eq_true (by omega)
        by_cases h44 : s[p] = 44
        · have hz : Hid (Z = none) := Lib.hid (by
            have h2 : comma = true := by rw [← hcm.out, hjd2, hat.out, h44]; rfl
            obtain ⟨r, hr⟩ := pre_cons hpr
            rw [← ht.out, h2]
            exact tgt_no (by simp) (by rw [hr]; exact gP_cl k r))
          have hg : strB (s.toList.drop (p + 1)) = none := by
            obtain ⟨r, hr⟩ := pre_cons hpr
            rw [hr]; rfl
          rw [hg] at HR
          simp only [ixR, txR] at HR
          rw [decide_eq_true h44] at b44'
          clear hpr hg h44 HV HCo HSt hown hfit ht hm0
          go_wp2_with fail
          refine HS1.out.mono ?_
          rintro e w' ⟨rfl, rfl⟩
          go_wp2_with fail
          refine HR.out.mono ?_
          rintro e w' ⟨rfl, rfl⟩
          go_wp2_with fail
          go_ret2
          exact ⟨⟨none, 0, 0, [], by rw [hz.out]; rfl, CArg.nil _ none, Nat.le_refl _, fun x hx => by rw [hz.out] at hx; cases hx⟩, hb.out⟩
        · have hcf : Hid (comma = false) := Lib.hid (by rw [← hcm.out, hat.out, decide_eq_false (fun h => h44 (Option.some.inj h)), Bool.and_false])
          rw [decide_eq_false h44] at b44'
          clear hpr hat HR h44 hjd2
          have hz : Hid (Z = some (⟨6, 0, [], (j : Int)⟩ :: cs, (s.toList.drop (p + 1)).drop 1)) := Lib.hid (by
            have h1 := ht.out
            have h2 : comma = false := hcf.out
            rw [h2, tgt_end HPR.out] at h1
            exact h1.symm)
          have hix : Hid (ixR s.size Z = (p : Int) + 1 + 1) := Lib.hid (by
            rw [hz.out]
            have h1 : 1 + ((s.toList.drop (p + 1)).drop 1).length = (s.toList.drop (p + 1)).length := pre_len HPR.out
            have h2 : (s.toList.drop (p + 1)).length = s.size - (p + 1) := by rw [List.length_drop, toL_len]
            rw [h2] at h1
            show (s.size : Int) - (((s.toList.drop (p + 1)).drop 1).length : Int) = _
            omega)
          have own1 := Lib.hid (World.ownsRow_lit (base := W0.heap.size) (e := 51) (size := 4) W0 #[.int .i64 6, .int .i64 0, .string ⟨#[]⟩, .int .i64 (j : Int)] 1 (Nat.le_refl _) (by decide) rfl)
          have B1 := Lib.hid (Bel.alloc (Bel.refl W0) (.cells #[.int .i64 6, .int .i64 0, .string ⟨#[]⟩, .int .i64 (j : Int)] 51))
          have C1 := Lib.hid ((own_cArg hown.out hfit.out).on B1.out)
          have own2 : Hid ((W0.alloc (.cells #[.int .i64 6, .int .i64 0, .string ⟨#[]⟩, .int .i64 (j : Int)] 51)).ownsRow W0.heap.size 51 4 (.slice (some ⟨W0.heap.size, 0, none⟩) 1 1) 1 (encCs [⟨6, 0, [], (j : Int)⟩])) := own1
          have hfh : Hid (∀ c ∈ (⟨6, 0, [], (j : Int)⟩ : Cel) :: cs, Fits c) := Lib.hid (fun c h => by
            rcases List.mem_cons.1 h with rfl | h
            · exact fits_small _ _ _ _ (by omega) (by omega) (by omega) (by decide)
            · exact hfit.out c h)
          clear own1 HV HCo
          by_cases h0 : m = 0
          · obtain ⟨rfl, rfl⟩ := hm0.out h0
            subst h0
            have hcs : Hid (cs = []) := Lib.hid (List.length_eq_zero_iff.1 hcl.out)
            clear hm0
            go_wp2_with fail
            refine HS1.out.mono ?_
            rintro e w' ⟨rfl, rfl⟩
            go_wp2_with (at_builtin; refine list_app0 _ _ rfl rfl rfl rfl rfl own2.out ?_; refine Hid.out ?_)
            refine Lib.hid ?_
            go_wp2
            go_ret2
            exact ⟨⟨_, 1, 1, [⟨6, 0, [], (j : Int)⟩], by rw [hix.out]; rfl, own_cArg own2.out (fun c h => hfh.out c (by rw [List.mem_singleton.1 h]; exact List.mem_cons_self ..)), Nat.le_refl _, fun x hx => by rw [hz.out, hcs.out] at hx; cases hx; rfl⟩, Bel.trans hb.out B1.out⟩
          · have q1 : Hid (1 + m ≤ 1099511627776) := Lib.hid (by omega)
            have h0' : 0 < m := by omega
            go_wp2_with fail
            refine HS1.out.mono ?_
            rintro e w' ⟨rfl, rfl⟩
            go_wp2_with (at_builtin; refine list_appC _ _ rfl rfl rfl rfl rfl B1.out own2.out C1.out h0' q1.out ?_; intro o3 c3 w3 gg3 kk3; refine Hid.out ?_)
            refine Lib.hid ?_
            obtain ⟨_, _, h5, hmc⟩ := own4_shape kk3.out
            cases h5
            have hca := Lib.hid (own_cArg kk3.out hfh.out)
            go_wp2
            go_ret2
            exact ⟨⟨_, _, _, _, by rw [hix.out]; rfl, hca.out, hmc, fun x hx => by rw [hz.out] at hx; cases hx; rfl⟩, Bel.trans hb.out gg3.out⟩
    | false =>
      rw [hpr] at HS1
      have HPR : Hid ((([125] : Txt).isPrefixOf (s.toList.drop (p + 1)) && !comma) = false) := Lib.hid (by rw [hpr]; rfl)
      clear b44' hat hcm hpr
      have bad : ∀ W : World, Hid (Z = none) → RP s W (.returned (.tuple #[.slice none 0 0, .int .i64 (-1)])) Z := fun W hz => ⟨none, 0, 0, [], by rw [hz.out]; rfl, CArg.nil _ none, Nat.le_refl _, fun x hx => by rw [hz.out] at hx; cases hx⟩
      have BAD := Lib.hid bad
      clear bad
      cases hsb : strB (s.toList.drop (p + 1)) with
      | none =>
        rw [hsb] at HR
        have hz : Hid (Z = none) := Lib.hid (by rw [← ht.out]; exact tgt_no HPR.out (gP_no (rdK_B0 hsb)))
        simp only [ixR, txR] at HR
        clear hsb HV HCo HSt hown hfit ht hm0
        go_wp2_with fail
        refine HS1.out.mono ?_
        rintro e w' ⟨rfl, rfl⟩
        go_wp2_with fail
        refine HR.out.mono ?_
        rintro e w' ⟨rfl, rfl⟩
        go_wp2_with fail
        go_ret2
        exact ⟨BAD.out _ hz, hb.out⟩
      | some y0 =>
        obtain ⟨t, q⟩ := y0
        have hS := strB_S hsb
        have hSl := congrArg List.length hS
        rw [List.length_drop, toL_len, List.length_append] at hSl
        have hq2 : 2 ≤ (quo t).length := by simp [quo]
        obtain ⟨q0, hq0⟩ : ∃ q0, p + (quo t).length = q0 := ⟨_, rfl⟩
        have hdq : s.toList.drop (q0 + 1) = q := by
          rw [← hq0, show p + (quo t).length + 1 = (p + 1) + (quo t).length by omega, ← List.drop_drop, hS, List.drop_left]
        have hix2 : ixR s.size (some (t, q)) = (q0 : Int) + 1 := by
          show (s.size : Int) - (q.length : Int) = _
          omega
        rw [hsb, hix2] at HR
        have htl : t.length ≤ (quo t).length := by
          have := rdS_lens (r := esc t ++ [34]) (t := t) (q := []) (rdS_esc t [])
          simp only [quo, List.length_cons]
          omega
        have hq1 : q0 + 1 ≤ s.size := by omega
        obtain ⟨T, hT⟩ : ∃ T : ByteArray, ⟨t.toArray⟩ = T := ⟨_, rfl⟩
        have hTl : Hid (T.toList = t) := Lib.hid (by rw [← hT, tl])
        rw [show txR (some (t, q)) = t from rfl, hT] at HR
        have HC58 := Lib.hid (H58.out (q0 + 1) W0 hq1)
        rw [Int.natCast_succ, hdq] at HC58
        have hft : Hid (Fits ⟨4, 0, T.toList, 0⟩) := Lib.hid (fits_small _ _ _ _ (by omega) (by omega) (by omega) (by rw [hTl.out]; omega))
        cases h58 : ([58] : Txt).isPrefixOf q with
        | false =>
          rw [h58] at HC58
          have hz : Hid (Z = none) := Lib.hid (by rw [← ht.out]; exact tgt_no HPR.out (gP_no (rdK_B1 hsb h58)))
          clear hsb h58 HV HCo HSt hown hfit ht hm0 hS hdq hix2 hT hTl
          go_wp2_with fail
          refine HS1.out.mono ?_
          rintro e w' ⟨rfl, rfl⟩
          go_wp2_with fail
          refine HR.out.mono ?_
          rintro e w' ⟨rfl, rfl⟩
          go_wp2_with fail
          refine HC58.out.mono ?_
          rintro e w' ⟨rfl, rfl⟩
          go_wp2_with fail
          go_ret2
          exact ⟨BAD.out _ hz, hb.out⟩
        | true =>
          rw [h58] at HC58
          obtain ⟨q', rfl⟩ := pre_cons h58
          have hkk := rdK_B2 hsb
          have hgp : Hid (gP (rdG intR k) (s.toList.drop (p + 1)) = (gV (rdG intR k) q').map fun x => (⟨4, 0, t, 0⟩ :: x.1, x.2)) := Lib.hid (gP_at hkk)
          have hdq2 : s.toList.drop (q0 + 1 + 1) = q' := by rw [← List.drop_drop, hdq]; rfl
          have hql : (58 :: q').length = q'.length + 1 := rfl
          have hq3 : q0 + 1 + 1 ≤ s.size := by omega
          have HRd : Hid (∀ W, Calls Tryd.prog 54 #[.string s, .int .i64 ((q0 : Int) + 1 + 1)] W fun e w' => RP s w' e (gV (rdG intR k) q') ∧ Bel W w') := Lib.hid (fun W => by
            have h1 := HV.out (q0 + 1 + 1) W hq3 (by omega)
            rw [hdq2] at h1
            exact h1)
          have KB := Lib.hid (Bel.alloc (Bel.refl W0) (.cells #[.int .i64 4, .int .i64 0, .string T, .int .i64 0] 51))
          have KC := Lib.hid (lit_cArg W0 4 0 0 T 51 hft.out)
          have KO := Lib.hid (own_belz hown.out KB.out)
          have KS := Lib.hid (hst.out.on KB.out)
          have kbs : Hid (w.heap.size + 1 ≤ (W0.alloc (.cells #[.int .i64 4, .int .i64 0, .string T, .int .i64 0] 51)).heap.size) := Lib.hid (cell_lt KS.out.1)
          have kq : Hid (m + 1 ≤ 1099511627776) := Lib.hid (by omega)
          have KBW := Lib.hid (Bel.trans hb.out KB.out)
          have HFK : Hid (Fits ⟨4, 0, t, 0⟩) := Lib.hid (by have := hft.out; rw [hTl.out] at this; exact this)
          clear hsb h58 hkk hS hdq hix2 hT hdq2 hft
          go_wp2_with fail
          refine HS1.out.mono ?_
          rintro e w' ⟨rfl, rfl⟩
          go_wp2_with fail
          refine HR.out.mono ?_
          rintro e w' ⟨rfl, rfl⟩
          go_wp2_with fail
          refine HC58.out.mono ?_
          rintro e w' ⟨rfl, rfl⟩
          go_wp2_with (at_builtin; refine list_appG _ _ rfl rfl rfl rfl rfl kbs.out KO.out KC.out (Nat.zero_lt_one) kq.out ?_; intro ok ck wk gk kk; refine Hid.out ?_)
          refine Lib.hid ?_
          have LS := Lib.hid (KS.out.grown gk.out (own_ne KO.out))
          have LB := Lib.hid (own_bel1 KO.out KBW.out gk.out)
          clear k0 k1 k2 k3 kz HS1 HR HC58 KB KC KO KS kbs kq KBW gk
          rw [hTl.out] at kk
          cases hg : gV (rdG intR k) q' with
          | none =>
            have hz : Hid (Z = none) := Lib.hid (by rw [← ht.out]; exact tgt_no HPR.out (by rw [hgp.out, hg]; rfl))
            rw [hg] at HRd
            clear hg HV HCo HSt hown hfit ht hm0 hgp
            obtain ⟨k0, k1, k2, k3, kz⟩ := LS.out
            go_wp2_with fail
            refine (HRd.out _).mono ?_
            rintro e w1 ⟨⟨o, n, c, l, rfl, hA, hnc, hl⟩, g⟩
            have HG := Lib.hid (Bel.trans LB.out g)
            clear hA hl g
            simp only [ixR]
            go_wp2_with fail
            go_ret2
            exact ⟨BAD.out _ hz, HG.out⟩
          | some y =>
            obtain ⟨cs1, r⟩ := y
            rw [hg] at hgp
            have hgG : gP (rdG intR k) (s.toList.drop (p + 1)) = some (⟨4, 0, t, 0⟩ :: cs1, r) := hgp.out
            obtain ⟨hn1, hn2, P, d, hPd, hd⟩ := gP_shp k hgG
            obtain ⟨hm1, -, -⟩ := gV_shp k hg
            rw [List.length_drop, toL_len, List.length_cons] at hn2
            obtain ⟨hs1, -, hs3, hs4⟩ := shp_at hPd
            have hdp := shp2 hPd
            obtain ⟨p2, hp2⟩ : ∃ p2, p + 1 + P.length = p2 := ⟨_, rfl⟩
            rw [hp2] at hs1 hs3 hs4 hdp
            have hpp : p + 1 ≤ p2 := by omega
            have hixr : ixR s.size (some (cs1, r)) = (p2 : Int) + 1 := by
              show (s.size : Int) - (r.length : Int) = _
              omega
            rw [hg] at HRd
            have HR2 : Hid (∀ W, Calls Tryd.prog 54 #[.string s, .int .i64 ((q0 : Int) + 1 + 1)] W fun e w' => (∃ o n c, e = .returned (.tuple #[.slice o n c, .int .i64 ((p2 : Int) + 1)]) ∧ CArg w' o n cs1 ∧ n ≤ c) ∧ Bel W w') := Lib.hid (fun W => (HRd.out W).mono (by
              rintro e w' ⟨⟨o, n, c, l, rfl, hA, hnc, hl⟩, g⟩
              obtain rfl := hl _ rfl
              rw [hixr]
              exact ⟨⟨o, n, c, rfl, hA, hnc⟩, g⟩))
            clear HRd
            obtain ⟨f', rfl⟩ : ∃ f', f = f' + 1 := ⟨f - 1, by omega⟩
            have HGg := Lib.hid hgG
            have Hs3 := Lib.hid hs3
            have Hdp := Lib.hid (at_drop hdp)
            have Hd := Lib.hid hd
            clear hg hgG hgp hPd hp2 hixr hs3 hdp hd hn1
            obtain ⟨k0, k1, k2, k3, kz⟩ := LS.out
            go_wp2_with fail
            refine (HR2.out _).mono ?_
            rintro e w1 ⟨⟨o, n, c, rfl, hA, hnc⟩, g⟩
            have hln := hA.1
            rw [hln] at hm1 hn2
            have B1 := Lib.hid (Bel.trans LB.out g)
            have S1 := Lib.hid (LS.out.on g)
            have O1 := Lib.hid (own_belz kk.out g)
            have A1 := Lib.hid hA
            have hbs : Hid (w.heap.size + 1 ≤ w1.heap.size) := Lib.hid (cell_lt S1.out.1)
            obtain ⟨e0, e1, e2, e3, ez⟩ := S1.out
            have q1 : Hid (m + 1 + n ≤ 1099511627776) := Lib.hid (by omega)
            clear hA g HR2 k0 k1 k2 k3 kz LB LS kk
            go_wp2_with (at_builtin; refine list_appG _ _ rfl rfl rfl rfl rfl hbs.out O1.out A1.out hm1 q1.out ?_; intro o3 c3 w3 g3 k3; refine Hid.out ?_)
            refine Lib.hid ?_
            rw [List.append_assoc, List.singleton_append] at k3
            have S3 := Lib.hid (S1.out.grown g3.out (own_ne O1.out))
            have B3 := Lib.hid (own_bel1 O1.out B1.out g3.out)
            clear e0 e1 e2 e3 ez
            obtain ⟨e0, e1, e2, e3, ez⟩ := S3.out
            have HC1 := Lib.hid (HCo.out (p2 + 1) (w3.setCell ⟨w.heap.size, 3, none⟩ (.int .i64 ((j : Int) + 1))) (by omega))
            have HS2 := Lib.hid (HSt.out (p2 + 1) (w3.setCell ⟨w.heap.size, 3, none⟩ (.int .i64 ((j : Int) + 1))) (by omega))
            rw [Int.natCast_succ, Hs3.out] at HC1 HS2
            have S4 : Hid (StC (w3.setCell ⟨w.heap.size, 3, none⟩ (.int .i64 ((j : Int) + 1))) w.heap.size 6 ((j + 1 : Nat) : Int)) := Lib.hid (S3.out.count ((j : Int) + 1))
            have O4 := Lib.hid (own_kept k3.out ((Mod.refl (fun q => q = w.heap.size) w3).setCell (Or.inl rfl) (.int .i64 ((j : Int) + 1)) : Mod _ w3 (w3.setCell ⟨w.heap.size, 3, none⟩ (.int .i64 ((j : Int) + 1)))) (fun b hb e => own_ne k3.out (by rw [hb, e])))
            have B4 := Lib.hid (B3.out.setCell (p := ⟨w.heap.size, 3, none⟩) (Nat.le_refl _) (.int .i64 ((j : Int) + 1)))
            have Z4 : Hid (w.heap.size + 1 ≤ (w3.setCell ⟨w.heap.size, 3, none⟩ (.int .i64 ((j : Int) + 1))).heap.size) := Lib.hid (cell_lt S4.out.1)
            have F4 : Hid (∀ c ∈ cs ++ ⟨4, 0, t, 0⟩ :: cs1, Fits c) := Lib.hid (fun c h => (List.mem_append.1 h).elim (hfit.out c) (fun h => (List.mem_cons.1 h).elim (fun e => by rw [e]; exact HFK.out) (A1.out.2.1 c)))
            have L4 : Hid ((cs ++ ⟨4, 0, t, 0⟩ :: cs1).length = m + 1 + n) := Lib.hid (by rw [List.length_append, List.length_cons, hcl.out, hln]; omega)
            have N4 : Hid (m + 1 + n = 0 → o3 = none ∧ c3 = 0) := Lib.hid (fun h => by omega)
            obtain ⟨b1, hb1⟩ : ∃ b1, ([44] : Txt).isPrefixOf r = b1 := ⟨_, rfl⟩
            obtain ⟨b2, hb2⟩ : ∃ b2, ([125] : Txt).isPrefixOf r = b2 := ⟨_, rfl⟩
            rw [hb1] at HC1
            rw [hb2] at HS2
            have Hb1 := Lib.hid hb1
            have Hb2 := Lib.hid hb2
            clear S1 O1 A1 B1 S3 B3 hbs q1 HCo HSt HV hcl hfit hst hown hb hsz hm0 g3 k3 hb1 hb2
            go_wp2_with fail
            refine HC1.out.mono ?_
            rintro e w' ⟨rfl, rfl⟩
            clear HC1
            cases b1 with
            | true =>
              obtain ⟨r', hr'⟩ := pre_cons Hb1.out
              have hrl : r.length = r'.length + 1 := by rw [hr']; rfl
              have hc4 : Hid ((decide (0 < j + 1) && decide (s.toList[p2 + 1]? = some 44)) = true) := Lib.hid (by
                have h1 : s.toList.drop (p2 + 1) = 44 :: r' := by rw [Hs3.out, hr']
                rw [at_drop h1]
                simp)
              have ht4 : Hid (tgt (gP (rdG intR k)) 6 125 true f' (s.toList.drop (p2 + 1 + 1)) (cs ++ ⟨4, 0, t, 0⟩ :: cs1) (j + 1) = Z) := Lib.hid (by
                rw [← ht.out, ← List.drop_drop, Hs3.out, hr']
                exact (tgt_comma HPR.out (by rw [HGg.out, hr']; rfl)).symm)
              clear ht HPR HGg hr' Hs3 Hdp HS2 e0 e1 e2 e3 ez
              go_wp2
              go_round
              case rel => exact ⟨m + 1 + n, p2 + 1, c3, o3, j + 1, f', (cs ++ ⟨4, 0, t, 0⟩ :: cs1), true, rfl, by go_num, by omega, by omega, by omega, by omega, by omega, N4, L4, F4, S4, O4, B4, Z4, hc4, ht4⟩
              case measure => simp [intOf]; omega
            | false =>
              go_wp2_with fail
              refine HS2.out.mono ?_
              rintro e w' ⟨rfl, rfl⟩
              clear HS2
              cases b2 with
              | true =>
                obtain ⟨r', hr'⟩ := pre_cons Hb2.out
                have hc4 : Hid ((decide (0 < j + 1) && decide (s.toList[p2]? = some 44)) = false) := Lib.hid (by
                  rw [Hdp.out, decide_eq_false (p := some d = some 44) (fun h => Hd.out (Option.some.inj h)), Bool.and_false])
                have ht4 : Hid (tgt (gP (rdG intR k)) 6 125 false f' (s.toList.drop (p2 + 1)) (cs ++ ⟨4, 0, t, 0⟩ :: cs1) (j + 1) = Z) := Lib.hid (by
                  rw [← ht.out, Hs3.out, hr']
                  exact (tgt_close HPR.out (by decide) (by rw [HGg.out, hr'])).symm)
                clear ht HPR HGg hr' Hs3 Hdp e0 e1 e2 e3 ez
                go_wp2
                go_round
                case rel => exact ⟨m + 1 + n, p2, c3, o3, j + 1, f', (cs ++ ⟨4, 0, t, 0⟩ :: cs1), false, rfl, by go_num, by omega, by omega, by omega, by omega, by omega, N4, L4, F4, S4, O4, B4, Z4, hc4, ht4⟩
                case measure => simp [intOf]; omega
              | false =>
                have hz : Hid (Z = none) := Lib.hid (by rw [← ht.out]; exact tgt_bad HPR.out HGg.out Hb1.out Hb2.out)
                clear ht HPR HGg Hs3 Hdp e0 e1 e2 e3 ez
                go_wp2
                go_ret2
                exact ⟨⟨none, 0, 0, [], by rw [hz.out]; rfl, CArg.nil _ none, Nat.le_refl _, fun x hx => by rw [hz.out] at hx; cases hx⟩, B4.out⟩
end Val
end Go.Proofs.YtonlcjackbhnmaaDoor
