/-
  Layer 6, the reference: read, out of readMany.
-/
import Derived.Test.YtonlcjackbhnmaaDoorVdK
namespace Go.Proofs.YtonlcjackbhnmaaDoor
open Go.RowKit Go.ChangeShapes Go.WideShapes
namespace Val

/-- Cells and the index behind them, as the reader returns them. -/
def RP (s : ByteArray) (w : World) (e : Ending) (X : Option (List Cel × Txt)) : Prop := ∃ o n c l, e = .returned (.tuple #[.slice o n c, .int .i64 (ixR s.size X)]) ∧ CArg w o n l ∧ n ≤ c ∧ ∀ x, X = some x → l = x.1
def RRead (s : ByteArray) (k : Nat) : Prop := ∀ (i : Nat) (w : World), i ≤ s.size → s.size - i ≤ k →
  Calls Tryd.prog 54 #[.string s, .int .i64 (i : Int)] w fun e w' => RP s w' e (gV (rdG intR k) (s.toList.drop i)) ∧ Bel w w'
def RMany (s : ByteArray) (k : Nat) : Prop := ∀ (i : Nat) (w : World) (h : i < s.size), s.size - i ≤ k + 1 →
  (s[i] = 91 → Calls Tryd.prog 87 #[.string s, .int .i64 (i : Int)] w fun e w' => RP s w' e (gE (gV (rdG intR k)) 5 93 k (s.toList.drop (i + 1))) ∧ Bel w w') ∧
  (s[i] = 123 → Calls Tryd.prog 87 #[.string s, .int .i64 (i : Int)] w fun e w' => RP s w' e (gE (gP (rdG intR k)) 6 125 k (s.toList.drop (i + 1))) ∧ Bel w w')
theorem byte_is (c : UInt8) (n : Nat) (b : UInt8) (h : b.toNat = n) : ((c.toNat : Int) == (n : Int)) = decide (c = b) := by
  rw [Bool.eq_iff_iff, beq_iff_eq, decide_eq_true_eq]
  constructor
  · intro k; apply UInt8.toNat_inj.1; omega
  · rintro rfl; rw [h]
theorem null1 (w : World) : Calls Tryd.prog 28 #[] w fun e w' => (∃ o, e = .returned (.slice o 1 1) ∧ CArg w' o 1 [⟨1, 0, [], 0⟩]) ∧ Bel w w' := by
  go_enter Tryd.func28, Tryd.ntmps28
  go_wp2
  go_ret
  exact ⟨⟨_, rfl, lit_cArg0 w 1 0 0 _ (fits_small _ _ _ _ (by omega) (by omega) (by omega) (by decide))⟩, Bel.alloc (Bel.refl _) _⟩
theorem bool1 (b : Bool) (w : World) : Calls Tryd.prog 30 #[.bool b] w fun e w' => (∃ o, e = .returned (.slice o 1 1) ∧ CArg w' o 1 [⟨2, if b then 1 else 0, [], 0⟩]) ∧ Bel w w' := by
  cases b
  · go_enter Tryd.func30, Tryd.ntmps30
    go_wp2
    go_ret
    exact ⟨⟨_, rfl, lit_cArg0 w 2 0 0 _ (fits_small _ _ _ _ (by omega) (by omega) (by omega) (by decide))⟩, Bel.alloc (Bel.refl _) _⟩
  · go_enter Tryd.func30, Tryd.ntmps30
    go_wp2
    go_ret
    exact ⟨⟨_, rfl, lit_cArg0 w 2 1 0 _ (fits_small _ _ _ _ (by omega) (by omega) (by omega) (by decide))⟩, Bel.alloc (Bel.refl _) _⟩
theorem rdS_lens {r t q : Txt} (h : rdS r = some (t, q)) : t.length ≤ r.length := by
  rw [rdS_sound h, List.length_append]
  have : ∀ l : Txt, l.length ≤ (esc l).length := fun l => by
    induction l with
    | nil => exact Nat.le_refl _
    | cons c l ih => rw [esc]; split <;> simp only [List.length_cons] <;> omega
  have := this t
  omega
theorem ixR_map {α β : Type} (n : Nat) (f : α → β) (X : Option (α × Txt)) : ixR n (X.map fun x => (f x.1, x.2)) = ixR n X := by cases X <;> rfl
theorem intR_nil : intR [] = none := by unfold intR; decide
set_option maxRecDepth 100000 in
set_option maxHeartbeats 8000000 in
theorem read_step (s : ByteArray) (k : Nat) (hs : s.size ≤ 1000000) (hM : RMany s k) : RRead s (k + 1) := by
  intro i w hi hk
  obtain ⟨Z, hZ⟩ : ∃ Z, gV (rdG intR (k + 1)) (s.toList.drop i) = Z := ⟨_, rfl⟩
  rw [hZ]
  have HZ := Lib.hid hZ
  have HM := Lib.hid hM
  clear hM hZ
  have hdl : (s.toList.drop i).length = s.size - i := by rw [List.length_drop, toL_len]
  by_cases hlt : i < s.size
  · have Hdl := Lib.hid hdl
    have HkS : Hid ((s.toList.drop i).length ≤ k + 1) := Lib.hid (by rw [hdl]; exact hk)
    have q0 := starts_any s ⟨#[110, 117, 108, 108]⟩ i (by omega) (by omega) (by decide) (by decide)
    have q1 := starts_any s ⟨#[116, 114, 117, 101]⟩ i (by omega) (by omega) (by decide) (by decide)
    have q2 := starts_any s ⟨#[102, 97, 108, 115, 101]⟩ i (by omega) (by omega) (by decide) (by decide)
    rw [show (⟨#[110, 117, 108, 108]⟩ : ByteArray).toList = pNull from tl pNull] at q0
    rw [show (⟨#[116, 114, 117, 101]⟩ : ByteArray).toList = pTrue from tl pTrue] at q1
    rw [show (⟨#[102, 97, 108, 115, 101]⟩ : ByteArray).toList = pFalse from tl pFalse] at q2
    cases hp0 : (pNull : Txt).isPrefixOf (s.toList.drop i) with
    | true =>
      rw [hp0] at q0
      have HQ0 := Lib.hid q0
      have hz : Hid (Z = some ([⟨1, 0, [], 0⟩], (s.toList.drop i).drop 4)) := Lib.hid (by rw [← HZ.out]; exact sp_null intR hp0 HkS.out)
      have hix : Hid (ixR s.size Z = (i : Int) + 4) := Lib.hid (by
        rw [hz.out]
        show (s.size : Int) - (((s.toList.drop i).drop 4).length : Int) = _
        have h1 : 4 + ((s.toList.drop i).drop 4).length = (s.toList.drop i).length := pre_len hp0
        rw [Hdl.out] at h1
        omega)
      clear hp0 q0
      go_enter Tryd.func54, Tryd.ntmps54
      go_wp2_with fail
      refine (HQ0.out _).mono ?_
      rintro e w' ⟨rfl, rfl⟩
      go_wp2_with fail
      refine (null1 w).mono ?_
      rintro e w1 ⟨⟨o, rfl, hA⟩, g⟩
      have HA := Lib.hid hA
      have HG := Lib.hid g
      clear hA g
      go_wp2_with fail
      go_ret2
      exact ⟨⟨o, 1, 1, _, by rw [hix.out]; rfl, HA.out, Nat.le_refl _, fun x hx => by rw [hz.out] at hx; cases hx; rfl⟩, HG.out⟩
    | false =>
      rw [hp0] at q0
      have HQ0 := Lib.hid q0
      have HP0 := Lib.hid hp0
      clear q0 hp0
      cases hp1 : (pTrue : Txt).isPrefixOf (s.toList.drop i) with
      | true =>
        rw [hp1] at q1
        have HQ1 := Lib.hid q1
        have hz : Hid (Z = some ([⟨2, 1, [], 0⟩], (s.toList.drop i).drop 4)) := Lib.hid (by rw [← HZ.out]; exact sp_true intR hp1 HkS.out)
        have hix : Hid (ixR s.size Z = (i : Int) + 4) := Lib.hid (by
          rw [hz.out]
          show (s.size : Int) - (((s.toList.drop i).drop 4).length : Int) = _
          have h1 : 4 + ((s.toList.drop i).drop 4).length = (s.toList.drop i).length := pre_len hp1
          rw [Hdl.out] at h1
          omega)
        clear hp1 q1
        go_enter Tryd.func54, Tryd.ntmps54
        go_wp2_with fail
        refine (HQ0.out _).mono ?_
        rintro e w' ⟨rfl, rfl⟩
        go_wp2_with fail
        refine (HQ1.out _).mono ?_
        rintro e w' ⟨rfl, rfl⟩
        go_wp2_with fail
        refine (bool1 true w).mono ?_
        rintro e w1 ⟨⟨o, rfl, hA⟩, g⟩
        have HA := Lib.hid hA
        have HG := Lib.hid g
        clear hA g
        go_wp2_with fail
        go_ret2
        exact ⟨⟨o, 1, 1, _, by rw [hix.out]; rfl, HA.out, Nat.le_refl _, fun x hx => by rw [hz.out] at hx; cases hx; rfl⟩, HG.out⟩
      | false =>
        rw [hp1] at q1
        have HQ1 := Lib.hid q1
        have HP1 := Lib.hid hp1
        clear q1 hp1
        cases hp2 : (pFalse : Txt).isPrefixOf (s.toList.drop i) with
        | true =>
          rw [hp2] at q2
          have HQ2 := Lib.hid q2
          have hz : Hid (Z = some ([⟨2, 0, [], 0⟩], (s.toList.drop i).drop 5)) := Lib.hid (by rw [← HZ.out]; exact sp_false intR hp2 HkS.out)
          have hix : Hid (ixR s.size Z = (i : Int) + 5) := Lib.hid (by
            rw [hz.out]
            show (s.size : Int) - (((s.toList.drop i).drop 5).length : Int) = _
            have h1 : 5 + ((s.toList.drop i).drop 5).length = (s.toList.drop i).length := pre_len hp2
            rw [Hdl.out] at h1
            omega)
          clear hp2 q2
          go_enter Tryd.func54, Tryd.ntmps54
          go_wp2_with fail
          refine (HQ0.out _).mono ?_
          rintro e w' ⟨rfl, rfl⟩
          go_wp2_with fail
          refine (HQ1.out _).mono ?_
          rintro e w' ⟨rfl, rfl⟩
          go_wp2_with fail
          refine (HQ2.out _).mono ?_
          rintro e w' ⟨rfl, rfl⟩
          go_wp2_with fail
          refine (bool1 false w).mono ?_
          rintro e w1 ⟨⟨o, rfl, hA⟩, g⟩
          have HA := Lib.hid hA
          have HG := Lib.hid g
          clear hA g
          go_wp2_with fail
          go_ret2
          exact ⟨⟨o, 1, 1, _, by rw [hix.out]; rfl, HA.out, Nat.le_refl _, fun x hx => by rw [hz.out] at hx; cases hx; rfl⟩, HG.out⟩
        | false =>
          rw [hp2] at q2
          have HQ2 := Lib.hid q2
          have HP2 := Lib.hid hp2
          clear q2 hp2
          have hd := drop_at hlt
          obtain ⟨r, hr⟩ : ∃ r, s.toList.drop (i + 1) = r := ⟨_, rfl⟩
          rw [hr] at hd
          have HD := Lib.hid hd
          have HR := Lib.hid hr
          have b34' := b34 s[i]
          have b91' : ((s[i].toNat : Int) == 91) = decide (s[i] = 91) := byte_is s[i] 91 91 rfl
          have b123' : ((s[i].toNat : Int) == 123) = decide (s[i] = 123) := byte_is s[i] 123 123 rfl
          clear hd hr hdl
          by_cases c1 : s[i] = 34
          · rw [decide_eq_true c1] at b34'
            have HS := Lib.hid (readString_any s i (by omega) hi)
            have hsb : strB (s.toList.drop i) = rdS r := by rw [HD.out, c1, strB]; exact if_pos rfl
            rw [hsb] at HS
            have hz : Hid (Z = (rdS r).map fun x => ([⟨4, 0, x.1, 0⟩], x.2)) := Lib.hid (by rw [← HZ.out, HD.out, c1]; exact sp_str intR r k)
            have hrl : Hid (r.length ≤ 1000000) := Lib.hid (by rw [← HR.out, List.length_drop, toL_len]; omega)
            obtain ⟨R, hR⟩ : ∃ R, rdS r = R := ⟨_, rfl⟩
            rw [hR] at HS hz
            have hix : Hid (ixR s.size Z = ixR s.size R) := Lib.hid (by rw [hz.out]; exact ixR_map s.size (fun t : Txt => ([⟨4, 0, t, 0⟩] : List Cel)) R)
            have hfit : Hid (Fits ⟨4, 0, (⟨(txR R).toArray⟩ : ByteArray).toList, 0⟩) := Lib.hid (by
              rw [tl]
              refine fits_small _ _ _ _ (by omega) (by omega) (by omega) ?_
              cases hR2 : R with
              | none => simp [txR]
              | some x =>
                obtain ⟨t, q⟩ := x
                rw [hR2] at hR
                have h1 := rdS_lens hR
                have h2 := hrl.out
                show t.length ≤ _
                omega)
            have hlx : Hid (∀ x, Z = some x → [⟨4, 0, (⟨(txR R).toArray⟩ : ByteArray).toList, 0⟩] = x.1) := Lib.hid (fun x hx => by
              rw [hz.out] at hx
              rw [tl]
              cases hR2 : R with
              | none => rw [hR2] at hx; cases hx
              | some y => rw [hR2] at hx; cases hx; rfl)
            obtain ⟨ix, hI⟩ : ∃ ix, ixR s.size R = ix := ⟨_, rfl⟩
            obtain ⟨T, hT⟩ : ∃ T : ByteArray, ⟨(txR R).toArray⟩ = T := ⟨_, rfl⟩
            rw [hI, hT] at HS
            rw [hI] at hix
            rw [hT] at hfit hlx
            clear hI hT hR hsb c1 b91' b123' HM
            go_enter Tryd.func54, Tryd.ntmps54
            go_wp2_with fail
            refine (HQ0.out _).mono ?_
            rintro e w' ⟨rfl, rfl⟩
            go_wp2_with fail
            refine (HQ1.out _).mono ?_
            rintro e w' ⟨rfl, rfl⟩
            go_wp2_with fail
            refine (HQ2.out _).mono ?_
            rintro e w' ⟨rfl, rfl⟩
            go_wp2_with fail
            refine (HS.out _).mono ?_
            rintro e w' ⟨rfl, rfl⟩
            go_wp2_with fail
            go_ret2
            exact ⟨⟨_, 1, 1, _, by rw [hix.out]; rfl, lit_cArg _ 4 0 0 T _ hfit.out, Nat.le_refl _, hlx.out⟩, Bel.alloc (Bel.refl _) _⟩
          by_cases c91 : s[i] = 91
          · rw [decide_eq_true c91] at b91'
            rw [decide_eq_false c1] at b34'
            have h1 := HM.out i w hlt (by omega)
            have HC := Lib.hid (h1.1 c91)
            rw [HR.out, ← sp_list intR r k, show (91 : UInt8) :: r = s.toList.drop i by rw [HD.out, c91], HZ.out] at HC
            clear h1 HM b123'
            go_enter Tryd.func54, Tryd.ntmps54
            go_wp2_with fail
            refine (HQ0.out _).mono ?_
            rintro e w' ⟨rfl, rfl⟩
            go_wp2_with fail
            refine (HQ1.out _).mono ?_
            rintro e w' ⟨rfl, rfl⟩
            go_wp2_with fail
            refine (HQ2.out _).mono ?_
            rintro e w' ⟨rfl, rfl⟩
            go_wp2_with fail
            refine HC.out.mono ?_
            rintro e w1 ⟨⟨o, n, c, l, rfl, hA, hc, hl⟩, g⟩
            have HA := Lib.hid hA
            have HG := Lib.hid g
            have HL := Lib.hid hl
            clear hA g hl HC
            go_wp2_with fail
            go_ret2
            exact ⟨⟨o, n, c, l, rfl, HA.out, hc, HL.out⟩, HG.out⟩
          by_cases c123 : s[i] = 123
          · rw [decide_eq_true c123] at b123'
            rw [decide_eq_false c1] at b34'
            rw [decide_eq_false c91] at b91'
            have h1 := HM.out i w hlt (by omega)
            have HC := Lib.hid (h1.2 c123)
            rw [HR.out, ← sp_map intR r k, show (123 : UInt8) :: r = s.toList.drop i by rw [HD.out, c123], HZ.out] at HC
            clear h1 HM 
            go_enter Tryd.func54, Tryd.ntmps54
            go_wp2_with fail
            refine (HQ0.out _).mono ?_
            rintro e w' ⟨rfl, rfl⟩
            go_wp2_with fail
            refine (HQ1.out _).mono ?_
            rintro e w' ⟨rfl, rfl⟩
            go_wp2_with fail
            refine (HQ2.out _).mono ?_
            rintro e w' ⟨rfl, rfl⟩
            go_wp2_with fail
            refine HC.out.mono ?_
            rintro e w1 ⟨⟨o, n, c, l, rfl, hA, hc, hl⟩, g⟩
            have HA := Lib.hid hA
            have HG := Lib.hid g
            have HL := Lib.hid hl
            clear hA g hl HC
            go_wp2_with fail
            go_ret2
            exact ⟨⟨o, n, c, l, rfl, HA.out, hc, HL.out⟩, HG.out⟩
          rw [decide_eq_false c1] at b34'
          rw [decide_eq_false c91] at b91'
          rw [decide_eq_false c123] at b123'
          have n1 : ([34] : Txt).isPrefixOf (s.toList.drop i) = false := by rw [HD.out]; exact pre1f r c1
          have n2 : ([91] : Txt).isPrefixOf (s.toList.drop i) = false := by rw [HD.out]; exact pre1f r c91
          have n3 : ([123] : Txt).isPrefixOf (s.toList.drop i) = false := by rw [HD.out]; exact pre1f r c123
          have hz : Hid (Z = (intR (s.toList.drop i)).map fun x => ([⟨3, x.1, [], 0⟩], x.2)) := Lib.hid (by rw [← HZ.out]; exact sp_int intR intR_nil HkS.out HP0.out HP2.out HP1.out n1 n2 n3)
          have HC : Hid (∀ w, Calls Tryd.prog 88 #[.string s, .int .i64 (i : Int)] w fun e w' => CRes w' e (intC (intR (s.toList.drop i))) (ixR s.size (intR (s.toList.drop i))) ∧ Bel w w') := Lib.hid (fun w => by
            by_cases c45 : s[i] = 45
            · exact readInt_neg s i (by omega) hlt c45 w
            · exact readInt_pos s i (by omega) hlt c45 w)
          have hix : Hid (ixR s.size (intR (s.toList.drop i)) = ixR s.size Z) := Lib.hid (by rw [hz.out]; exact (ixR_map s.size (fun t : Int => ([⟨3, t, [], 0⟩] : List Cel)) _).symm)
          have hlx : Hid (∀ x, Z = some x → intC (intR (s.toList.drop i)) = x.1) := Lib.hid (fun x hx => by
            rw [hz.out] at hx
            cases hR2 : intR (s.toList.drop i) with
            | none => rw [hR2] at hx; cases hx
            | some y => rw [hR2] at hx; cases hx; rfl)
          rw [hix.out] at HC
          generalize intC (intR (s.toList.drop i)) = L at *
          clear n1 n2 n3 hz HM hix c1 c91 c123
          go_enter Tryd.func54, Tryd.ntmps54
          go_wp2_with fail
          refine (HQ0.out _).mono ?_
          rintro e w' ⟨rfl, rfl⟩
          go_wp2_with fail
          refine (HQ1.out _).mono ?_
          rintro e w' ⟨rfl, rfl⟩
          go_wp2_with fail
          refine (HQ2.out _).mono ?_
          rintro e w' ⟨rfl, rfl⟩
          go_wp2_with fail
          refine (HC.out _).mono ?_
          rintro e w1 ⟨⟨o, n, c, rfl, hA, hc⟩, g⟩
          have HA := Lib.hid hA
          have HG := Lib.hid g
          clear hA g HC
          go_wp2_with fail
          go_ret2
          exact ⟨⟨o, n, c, L, rfl, HA.out, hc, hlx.out⟩, HG.out⟩
  · have hz : Hid (Z = none) := Lib.hid (by rw [← HZ.out, List.drop_of_length_le (by rw [toL_len]; omega)]; exact gV_nil _ _)
    have hge : (s.size : Int) ≤ (i : Int) := by omega
    clear hdl HM
    go_enter Tryd.func54, Tryd.ntmps54
    go_wp2
    go_ret2
    exact ⟨⟨none, 0, 0, [], by rw [hz.out]; rfl, CArg.nil w none, Nat.le_refl _, fun x hx => by rw [hz.out] at hx; cases hx⟩, Bel.refl _⟩
end Val
end Go.Proofs.YtonlcjackbhnmaaDoor
