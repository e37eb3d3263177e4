/-
  Layer 6: the reference's Decode; the law ValueDecodes.
-/
import Derived.Test.YtonlcjackbhnmaaDoorVdO
import Derived.Test.YtonlcjackbhnmaaDoorMK
namespace Go.Proofs.YtonlcjackbhnmaaDoor
open Go.RowKit Go.ChangeShapes Go.WideShapes
namespace Val

theorem read_any (s : ByteArray) (hs : s.size ≤ 1000000) : ∀ k, RRead s k
  | 0 => fun i w hi hk => by
    have hz : gV (rdG intR 0) (s.toList.drop i) = none := rfl
    rw [hz]
    have hge : (s.size : Int) ≤ (i : Int) := by omega
    clear hz
    go_enter Tryd.func54, Tryd.ntmps54
    go_wp2
    go_ret2
    exact ⟨⟨none, 0, 0, [], rfl, CArg.nil w none, Nat.le_refl _, fun x hx => by cases hx⟩, Bel.refl _⟩
  | k + 1 => read_step s k hs fun i w h hk => ⟨many_list s k hs (read_any s hs k) i w h hk, many_map s k hs (read_any s hs k) i w h hk⟩
theorem gV_valR {s : Txt} : valG intR s = (match gV (rdG intR s.length) s with | some (_, []) => (rdG intR s.length s).map (·.1) | _ => none) := by
  unfold valG gV
  cases h : rdG intR s.length s with
  | none => rfl
  | some x =>
    obtain ⟨v, r⟩ := x
    cases r <;> rfl
theorem decR_a {s : Txt} (h : ¬ 4000 < s.length) (hg : gV (rdG intR s.length) s = none) : decT s = ([], 1) :=
  dec_none snd_intR ful_intR h (by rw [gV_valR, hg])
theorem decR_b {s : Txt} (h : ¬ 4000 < s.length) {cs : List Cel} {d : UInt8} {r : Txt} (hg : gV (rdG intR s.length) s = some (cs, d :: r)) : decT s = ([], 1) :=
  dec_none snd_intR ful_intR h (by rw [gV_valR, hg])
theorem decR_c {s : Txt} (h : ¬ 4000 < s.length) {cs : List Cel} (hg : gV (rdG intR s.length) s = some (cs, [])) : decT s = (chkd cs, chk cs) := by
  have hv : ∃ v, valG intR s = some v ∧ cs = flat v := by
    unfold gV at hg
    cases hr : rdG intR s.length s with
    | none => rw [hr] at hg; cases hg
    | some x =>
      obtain ⟨v, r⟩ := x
      rw [hr] at hg
      simp only [Option.map_some, Option.some.injEq, Prod.mk.injEq] at hg
      obtain ⟨h1, h2⟩ := hg
      subst h2
      exact ⟨v, by unfold valG; rw [hr], h1.symm⟩
  obtain ⟨v, hv, rfl⟩ := hv
  rw [dec_some snd_intR ful_intR keeps_clamp h hv, ckT_eq]
theorem decT_len (s : Txt) : (decT s).1.length ≤ 4000 := by
  by_cases h : 4000 < s.length
  · rw [dec_long h]; exact Nat.zero_le _
  · cases hg : gV (rdG intR s.length) s with
    | none => rw [decR_a h hg]; exact Nat.zero_le _
    | some x =>
      obtain ⟨cs, r⟩ := x
      have h1 := (gV_shp _ hg).2.1
      cases r with
      | cons d r => rw [decR_b h hg]; exact Nat.zero_le _
      | nil =>
        rw [decR_c h hg]
        simp only [List.length_nil] at h1
        show (chkd cs).length ≤ _
        unfold chkd
        split
        · omega
        · exact Nat.zero_le _
set_option maxRecDepth 100000 in
set_option maxHeartbeats 4000000 in
theorem rdecode_any (s : ByteArray) (hs : s.size ≤ 1000000) (w : World) (hL : Lad w) :
    Calls Tryd.prog 34 #[.string s] w fun e w' => CRes w' e (decT s.toList).1 (decT s.toList).2 ∧ Bel w w' := by
  by_cases h4 : 4000 < s.size
  · have hz := Lib.hid (dec_long (s := s.toList) (by rw [toL_len]; exact h4))
    clear hL
    go_enter Tryd.func34, Tryd.ntmps34
    go_wp2_with fail
    go_ret2
    rw [hz.out]
    exact ⟨CRes.nil _ _, Bel.refl _⟩
  · have h4' : ¬ 4000 < s.toList.length := by rw [toL_len]; exact h4
    have d4 : decide ((4000 : Int) < (s.size : Int)) = false := decide_eq_false (by omega)
    have HR := Lib.hid (read_any s hs s.size 0 w (Nat.zero_le _) (Nat.le_refl _))
    rw [List.drop_zero] at HR
    have hsl : rdG intR s.size = rdG intR s.toList.length := by rw [toL_len]
    rw [hsl] at HR
    have HL := Lib.hid hL
    clear hL hsl
    cases hg : gV (rdG intR s.toList.length) s.toList with
    | none =>
      have hz := Lib.hid (decR_a h4' hg)
      rw [hg] at HR
      have hne : ((-1 : Int) != (s.size : Int)) = true := by simp only [bne_iff_ne, ne_eq]; omega
      clear hg h4'
      go_enter Tryd.func34, Tryd.ntmps34
      go_wp2_with fail
      refine HR.out.mono ?_
      rintro e w1 ⟨⟨o, n, c, l, rfl, hA, hnc, hl⟩, g⟩
      have G := Lib.hid g
      clear hA hl g
      simp only [ixR]
      go_wp2_with fail
      go_ret2
      rw [hz.out]
      exact ⟨CRes.nil _ _, G.out⟩
    | some x =>
      obtain ⟨cs, r⟩ := x
      have h1 := (gV_shp _ hg).2.1
      rw [toL_len] at h1
      rw [hg] at HR
      have hix : ixR s.size (some (cs, r)) = (s.size : Int) - (r.length : Int) := rfl
      cases r with
      | cons d r =>
        have hz := Lib.hid (decR_b h4' hg)
        obtain ⟨q, hq⟩ : ∃ q : Int, (s.size : Int) - ((d :: r).length : Int) = q := ⟨_, rfl⟩
        have hql : q < (s.size : Int) := by rw [← hq, List.length_cons]; omega
        have hne : (q != (s.size : Int)) = true := by simp only [bne_iff_ne, ne_eq]; omega
        rw [hq] at hix
        have HR2 := Lib.hid (HR.out.mono (R' := fun e w' => (∃ o n c, e = .returned (.tuple #[.slice o n c, .int .i64 q])) ∧ Bel w w') (by
          rintro e w' ⟨⟨o, n, c, l, rfl, hA, hnc, hl⟩, g⟩
          rw [hix]
          exact ⟨⟨o, n, c, rfl⟩, g⟩))
        clear hg h4' hix hq HR h1
        go_enter Tryd.func34, Tryd.ntmps34
        go_wp2_with fail
        refine HR2.out.mono ?_
        rintro e w1 ⟨⟨o, n, c, rfl⟩, g⟩
        have G := Lib.hid g
        clear g
        go_wp2_with fail
        go_ret2
        rw [hz.out]
        exact ⟨CRes.nil _ _, G.out⟩
      | nil =>
        have hz := Lib.hid (decR_c h4' hg)
        have HR2 := Lib.hid (HR.out.mono (R' := fun e w' => (∃ o n c, e = .returned (.tuple #[.slice o n c, .int .i64 (s.size : Int)]) ∧ CArg w' o n cs ∧ n ≤ c) ∧ Bel w w') (by
          rintro e w' ⟨⟨o, n, c, l, rfl, hA, hnc, hl⟩, g⟩
          obtain rfl := hl _ rfl
          rw [hix]
          exact ⟨⟨o, n, c, by simp, hA, hnc⟩, g⟩))
        have hne : ((s.size : Int) != (s.size : Int)) = false := by simp
        simp only [List.length_nil] at h1
        clear hg h4' hix HR
        go_enter Tryd.func34, Tryd.ntmps34
        go_wp2_with fail
        refine HR2.out.mono ?_
        rintro e w1 ⟨⟨o, n, c, rfl, hA, hnc⟩, g⟩
        have hln := hA.1
        have HC := Lib.hid (checked_any cs o n c (by omega) hnc w1 (HL.out.on g) hA)
        have G := Lib.hid g
        clear g hA
        go_wp2_with fail
        refine HC.out.mono ?_
        rintro e w2 ⟨⟨o4, k4, c4, rfl, h4a, h5⟩, g1⟩
        have HA := Lib.hid h4a
        have G2 := Lib.hid (Bel.trans G.out g1)
        clear h4a g1
        go_wp2_with fail
        go_ret2
        rw [hz.out]
        exact ⟨⟨o4, k4, c4, rfl, HA.out, h5⟩, G2.out⟩
theorem same_me (l : List Cel) : sameB l l = true := decide_eq_true rfl
set_option maxHeartbeats 4000000 in
theorem law_decodes (s : ByteArray) (w : World) (hL : Lad w) :
    Calls Tryd.prog 6 #[.string s] w fun e w' => e = .returned (.bool true) ∧ Bel w w' := by
  by_cases h4 : 4100 < s.size
  · go_enter Tryd.func6, Tryd.ntmps6
    go_wp2_with fail
    refine (awake_any w).mono ?_
    rintro e w1 ⟨rfl, g1⟩
    go_wp2_with fail
    go_ret
    exact ⟨rfl, g1⟩
  · have HD := Lib.hid (vdecode_any s (by omega) w)
    have HE := Lib.hid (fun w hL => rdecode_any s (by omega) w hL)
    have hlen := decT_len s.toList
    have d4 : decide ((4100 : Int) < (s.size : Int)) = false := decide_eq_false (by omega)
    have HL := Lib.hid hL
    obtain ⟨D, hD⟩ : ∃ D, (decT s.toList).1 = D := ⟨_, rfl⟩
    obtain ⟨E, hE⟩ : ∃ E, (decT s.toList).2 = E := ⟨_, rfl⟩
    rw [hD, hE] at HD
    rw [hD] at hlen
    have HE2 : Hid (∀ w, Lad w → Calls Tryd.prog 34 #[.string s] w fun e w' => CRes w' e D E ∧ Bel w w') := Lib.hid (fun w hL => by rw [← hD, ← hE]; exact HE.out w hL)
    clear hL hD hE HE
    go_enter Tryd.func6, Tryd.ntmps6
    go_wp2_with fail
    refine HD.out.mono ?_
    rintro e w1 ⟨⟨o, n, c, rfl, hA, hc⟩, g1⟩
    have hn1 := hA.1
    have HA := Lib.hid hA
    have G1 := Lib.hid g1
    clear hA g1 HD
    go_wp2_with fail
    refine (HE2.out w1 (HL.out.on G1.out)).mono ?_
    rintro e w2 ⟨⟨o2, n2, c2, rfl, hA2, hc2⟩, g2⟩
    have hn2 := hA2.1
    have HA2 := Lib.hid hA2
    have HA1 := Lib.hid (HA.out.on g2)
    have G2 := Lib.hid (Bel.trans G1.out g2)
    clear hA2 g2 HE2 HA G1
    have HS := Lib.hid (same_any D D o o2 n c n2 c2 (by omega) (by omega) w2 HA1.out HA2.out)
    rw [same_me] at HS
    go_wp2_with fail
    refine HS.out.mono ?_
    rintro e w3 ⟨rfl, g3⟩
    have G3 := Lib.hid (Bel.trans G2.out g3)
    clear g3 HS HA1 HA2 G2
    go_wp2_with fail
    refine (awake_any w3).mono ?_
    rintro e w4 ⟨rfl, g4⟩
    go_wp2_with fail
    go_ret
    exact ⟨rfl, Bel.trans G3.out g4⟩
end Val
end Go.Proofs.YtonlcjackbhnmaaDoor
