/-
  Layer 7: the laws LexJoins and LexOffsets.
-/
import Derived.Test.YtghjflmanldjlaaDoorLexZ
namespace Go.Proofs.YtghjflmanldjlaaDoor
open Go.RowKit Go.ChangeShapes Go.WideShapes
namespace Lex

theorem spread_core : ∀ (p : Nat) (L : List Tk), L.map core = (spread p L).map core
  | _, [] => rfl
  | p, t :: r => by
    rw [spread, List.map_cons, List.map_cons, ← spread_core (p + (wrt t).length + 1) r]
    rfl
theorem spread_step (L M : List Tk) (q k : Nat) (h : k < L.length) (h2 : k < M.length) (hs : M.drop k = spread q (L.drop k)) : M[k] = ⟨L[k].k, L[k].s, L[k].i, q⟩ ∧ M.drop (k + 1) = spread (q + (wrt L[k]).length + 1) (L.drop (k + 1)) := by
  rw [List.drop_eq_getElem_cons h, List.drop_eq_getElem_cons h2, spread] at hs
  injection hs with h3 h4
  exact ⟨h3, h4⟩
set_option maxRecDepth 100000 in
set_option maxHeartbeats 4000000 in
theorem law_joins (L : List Tk) (o : Option Addr) (n c : Nat) (hn : n ≤ 4611686018427387904) (hF : ∀ t ∈ L, FitT t) (w : World) (hm : ML w) (hA : TArg w o n L) :
    Calls Tryd.prog 6 #[.slice o n c] w fun e w' => e = .returned (.bool true) ∧ Bel w w' := by
  have K := Lib.hid hA
  have HM := Lib.hid hm
  have G := Lib.hid (Bel.refl w)
  have HSm := Lib.hid (small_any L o n c hn _ hA)
  cases hsb : smallB L with
  | false =>
    rw [hsb] at HSm
    clear hsb hA hm
    go_enter Tryd.func6, Tryd.ntmps6
    go_wp2_with (first | (go_at_call 13; ((with_reducible refine HSm.out.mono ?_); rintro e w' ⟨rfl, rfl⟩)) | (go_at_call 9; ((with_reducible refine (awake_any _ (HM.out.on G.out)).mono ?_); rintro e w' ⟨rfl, g⟩; replace G := Lib.hid (Bel.trans G.out g); clear g)))
    go_ret
    exact ⟨rfl, G.out⟩
  | true =>
    rw [hsb] at HSm
    obtain ⟨hsm, hl⟩ := small_sml hsb hF
    have HLn := Lib.hid hA.1
    rw [hA.1] at hl
    have H3 := Lib.hid (join_any L o n c (by omega) hsm w hm hA)
    by_cases hJ : joinE L = 0
    · obtain ⟨hT, hok⟩ := tokens_join hJ
      have hl2 : L.length ≤ 1000 := by
        rcases Nat.lt_or_ge 1000 L.length with g | g
        · rw [(joinE_full g).1] at hJ; cases hJ
        · exact g
      rw [HLn.out] at hl2
      rw [hJ] at H3
      obtain ⟨J, hJ0⟩ : ∃ J : ByteArray, ⟨(joinT L).toArray⟩ = J := ⟨_, rfl⟩
      have hJl : joinT L = J.toList := by rw [← hJ0]; exact (tl _).symm
      rw [hJ0] at H3
      rw [hJl] at hT
      have HT := Lib.hid (fun w => tokens_any J w)
      rw [hT] at HT
      have HOk := Lib.hid (List.all_eq_true.1 hok)
      have HSml := Lib.hid hsm
      have HSp := Lib.hid (spread_len 0 L)
      have HCo := Lib.hid (spread_core 0 L)
      clear hsb hA hm hsm hT hok hJ hJ0 hJl
      go_enter Tryd.func6, Tryd.ntmps6
      go_wp2_with (go_at_call 13; ((with_reducible refine HSm.out.mono ?_); rintro e w' ⟨rfl, rfl⟩))
      refine H3.out.mono ?_
      rintro e w1 ⟨rfl, g1⟩
      have G1 := Lib.hid g1
      clear g1 G H3
      go_wp2_with fail
      refine (HT.out _).mono ?_
      rintro e w2 ⟨⟨o2, n2, c2, rfl, hA2, hc2, hfr⟩, g1⟩
      have hnn : n2 = n := by rw [← hA2.1, HSp.out, HLn.out]
      subst hnn
      have A2 := Lib.hid hA2
      have G2 := Lib.hid (Bel.trans G1.out g1)
      clear hA2 hc2 hfr g1 G1 HT
      go_wp2_with fail
      refine (same_yes L (spread 0 L) o o2 n2 c c2 false (by omega) HCo.out (fun h => by cases h) _ (K.out.on G2.out) A2.out).mono ?_
      rintro e w3 ⟨rfl, g1⟩
      have A3 := Lib.hid (A2.out.on g1)
      have G3 := Lib.hid (Bel.trans G2.out g1)
      have hdr : Hid ((spread 0 L).drop 0 = spread 0 (L.drop 0)) := Lib.hid rfl
      clear g1 G2 A2
      generalize spread 0 L = M at *
      go_wp2
      go_loopw [7, 8, 9, 10, 39] (fun a _ _ _ i wr => ∃ k q : Nat, i = .int .i64 (k : Int) ∧ a = .int .i64 (q : Int) ∧ k ≤ n2 ∧ q ≤ 403 * k ∧ Hid (M.drop k = spread q (L.drop k)) ∧ Hid (TArg wr o2 n2 M) ∧ Hid (Bel w wr)) (fun _ _ _ _ i _ => n2 - (intOf i).toNat)
      case atStart => exact ⟨0, 0, rfl, rfl, Nat.zero_le _, Nat.zero_le _, hdr, A3, G3⟩
      case round =>
        obtain ⟨k, q, rfl, rfl, hk, hqk, hdk, hAr, hB⟩ := hrel
        clear hdr A3 G3 K
        by_cases hq : k < n2
        · have hkl : k < L.length := by rw [HLn.out]; exact hq
          have hkm : k < M.length := by rw [HSp.out, HLn.out]; exact hq
          obtain ⟨s1, s2⟩ := spread_step L M q k hkl hkm hdk.out
          obtain ⟨b, f, rfl, hcells⟩ := hAr.out.2 (by omega)
          obtain ⟨x1, x2, x3, x4⟩ := hcells k hkm
          have hok := HOk.out L[k] (List.getElem_mem hkl)
          have hsmk := HSml.out L[k] (List.getElem_mem hkl)
          rw [s1] at x1 x2 x3 x4
          obtain ⟨⟨tk, ts, ti, ta⟩, ht⟩ : ∃ t, L[k] = t := ⟨_, rfl⟩
          rw [ht] at x1 x2 x3 x4 hok hsmk s2
          dsimp only at x1 x2 x3 x4 hsmk
          obtain ⟨S, hS⟩ : ∃ S : ByteArray, ⟨ts.toArray⟩ = S := ⟨_, rfl⟩
          have hSl : ts = S.toList := by rw [← hS]; exact (tl _).symm
          rw [hS] at x2
          rw [hSl] at hok hsmk s2
          rw [toL_len] at hsmk
          have hokq : okT ⟨tk, S.toList, ti, (q : Int)⟩ = true := ((okT_core (t := ⟨tk, S.toList, ti, (q : Int)⟩) (u := ⟨tk, S.toList, ti, ta⟩) rfl).1).trans hok
          have hwq : wrt ⟨tk, S.toList, ti, (q : Int)⟩ = wrt ⟨tk, S.toList, ti, ta⟩ := (okT_core (t := ⟨tk, S.toList, ti, (q : Int)⟩) (u := ⟨tk, S.toList, ti, ta⟩) rfl).2
          have hxl := (ok_len hok).2
          obtain ⟨y1, y2⟩ := txt_yes hokq
          have HT := Lib.hid (fun w hm => text_any tk ti (q : Int) S hsmk.1 hsmk.2 w hm)
          rw [y1, y2, hwq] at HT
          obtain ⟨X, hX⟩ : ∃ X : ByteArray, ⟨(wrt ⟨tk, S.toList, ti, ta⟩).toArray⟩ = X := ⟨_, rfl⟩
          have hXl : wrt ⟨tk, S.toList, ti, ta⟩ = X.toList := by rw [← hX]; exact (tl _).symm
          rw [hX] at HT
          rw [hXl, toL_len] at hxl s2
          have hd2 := Lib.hid s2
          clear s1 s2 hdk hcells hok hokq hwq hsmk ht hS hSl y1 y2 hX hXl hkl hkm
          go_wp2_with fail
          refine (HT.out _ (HM.out.on hB.out)).mono ?_
          rintro e w4 ⟨rfl, g1⟩
          have x5 := g1.cell x4
          have hA4 := Lib.hid (hAr.out.on g1)
          have G4 := Lib.hid (Bel.trans hB.out g1)
          have hqq : (((q : Int) != (q : Int))) = false := by simp
          clear g1 hB hAr HT x1 x2 x3 x4
          go_wp2_with fail
          go_roundw
          case rel => exact ⟨k + 1, q + X.size + 1, by go_num, by go_num, by omega, by omega, hd2, hA4, G4⟩
          case measure => simp [intOf]; omega
        · have G := hB
          clear hB
          go_wp2_with (go_at_call 9; ((with_reducible refine (awake_any _ (HM.out.on G.out)).mono ?_); rintro e w' ⟨rfl, g⟩; replace G := Lib.hid (Bel.trans G.out g); clear g))
          go_ret
          exact ⟨rfl, G.out⟩
    · have hJz : (joinE L != 0) = true := by simpa using hJ
      generalize joinE L = JE at *
      generalize (⟨(joinT L).toArray⟩ : ByteArray) = J at *
      clear hsb hA hm hsm hJ
      go_enter Tryd.func6, Tryd.ntmps6
      go_wp2_with (go_at_call 13; ((with_reducible refine HSm.out.mono ?_); rintro e w' ⟨rfl, rfl⟩))
      refine H3.out.mono ?_
      rintro e w1 ⟨rfl, g1⟩
      replace G := Lib.hid g1
      clear g1 H3
      go_wp2_with (go_at_call 9; ((with_reducible refine (awake_any _ (HM.out.on G.out)).mono ?_); rintro e w' ⟨rfl, g⟩; replace G := Lib.hid (Bel.trans G.out g); clear g))
      go_ret
      exact ⟨rfl, G.out⟩
end Lex
end Go.Proofs.YtghjflmanldjlaaDoor
