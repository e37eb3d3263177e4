/-
  Layer 6: Path and Get, as the program has them.
-/
import Derived.Test.YtegfcmnbljdcpaaGreatDoorVeA
import Derived.Scope
namespace Go.Proofs.YtegfcmnbljdcpaaGreatDoor
open Go.RowKit Go.ChangeShapes Go.WideShapes
namespace Val

set_option maxRecDepth 100000 in
set_option maxHeartbeats 4000000 in
theorem vpath_any (l : List Cel) (ps : List ByteArray) (o : Option Addr) (n c : Nat) (hn : n ≤ 1000000) (hc : n ≤ c) (hsh : Shrt l) (o2 : Option Addr) (n2 c2 : Nat) (hn2 : n2 ≤ 1000000) (w : World) (hA : CArg w o n l) (hP : SlArg w o2 n2 ps) :
    Calls Tryz.prog 13 #[.slice o n c, .slice o2 n2 c2] w fun e w' => CRes w' e (pathB l ps) (pathE l ps) ∧ Bel w w' := by
  have HA := Lib.hid hA
  have HP := Lib.hid hP
  have hpl := hP.1
  have HC := Lib.hid (vcheck_any l o n c hn hsh w hA)
  by_cases h0 : chk l = 0
  · have hzB : Hid (pathB l ps = (pathR l ps).1) := Lib.hid (if_pos h0)
    have hzE : Hid (pathE l ps = (pathR l ps).2) := Lib.hid (if_pos h0)
    have H0 := Lib.hid h0
    rw [h0] at HC
    obtain ⟨R, hR⟩ : ∃ R, pathR l ps = R := ⟨_, rfl⟩
    rw [hR] at hzB hzE
    have HR : Hid (pathR l (ps.drop 0) = R) := Lib.hid (by rw [List.drop_zero]; exact hR)
    clear hA hP h0 hR
    go_enter Tryz.func13, Tryz.ntmps13
    go_wp2
    refine wp_scope_straight ?_
    go_wp2_with fail
    refine HC.out.mono ?_
    rintro e w1 ⟨rfl, g1⟩
    have G1 := Lib.hid g1
    clear g1 HC
    go_wp2_with fail
    go_step3
    go_wp2
    go_loopw [0, 19] (fun v i wr => ∃ (k m c' : Nat) (a : Option Addr) (y : List Cel), v = .slice a m c' ∧ i = .int .i64 (k : Int) ∧ k ≤ n2 ∧ m ≤ 1000000 ∧ m ≤ c' ∧ Hid (CArg wr a m y) ∧ Hid (chk y = 0) ∧ Hid (pathR y (ps.drop k) = R) ∧ Hid (Bel w wr)) (fun _ i _ => n2 - (intOf i).toNat)
    case atStart => exact ⟨0, n, c, o, l, rfl, rfl, Nat.zero_le _, hn, hc, Lib.hid (HA.out.on G1.out), H0, HR, G1⟩
    case round =>
      obtain ⟨k, m, c', a, y, rfl, rfl, hk, hm, hmc, hy, hch, hr, hb⟩ := hrel
      rename World => W0
      clear HR HA H0 G1
      by_cases hlt : k < n2
      · have hkl : k < ps.length := by omega
        obtain ⟨ad, rfl, hkc⟩ := (HP.out.on hb.out).2 k hkl
        obtain ⟨key, hkey⟩ : ∃ x, ps[k] = x := ⟨_, rfl⟩
        have hst := hr.out
        rw [List.drop_eq_getElem_cons hkl, hkey] at hst
        rw [hkey] at hkc
        obtain ⟨t, hp, ht⟩ := chk_ok hch.out
        obtain ⟨hwf, hlf⟩ := par_some.1 hp
        obtain ⟨h, r, hf, hkd⟩ := head_kind t
        have hpos := flat_pos t
        rw [← hlf] at hpos
        have hln := hy.out.1
        obtain ⟨b, q, rfl, hcs⟩ := hy.out.2.2 (by omega)
        obtain ⟨z1, -, -, -⟩ := hcs 0 hpos
        have hl0 : y[0] = h := by simp only [hlf, hf, List.getElem_cons_zero]
        rw [hl0] at z1
        simp only [Nat.zero_mul, Nat.add_zero] at z1
        obtain ⟨kd, hkk⟩ : ∃ kd, h.k = kd := ⟨_, rfl⟩
        rw [hkk] at z1 hkd
        have hm0 : 0 < m := by omega
        cases t with
        | map x =>
          have hne : (kd != 6) = false := by rw [bne, hkd]; rfl
          have HS := Lib.hid (split_map x y hlf (some ⟨b, q, none⟩) m c' hm hmc W0 hy.out)
          subst hlf
          have HM := Lib.hid (pathR_map hch.out key (ps.drop (k + 1)))
          rw [hst] at HM
          have HSub := Lib.hid (fun (u : List Cel) (hu : u ∈ valsM x) => (⟨chk_sub hch.out hu, by have := valsM_le x u hu; have h2 := hy.out.1; simp only [flat, List.length_cons] at h2; omega⟩ : chk u = 0 ∧ u.length ≤ 1000000))
          have hkl2 : Hid ((keysM x).length = (valsM x).length) := Lib.hid (by rw [keysM_len, valsM_len])
          have hkb : (keysM x).length ≤ 1000000 := by
            rw [keysM_len]
            have h1 := lenM_le x
            have h2 := hy.out.1
            simp only [flat, List.length_cons] at h2
            omega
          generalize keysM x = ks at *
          generalize valsM x = vs at *
          clear hst hp ht hwf hf hkd hl0 hkk hcs hkey hr hch hy
          go_wp2_with fail
          refine HS.out.mono ?_
          rintro e w2 ⟨aN, mN, cN, aV, mV, cV, qs, rfl, hR, hI⟩
          have hargs := hR.args hI
          have HK := Lib.hid hargs.1
          have HV := Lib.hid hargs.2
          have G2 := Lib.hid (Bel.trans hb.out hR.2.2.2)
          have hkn := hargs.1.1
          have hvn := hargs.2.1
          clear hR hI hargs HS
          go_wp2_with fail
          go_loop [35] (fun i => ∃ j : Nat, i = .int .i64 (j : Int) ∧ j ≤ mN ∧ Hid (getM key (ks.drop j) (vs.drop j) = getM key ks vs)) (fun i => mN - (intOf i).toNat)
          case atStart => exact ⟨0, rfl, Nat.zero_le _, Lib.hid rfl⟩
          case round =>
            obtain ⟨j, rfl, hj, hg⟩ := hrel
            by_cases hjl : j < mN
            · have jk : j < ks.length := by omega
              have jv : j < vs.length := by have := hkl2.out; omega
              obtain ⟨aa, rfl, c1⟩ := HK.out.2 j jk
              obtain ⟨av, p, mm, cc, rfl, c2, hC, hmc2⟩ := HV.out.2 j jv
              have hgd := hg.out
              rw [getM_drop jk jv] at hgd
              obtain ⟨K, hK⟩ : ∃ K, ks[j] = K := ⟨_, rfl⟩
              obtain ⟨u, hu⟩ : ∃ u, vs[j] = u := ⟨_, rfl⟩
              have HSu := Lib.hid (HSub.out u (by rw [← hu]; exact List.getElem_mem jv))
              rw [hK] at c1 hgd
              rw [hu] at hC hgd
              have HCu := Lib.hid hC
              have hmm : mm ≤ 1000000 := by have h1 := HSu.out.2; have h2 := hC.1; omega
              have hjv : j < n2 ∨ True := Or.inr trivial
              clear hK hu hC hg hjv
              by_cases hKe : K = key
              · rw [if_pos hKe] at hgd
                have hr2 : Hid (pathR u (ps.drop (k + 1)) = R) := Lib.hid (by have := HM.out; rw [← hgd] at this; exact this.symm)
                have hs : (K.toList == key.toList) = true := by rw [hKe]; simp
                clear hgd hKe
                go_wp2
                go_round
                case rel => exact ⟨k + 1, mm, cc, p, u, rfl, by go_num, by omega, hmm, hmc2, HCu, Lib.hid HSu.out.1, hr2, G2⟩
                case measure => simp [intOf]; omega
              · rw [if_neg hKe] at hgd
                have hg2 := Lib.hid hgd
                have hs : (K.toList == key.toList) = false := by
                  rcases str_ways K key with ⟨_, _, _, f, _⟩ | h | ⟨_, _, _, f, _⟩
                  · exact f
                  · exact absurd h hKe
                  · exact f
                clear hgd hKe
                go_wp2
                go_round
                case rel => exact ⟨j + 1, by go_num, by omega, hg2⟩
                case measure => simp [intOf]; omega
            · obtain rfl : j = mN := by omega
              have hz : Hid (R = ([], 5)) := Lib.hid (by
                have h1 := HM.out
                rw [← hg.out, List.drop_of_length_le (by omega), List.drop_of_length_le (by have := hkl2.out; omega)] at h1
                exact h1)
              clear hg
              go_wp2
              try simp only [Exit.noGoto]
              go_ret2
              rw [hzB.out, hzE.out, hz.out]
              exact ⟨CRes.nil _ _, G2.out⟩
        | _ =>
          have hne : (kd != 6) = true := by rw [bne, hkd]; rfl
          have hz : Hid (R = ([], 7)) := Lib.hid (by rw [← hst]; exact pathR_no hch.out hp rfl key _)
          clear hst hp ht hwf hlf hf hkd hl0 hkk hcs hkey hr hch hy
          go_wp2_with fail
          try simp only [Exit.noGoto]
          go_ret2
          rw [hzB.out, hzE.out, hz.out]
          exact ⟨CRes.nil _ _, hb.out⟩
      · obtain rfl : k = n2 := by omega
        have hz : Hid (R = (y, 0)) := Lib.hid (by rw [← hr.out, List.drop_of_length_le (by omega), pathR])
        have hy0 : 0 < m := by
          obtain ⟨t, hp, ht⟩ := chk_ok hch.out
          obtain ⟨_, hlf⟩ := par_some.1 hp
          have := flat_pos t
          rw [← hlf] at this
          have := hy.out.1
          omega
        have HCl := Lib.hid (clone_any y a m c' hy0 hm W0 hy.out)
        clear hr
        go_wp2_with fail
        refine HCl.out.mono ?_
        rintro e w2 ⟨⟨o3, c3, rfl, hA3, hc3⟩, g3⟩
        have HA3 := Lib.hid hA3
        have G3 := Lib.hid (Bel.trans hb.out g3)
        clear hA3 g3
        go_wp2_with fail
        simp only [Exit.noGoto]
        go_ret2
        rw [hzB.out, hzE.out, hz.out]
        exact ⟨⟨o3, m, c3, rfl, HA3.out, hc3⟩, G3.out⟩
  · obtain ⟨E, hE⟩ : ∃ E, chk l = E := ⟨_, rfl⟩
    have hzB : Hid (pathB l ps = []) := Lib.hid (if_neg h0)
    have hzE : Hid (pathE l ps = E) := Lib.hid ((if_neg h0).trans hE)
    rw [hE] at HC h0
    have hne : (E != 0) = true := by simpa using h0
    clear hA hP hE h0
    go_enter Tryz.func13, Tryz.ntmps13
    go_wp2
    refine wp_scope_straight ?_
    go_wp2_with fail
    refine HC.out.mono ?_
    rintro e w1 ⟨rfl, g1⟩
    go_wp2_with fail
    simp only [Exit.noGoto]
    go_ret2
    rw [hzB.out, hzE.out]
    exact ⟨CRes.nil _ _, g1⟩
end Val
end Go.Proofs.YtegfcmnbljdcpaaGreatDoor
