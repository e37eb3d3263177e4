/-
  Layer 8, texts merged: SpI. For every argument within the bounds that each theorem names.
-/
import Derived.Test.YtinadbomebgfaaaGreatDoorMH3
import Derived.WalkSmall

/-
  Layer 8: the law's own equal, at two programs that are the same.
-/
namespace Go.Proofs.YtinadbomebgfaaaGreatDoor
open Go.RowKit Go.ChangeShapes Go.WideShapes
namespace Syn

set_option maxRecDepth 100000 in
set_option maxHeartbeats 16000000 in
theorem equal_yes (no fo no2 fo2 : Option Addr) (n nc nc2 k fc fc2 : Nat) (L : List Nd) (F : List Fw) (hn : n ≤ 100000) (hk : k ≤ 100000) (hwf : ∀ x ∈ L, x.keys.length ≤ 100000 ∧ x.kids.length ≤ 100000) (hwF : ∀ x ∈ F, x.params.length ≤ 100000) (w : World) (hA : NArg w no n L) (hF : FArg w fo k F) (hA2 : NArg w no2 n L) (hF2 : FArg w fo2 k F) :
    Calls Tryz.prog 22 #[.agg #[.slice no n nc, .slice fo k fc], .agg #[.slice no2 n nc2, .slice fo2 k fc2]] w fun e w' => e = .returned (.bool true) ∧ Bel w w' := by
  obtain ⟨V1, hV1⟩ : ∃ V, w.alloc (.cells #[.slice no n nc, .slice fo k fc] 25) = V := ⟨_, rfl⟩
  obtain ⟨V, hV⟩ : ∃ V, V1.alloc (.cells #[.slice no2 n nc2, .slice fo2 k fc2] 25) = V := ⟨_, rfl⟩
  have B1 : Bel w V1 := by rw [← hV1]; exact Bel.alloc (Bel.refl w) _
  have B2 : Bel V1 V := by rw [← hV]; exact Bel.alloc (Bel.refl V1) _
  have a0 : V.cell? ⟨w.heap.size, 0, none⟩ = some (.slice no n nc) := B2.cell' (by rw [← hV1]; exact World.cell?_alloc_new ..)
  have a1 : V.cell? ⟨w.heap.size, 1, none⟩ = some (.slice fo k fc) := B2.cell' (by rw [← hV1]; exact World.cell?_alloc_new ..)
  have b0 : V.cell? ⟨V1.heap.size, 0, none⟩ = some (.slice no2 n nc2) := by rw [← hV]; exact World.cell?_alloc_new ..
  have b1 : V.cell? ⟨V1.heap.size, 1, none⟩ = some (.slice fo2 k fc2) := by rw [← hV]; exact World.cell?_alloc_new ..
  have HB := Lib.hid (Bel.trans B1 B2)
  have HBV := Lib.hid (Bel.refl V)
  have HA := Lib.hid hA
  have HA2 := Lib.hid hA2
  have HF := Lib.hid hF
  have HF2 := Lib.hid hF2
  have HL := Lib.hid hA.1
  have HK := Lib.hid hF.1
  have Hwf := Lib.hid hwf
  have HwF := Lib.hid hwF
  have C0 := Lib.hid (show V.cell? ⟨w.heap.size, 0, none⟩ = some (.slice no n nc) ∧ V.cell? ⟨w.heap.size, 1, none⟩ = some (.slice fo k fc) ∧ V.cell? ⟨V1.heap.size, 0, none⟩ = some (.slice no2 n nc2) ∧ V.cell? ⟨V1.heap.size, 1, none⟩ = some (.slice fo2 k fc2) from ⟨a0, a1, b0, b1⟩)
  clear hA hA2 hF hF2 hwf hwF B1 B2
  go_enter Tryz.func22, Tryz.ntmps22
  go_wp2_with fail
  clear hV hV1 a0 a1 b0 b1
  go_loopw [5] (fun iv wr => ∃ q : Nat, iv = .int .i64 (q : Int) ∧ q ≤ n ∧ Hid (Bel V wr)) (fun iv _ => n - (intOf iv).toNat)
  case atStart => exact ⟨0, rfl, Nat.zero_le _, HBV⟩
  case round =>
    obtain ⟨q, rfl, hq, hB⟩ := hrel
    rename World => wr
    have a0 := hB.out.cell' C0.out.1
    have a1 := hB.out.cell' C0.out.2.1
    have b0 := hB.out.cell' C0.out.2.2.1
    have b1 := hB.out.cell' C0.out.2.2.2
    by_cases hqn : q < n
    · have hql : q < L.length := by rw [HL.out]; exact hqn
      obtain ⟨c1, o1, rfl, hcs1⟩ := HA.out.2 (by omega)
      obtain ⟨c2, o2, rfl, hcs2⟩ := HA2.out.2 (by omega)
      obtain ⟨v1, hv1, hc1⟩ := hcs1 q hql
      obtain ⟨v2, hv2, hc2⟩ := hcs2 q hql
      have hwq := Hwf.out L[q] (List.getElem_mem hql)
      have sk1 := hv1.skeys
      have sk2 := hv2.skeys
      have zk1 := hv1.kids
      have zk2 := hv2.kids
      generalize L[q] = x at *
      obtain ⟨k1, s1, i1, ko1, kn1, kc1, jo1, jn1, jc1⟩ := v1
      obtain ⟨k2, s2, i2, ko2, kn2, kc2, jo2, jn2, jc2⟩ := v2
      obtain rfl : k1 = x.k := hv1.k
      obtain rfl : k2 = x.k := hv2.k
      obtain rfl : s1 = x.s := hv1.s
      obtain rfl : s2 = x.s := hv2.s
      obtain rfl : i1 = x.i := hv1.i
      obtain rfl : i2 = x.i := hv2.i
      have e1 : x.keys.length = kn1 := sk1.1
      have e2 : x.keys.length = kn2 := sk2.1
      obtain rfl : kn1 = kn2 := by omega
      have e3 : x.kids.length = jn1 := zk1.1
      have e4 : x.kids.length = jn2 := zk2.1
      obtain rfl : jn1 = jn2 := by omega
      have p0 := hB.out.cell' (HB.out.cell' (show w.cell? ⟨c1, o1 + q * 5, none⟩ = some (.int .i64 x.k) by simpa using hc1 0 _ rfl))
      have p1 := hB.out.cell' (HB.out.cell' (show w.cell? ⟨c1, o1 + q * 5 + 1, none⟩ = some (.string ⟨x.s.toArray⟩) by simpa using hc1 1 _ rfl))
      have p2 := hB.out.cell' (HB.out.cell' (show w.cell? ⟨c1, o1 + q * 5 + 2, none⟩ = some (.int .i64 x.i) by simpa using hc1 2 _ rfl))
      have p3 := hB.out.cell' (HB.out.cell' (show w.cell? ⟨c1, o1 + q * 5 + 3, none⟩ = some (.slice ko1 kn1 kc1) by simpa using hc1 3 _ rfl))
      have p4 := hB.out.cell' (HB.out.cell' (show w.cell? ⟨c1, o1 + q * 5 + 4, none⟩ = some (.slice jo1 jn1 jc1) by simpa using hc1 4 _ rfl))
      have r0 := hB.out.cell' (HB.out.cell' (show w.cell? ⟨c2, o2 + q * 5, none⟩ = some (.int .i64 x.k) by simpa using hc2 0 _ rfl))
      have r1 := hB.out.cell' (HB.out.cell' (show w.cell? ⟨c2, o2 + q * 5 + 1, none⟩ = some (.string ⟨x.s.toArray⟩) by simpa using hc2 1 _ rfl))
      have r2 := hB.out.cell' (HB.out.cell' (show w.cell? ⟨c2, o2 + q * 5 + 2, none⟩ = some (.int .i64 x.i) by simpa using hc2 2 _ rfl))
      have r3 := hB.out.cell' (HB.out.cell' (show w.cell? ⟨c2, o2 + q * 5 + 3, none⟩ = some (.slice ko2 kn1 kc2) by simpa using hc2 3 _ rfl))
      have r4 := hB.out.cell' (HB.out.cell' (show w.cell? ⟨c2, o2 + q * 5 + 4, none⟩ = some (.slice jo2 jn1 jc2) by simpa using hc2 4 _ rfl))
      obtain ⟨U1, hU1⟩ : ∃ U, wr.alloc (.cells #[.int .i64 x.k, .string ⟨x.s.toArray⟩, .int .i64 x.i, .slice ko1 kn1 kc1, .slice jo1 jn1 jc1] 58) = U := ⟨_, rfl⟩
      obtain ⟨U, hU⟩ : ∃ U, U1.alloc (.cells #[.int .i64 x.k, .string ⟨x.s.toArray⟩, .int .i64 x.i, .slice ko2 kn1 kc2, .slice jo2 jn1 jc2] 58) = U := ⟨_, rfl⟩
      have D1 : Bel wr U1 := by rw [← hU1]; exact Bel.alloc (Bel.refl wr) _
      have D2 : Bel U1 U := by rw [← hU]; exact Bel.alloc (Bel.refl U1) _
      obtain ⟨y0, y1, y2, y3, y4⟩ : U1.cell? ⟨wr.heap.size, 0, none⟩ = some (.int .i64 x.k) ∧ U1.cell? ⟨wr.heap.size, 1, none⟩ = some (.string ⟨x.s.toArray⟩) ∧ U1.cell? ⟨wr.heap.size, 2, none⟩ = some (.int .i64 x.i) ∧ U1.cell? ⟨wr.heap.size, 3, none⟩ = some (.slice ko1 kn1 kc1) ∧ U1.cell? ⟨wr.heap.size, 4, none⟩ = some (.slice jo1 jn1 jc1) := by rw [← hU1]; exact box5 wr _ _ _ _ _ _
      obtain ⟨z0, z1, z2, z3, z4⟩ : U.cell? ⟨U1.heap.size, 0, none⟩ = some (.int .i64 x.k) ∧ U.cell? ⟨U1.heap.size, 1, none⟩ = some (.string ⟨x.s.toArray⟩) ∧ U.cell? ⟨U1.heap.size, 2, none⟩ = some (.int .i64 x.i) ∧ U.cell? ⟨U1.heap.size, 3, none⟩ = some (.slice ko2 kn1 kc2) ∧ U.cell? ⟨U1.heap.size, 4, none⟩ = some (.slice jo2 jn1 jc2) := by rw [← hU]; exact box5 U1 _ _ _ _ _ _
      have r0 := D1.cell' r0
      have r1 := D1.cell' r1
      have r2 := D1.cell' r2
      have r3 := D1.cell' r3
      have r4 := D1.cell' r4
      have b0 := D1.cell' b0
      have y0 := D2.cell' y0
      have y1 := D2.cell' y1
      have y2 := D2.cell' y2
      have y3 := D2.cell' y3
      have y4 := D2.cell' y4
      have HU := Lib.hid (Bel.trans hB.out (Bel.trans D1 D2))
      have HUU := Lib.hid (Bel.refl U)
      have Y3 := Lib.hid (show U.cell? ⟨wr.heap.size, 3, none⟩ = some (.slice ko1 kn1 kc1) ∧ U.cell? ⟨U1.heap.size, 3, none⟩ = some (.slice ko2 kn1 kc2) ∧ U.cell? ⟨wr.heap.size, 4, none⟩ = some (.slice jo1 jn1 jc1) ∧ U.cell? ⟨U1.heap.size, 4, none⟩ = some (.slice jo2 jn1 jc2) from ⟨y3, z3, y4, z4⟩)
      have S1 := Lib.hid sk1
      have S2 := Lib.hid sk2
      have Z1 := Lib.hid zk1
      have Z2 := Lib.hid zk2
      have E1 := Lib.hid e1
      have E3 := Lib.hid e3
      have hkn : kn1 ≤ 100000 := by omega
      have hjn : jn1 ≤ 100000 := by omega
      clear hcs1 hcs2 hc1 hc2 hv1 hv2 sk1 sk2 zk1 zk2 e1 e2 e3 e4 hwq hql D1 D2
      go_wp2_with fail
      clear hU hU1 y0 y1 y2 y3 y4 z0 z1 z2 z3 z4 p0 p1 p2 p3 p4 r0 r1 r2 r3 r4
      go_loopw [8] (fun jv wj => ∃ j : Nat, jv = .int .i64 (j : Int) ∧ j ≤ kn1 ∧ Hid (Bel U wj)) (fun jv _ => kn1 - (intOf jv).toNat)
      case atStart => exact ⟨0, rfl, Nat.zero_le _, HUU⟩
      case round =>
        obtain ⟨j, rfl, hj, hJ⟩ := hrel
        rename World => wj
        have y3 := hJ.out.cell' Y3.out.1
        have z3 := hJ.out.cell' Y3.out.2.1
        by_cases hjk : j < kn1
        · obtain ⟨d1, f1, rfl, hd1⟩ := S1.out.2 (show 0 < kn1 by omega)
          obtain ⟨d2, f2, rfl, hd2⟩ := S2.out.2 (show 0 < kn1 by omega)
          have hjl : j < x.keys.length := by rw [E1.out]; exact hjk
          have m1 := hJ.out.cell' (HU.out.cell' (HB.out.cell' (hd1 j hjl)))
          have m2 := hJ.out.cell' (HU.out.cell' (HB.out.cell' (hd2 j hjl)))
          generalize x.keys[j] = ks at *
          have HD := Lib.hid (fun n => below_drewN hJ.out n)
          clear hd1 hd2 hjl
          go_wp2_with fail
          go_quiet (fail)
          all_goals
            go_wp2_with fail
            go_round
            case rel => exact ⟨j + 1, by go_num, by omega, Lib.hid (HD.out _)⟩
            case measure => simp [intOf]; omega
        · obtain rfl : j = kn1 := by omega
          have y4 := hJ.out.cell' Y3.out.2.2.1
          have z4 := hJ.out.cell' Y3.out.2.2.2
          go_wp2_with fail
          go_loopw [9] (fun jv wj => ∃ i : Nat, jv = .int .i64 (i : Int) ∧ i ≤ jn1 ∧ Hid (Bel U wj)) (fun jv _ => jn1 - (intOf jv).toNat)
          case atStart => exact ⟨0, rfl, Nat.zero_le _, hJ⟩
          case round =>
            obtain ⟨i, rfl, hi, hI⟩ := hrel
            rename World => wi
            have y4 := hI.out.cell' Y3.out.2.2.1
            have z4 := hI.out.cell' Y3.out.2.2.2
            by_cases hik : i < jn1
            · obtain ⟨d1, f1, rfl, hd1⟩ := za_addr Z1.out (show 0 < jn1 by omega)
              obtain ⟨d2, f2, rfl, hd2⟩ := za_addr Z2.out (show 0 < jn1 by omega)
              have hil : i < x.kids.length := by rw [E3.out]; exact hik
              have m1 := hI.out.cell' (HU.out.cell' (HB.out.cell' (hd1 i hil)))
              have m2 := hI.out.cell' (HU.out.cell' (HB.out.cell' (hd2 i hil)))
              generalize x.kids[i] = ks at *
              have HD := Lib.hid (fun n => below_drewN hI.out n)
              clear hd1 hd2 hil
              go_wp2_with fail
              go_quiet (fail)
              all_goals
                go_wp2_with fail
                go_round
                case rel => exact ⟨i + 1, by go_num, by omega, Lib.hid (HD.out _)⟩
                case measure => simp [intOf]; omega
            · obtain rfl : i = jn1 := by omega
              have HR := Lib.hid (Bel.trans HU.out hI.out)
              go_wp2_with fail
              go_round
              case rel => exact ⟨q + 1, by go_num, by omega, HR⟩
              case measure => simp [intOf]; omega
    · obtain rfl : q = n := by omega
      go_wp2_with fail
      go_loopw [10] (fun iv wr => ∃ q : Nat, iv = .int .i64 (q : Int) ∧ q ≤ k ∧ Hid (Bel V wr)) (fun iv _ => k - (intOf iv).toNat)
      case atStart => exact ⟨0, rfl, Nat.zero_le _, hB⟩
      case round =>
        obtain ⟨p, rfl, hp, hP⟩ := hrel
        rename World => wp
        have a1 := hP.out.cell' C0.out.2.1
        have b1 := hP.out.cell' C0.out.2.2.2
        by_cases hpk : p < k
        · have hpl : p < F.length := by rw [HK.out]; exact hpk
          obtain ⟨c1, o1, rfl, hcs1⟩ := HF.out.2 (by omega)
          obtain ⟨c2, o2, rfl, hcs2⟩ := HF2.out.2 (by omega)
          obtain ⟨v1, hv1, hc1⟩ := hcs1 p hpl
          obtain ⟨v2, hv2, hc2⟩ := hcs2 p hpl
          have hwq := HwF.out F[p] (List.getElem_mem hpl)
          have sk1 := hv1.sps
          have sk2 := hv2.sps
          generalize F[p] = x at *
          obtain ⟨s1, po1, pk1, pc1, j1⟩ := v1
          obtain ⟨s2, po2, pk2, pc2, j2⟩ := v2
          obtain rfl : s1 = x.name := hv1.s
          obtain rfl : s2 = x.name := hv2.s
          obtain rfl : j1 = x.body := hv1.j
          obtain rfl : j2 = x.body := hv2.j
          have e1 : x.params.length = pk1 := sk1.1
          have e2 : x.params.length = pk2 := sk2.1
          obtain rfl : pk1 = pk2 := by omega
          have M0 := Lib.hid (HB.out.cell' (show w.cell? ⟨c1, o1 + p * 3, none⟩ = some (.string ⟨x.name.toArray⟩) by simpa using hc1 0 _ rfl))
          have M1 := Lib.hid (HB.out.cell' (show w.cell? ⟨c1, o1 + p * 3 + 1, none⟩ = some (.slice po1 pk1 pc1) by simpa using hc1 1 _ rfl))
          have M2 := Lib.hid (HB.out.cell' (show w.cell? ⟨c1, o1 + p * 3 + 2, none⟩ = some (.int .i64 x.body) by simpa using hc1 2 _ rfl))
          have R0 := Lib.hid (HB.out.cell' (show w.cell? ⟨c2, o2 + p * 3, none⟩ = some (.string ⟨x.name.toArray⟩) by simpa using hc2 0 _ rfl))
          have R1 := Lib.hid (HB.out.cell' (show w.cell? ⟨c2, o2 + p * 3 + 1, none⟩ = some (.slice po2 pk1 pc2) by simpa using hc2 1 _ rfl))
          have R2 := Lib.hid (HB.out.cell' (show w.cell? ⟨c2, o2 + p * 3 + 2, none⟩ = some (.int .i64 x.body) by simpa using hc2 2 _ rfl))
          have m0 := hP.out.cell' M0.out
          have m1 := hP.out.cell' M1.out
          have m2 := hP.out.cell' M2.out
          have r0 := hP.out.cell' R0.out
          have r1 := hP.out.cell' R1.out
          have r2 := hP.out.cell' R2.out
          have S1 := Lib.hid sk1
          have S2 := Lib.hid sk2
          have E1 := Lib.hid e1
          have hkn : pk1 ≤ 100000 := by omega
          have HPd := Lib.hid (fun n => below_drewN hP.out n)
          clear hcs1 hcs2 hc1 hc2 hv1 hv2 sk1 sk2 e1 e2 hwq hpl
          go_wp2_with fail
          go_quiet (fail)
          go_wp2_with fail
          go_loopw [11] (fun jv wj => ∃ j : Nat, jv = .int .i64 (j : Int) ∧ j ≤ pk1 ∧ Hid (Bel V wj)) (fun jv _ => pk1 - (intOf jv).toNat)
          case atStart => exact ⟨0, rfl, Nat.zero_le _, Lib.hid (HPd.out _)⟩
          case round =>
            obtain ⟨j, rfl, hj, hJ⟩ := hrel
            rename World => wj
            have a1 := hJ.out.cell' C0.out.2.1
            have b1 := hJ.out.cell' C0.out.2.2.2
            have m1 := hJ.out.cell' M1.out
            have r1 := hJ.out.cell' R1.out
            by_cases hjk : j < pk1
            · obtain ⟨d1, f1, rfl, hd1⟩ := S1.out.2 (show 0 < pk1 by omega)
              obtain ⟨d2, f2, rfl, hd2⟩ := S2.out.2 (show 0 < pk1 by omega)
              have hjl : j < x.params.length := by rw [E1.out]; exact hjk
              have n1 := hJ.out.cell' (HB.out.cell' (hd1 j hjl))
              have n2 := hJ.out.cell' (HB.out.cell' (hd2 j hjl))
              generalize x.params[j] = ks at *
              have HD := Lib.hid (fun n => below_drewN hJ.out n)
              clear hd1 hd2 hjl
              go_wp2_with fail
              go_quiet (fail)
              all_goals
                go_wp2_with fail
                go_round
                case rel => exact ⟨j + 1, by go_num, by omega, Lib.hid (HD.out _)⟩
                case measure => simp [intOf]; omega
            · obtain rfl : j = pk1 := by omega
              go_wp2_with fail
              go_round
              case rel => exact ⟨p + 1, by go_num, by omega, hJ⟩
              case measure => simp [intOf]; omega
        · obtain rfl : p = k := by omega
          go_wp2_with fail
          go_ret
          exact ⟨rfl, Bel.trans HB.out hP.out⟩
end Syn
end Go.Proofs.YtinadbomebgfaaaGreatDoor
