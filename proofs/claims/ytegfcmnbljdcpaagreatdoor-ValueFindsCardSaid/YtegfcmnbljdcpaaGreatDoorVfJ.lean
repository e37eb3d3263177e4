/-
  Layer 6: the law ValueFinds (written by tools/genFN.py).
-/
import Derived.Test.YtegfcmnbljdcpaaGreatDoorVfI
import Derived.Test.YtegfcmnbljdcpaaGreatDoorVfE
import Derived.Test.YtegfcmnbljdcpaaGreatDoorME
import Derived.Test.YtegfcmnbljdcpaaGreatDoorVeC
import Derived.Test.YtegfcmnbljdcpaaGreatDoorVdC
import Derived.Test.YtegfcmnbljdcpaaGreatDoorVdF
import Derived.Test.YtegfcmnbljdcpaaGreatDoorMK
namespace Go.Proofs.YtegfcmnbljdcpaaGreatDoor
open Go.RowKit Go.ChangeShapes Go.WideShapes
namespace Val

theorem path_le : ∀ (ps : List ByteArray) (l : List Cel), (pathR l ps).1.length ≤ l.length
  | [], l => Nat.le_refl _
  | p :: ps, l => by
    rw [pathR]
    split
    · exact Nat.le_trans (path_le ps _) (get_le l p)
    · exact Nat.zero_le _
theorem pathB_le (l : List Cel) (ps : List ByteArray) : (pathB l ps).length ≤ l.length := by
  unfold pathB
  split
  · exact path_le ps l
  · exact Nat.zero_le _
theorem chkd_le (l : List Cel) : (chkd l).length ≤ 200 := by
  unfold chkd
  split
  · next h =>
    obtain ⟨t, hp, ht⟩ := chk_ok h
    exact chk_len ht
  · exact Nat.zero_le _
theorem putB_le (l x : List Cel) (key : ByteArray) : (putB l key x).length ≤ 200 := by
  unfold putB mapB
  repeat' split
  all_goals first | exact chkd_le _ | exact Nat.zero_le _
theorem keyB_le (l : List Cel) : (keyB l).length ≤ 200 := by
  by_cases h : keyE l = 0
  · exact key_few h
  · rw [keyE_no h]; exact Nat.zero_le _
set_option maxRecDepth 100000 in
set_option maxHeartbeats 40000000 in
theorem finds_main (l x : List Cel) (key : ByteArray) (ps : List ByteArray) (o o3 o4 : Option Addr) (n c n3 c3 n4 c4 : Nat) (hc : n ≤ c) (hc3 : n3 ≤ c3) (w : World) (hL : Lad w) (hA : CArg w o n l) (hX : CArg w o3 n3 x) (hP : SlArg w o4 n4 ps) (hl : smallB l = true) (hx : smallB x = true) (hk3 : ¬ 300 < key.size) (hps : namesB ps = true) :
    Calls Tryz.prog 3 #[.slice o n c, .string key, .slice o3 n3 c3, .slice o4 n4 c4] w fun e w' => e = .returned (.bool true) ∧ Bel w w' := by
  have hls := small_yes hl
  have hxs := small_yes hx
  have hpn := names_yes hps
  have hlsh := small_shrt hl
  have hxsh := small_shrt hx
  have hln := hA.1
  have hxn := hX.1
  have hpl := hP.1
  have hn : n ≤ 300 := by omega
  have hn3 : n3 ≤ 300 := by omega
  have hn4 : n4 ≤ 20 := by omega
  have HL := small_any l o n c (by omega) w hA
  have HX := small_any x o3 n3 c3 (by omega) w hX
  have HN := names_any ps o4 n4 c4 w hP
  rw [hl] at HL
  rw [hx] at HX
  rw [hps] at HN
  have SL := Lib.hid HL
  have SX := Lib.hid HX
  have SN := Lib.hid HN
  have G0 := Lib.hid (Bel.refl w)
  have dK : decide ((300 : Int) < (key.size : Int)) = false := decide_eq_false (by omega)
  have h1 := fun (W : World) (g : Bel w W) => vitems_any l o n c (by omega) hc hlsh W (hA.on g)
  have h2 := fun (W : World) (g : Bel w W) => items_any l o n c (by omega) W (hL.on g) (hA.on g)
  have h3 := fun (W : World) (g : Bel w W) => vkeys_any l o n c (by omega) hc hlsh W (hA.on g)
  have h4 := fun (W : World) (g : Bel w W) => keys_any l o n c (by omega) W (hL.on g) (hA.on g)
  have h5 := fun (W : World) (g : Bel w W) => vget_any l key o n c (by omega) hc hlsh W (hA.on g)
  have h6 := fun (W : World) (g : Bel w W) => get_any l key o n c (by omega) W (hL.on g) (hA.on g)
  have h7 := fun (W : World) (g : Bel w W) => vpath_any l ps o n c (by omega) hc hlsh o4 n4 c4 (by omega) W (hA.on g) (hP.on g)
  have h8 := fun (W : World) (g : Bel w W) => path_any l ps o n c (by omega) o4 n4 c4 (by omega) W (hL.on g) (hA.on g) (hP.on g)
  have h9 := fun (W : World) (g : Bel w W) => vput_any l x key (by omega) o n c (by omega) hc hlsh o3 n3 c3 hn3 hc3 hxsh W (hA.on g) (hX.on g)
  have h10 := fun (W : World) (g : Bel w W) => put_any l x key (by omega) o n c (by omega) o3 n3 c3 (by omega) hc3 W (hL.on g) (hA.on g) (hX.on g)
  have s1 := fun (W : World) (oa : Option Addr) (na ca : Nat) (ob : Option Addr) (nb cb : Nat) (hB : LArg W oa na (itmB l)) (hC : LArg W ob nb (itmB l)) => sames_any (itmB l) oa ob na ca nb cb (by have h1 := hB.1; have h2 : (itmB l).length ≤ 1000000 := itmB_le l; omega) (fun y hy => by have := itm_le hy; omega) W hB hC
  have s2 := fun (W : World) (oa : Option Addr) (na ca : Nat) (ob : Option Addr) (nb cb : Nat) (hB : SlArg W oa na (keyB l)) (hC : SlArg W ob nb (keyB l)) => texts_any (keyB l) oa ob na ca nb cb (by have h1 := hB.1; have h2 := keyB_le l; omega) W hB hC
  have s3 := fun (W : World) (oa : Option Addr) (na ca : Nat) (ob : Option Addr) (nb cb : Nat) (hB : CArg W oa na (getB l key)) (hC : CArg W ob nb (getB l key)) => same_any (getB l key) (getB l key) oa ob na ca nb cb (by have h1 := hB.1; have h2 := get_le l key; omega) (by have h1 := hC.1; have h2 := get_le l key; omega) W hB hC
  have s4 := fun (W : World) (oa : Option Addr) (na ca : Nat) (ob : Option Addr) (nb cb : Nat) (hB : CArg W oa na (pathB l ps)) (hC : CArg W ob nb (pathB l ps)) => same_any (pathB l ps) (pathB l ps) oa ob na ca nb cb (by have h1 := hB.1; have h2 := pathB_le l ps; omega) (by have h1 := hC.1; have h2 := pathB_le l ps; omega) W hB hC
  have s5 := fun (W : World) (oa : Option Addr) (na ca : Nat) (ob : Option Addr) (nb cb : Nat) (hB : CArg W oa na (putB l key x)) (hC : CArg W ob nb (putB l key x)) => same_any (putB l key x) (putB l key x) oa ob na ca nb cb (by have h1 := hB.1; have h2 := putB_le l x key; omega) (by have h1 := hC.1; have h2 := putB_le l x key; omega) W hB hC
  have me : ∀ y : List Cel, sameB y y = true := fun y => decide_eq_true rfl
  rw [me] at s3 s4 s5
  generalize itmB l = L1 at *
  generalize itmE l = E1 at *
  generalize keyB l = L2 at *
  generalize keyE l = E2 at *
  generalize getB l key = L3 at *
  generalize getE l key = E3 at *
  generalize pathB l ps = L4 at *
  generalize pathE l ps = E4 at *
  generalize putB l key x = L5 at *
  generalize putE l key x = E5 at *
  have H1 := Lib.hid h1
  have H2 := Lib.hid h2
  have H3 := Lib.hid h3
  have H4 := Lib.hid h4
  have H5 := Lib.hid h5
  have H6 := Lib.hid h6
  have H7 := Lib.hid h7
  have H8 := Lib.hid h8
  have H9 := Lib.hid h9
  have H10 := Lib.hid h10
  have S1 := Lib.hid s1
  have S2 := Lib.hid s2
  have S3 := Lib.hid s3
  have S4 := Lib.hid s4
  have S5 := Lib.hid s5
  clear h1 h2 h3 h4 h5 h6 h7 h8 h9 h10 s1 s2 s3 s4 s5 me hls hxs hpn hlsh hxsh hln hxn hpl HL HX HN hA hX hP hL hl hx hps
  go_enter Tryz.func3, Tryz.ntmps3
  go_wp2_with fail
  refine SL.out.mono ?_
  rintro e w' ⟨rfl, rfl⟩
  go_wp2_with fail
  refine SX.out.mono ?_
  rintro e w' ⟨rfl, rfl⟩
  go_wp2_with fail
  refine SN.out.mono ?_
  rintro e w' ⟨rfl, rfl⟩
  clear SL SX SN
  go_wp2_with fail
  refine (H1.out w G0.out).mono ?_
  rintro e w1 ⟨⟨o1, n1, c1, rfl, hA1, hc1⟩, g1⟩
  have A1 := Lib.hid hA1
  have G1 := Lib.hid (Bel.trans G0.out g1)
  clear g1 hc1 hA1
  go_wp2_with fail
  refine (H2.out w1 G1.out).mono ?_
  rintro e w2 ⟨⟨o2, n2, c2, rfl, hA2, hc2⟩, g2⟩
  have A2 := Lib.hid hA2
  have A1_2 := Lib.hid (A1.out.on g2)
  have G2 := Lib.hid (Bel.trans G1.out g2)
  clear g2 hc2 hA2 A1 G1
  go_wp2_with fail
  refine (H3.out w2 G2.out).mono ?_
  rintro e w3 ⟨⟨o3, n3, c3, rfl, hO3⟩, g3⟩
  have hA3 := own_sarg hO3
  have A3 := Lib.hid hA3
  have A1_3 := Lib.hid (A1_2.out.on g3)
  have A2_3 := Lib.hid (A2.out.on g3)
  have G3 := Lib.hid (Bel.trans G2.out g3)
  clear g3 hO3 hA3 A1_2 A2 G2
  go_wp2_with fail
  refine (H4.out w3 G3.out).mono ?_
  rintro e w4 ⟨⟨o4, n4, c4, rfl, hA4, hc4⟩, g4⟩
  have A4 := Lib.hid hA4
  have A1_4 := Lib.hid (A1_3.out.on g4)
  have A2_4 := Lib.hid (A2_3.out.on g4)
  have A3_4 := Lib.hid (A3.out.on g4)
  have G4 := Lib.hid (Bel.trans G3.out g4)
  clear g4 hc4 hA4 A1_3 A2_3 A3 G3
  go_wp2_with fail
  refine (H5.out w4 G4.out).mono ?_
  rintro e w5 ⟨⟨o5, n5, c5, rfl, hA5, hc5⟩, g5⟩
  have A5 := Lib.hid hA5
  have A1_5 := Lib.hid (A1_4.out.on g5)
  have A2_5 := Lib.hid (A2_4.out.on g5)
  have A3_5 := Lib.hid (A3_4.out.on g5)
  have A4_5 := Lib.hid (A4.out.on g5)
  have G5 := Lib.hid (Bel.trans G4.out g5)
  clear g5 hc5 hA5 A1_4 A2_4 A3_4 A4 G4
  go_wp2_with fail
  refine (H6.out w5 G5.out).mono ?_
  rintro e w6 ⟨⟨o6, n6, c6, rfl, hA6, hc6⟩, g6⟩
  have A6 := Lib.hid hA6
  have A1_6 := Lib.hid (A1_5.out.on g6)
  have A2_6 := Lib.hid (A2_5.out.on g6)
  have A3_6 := Lib.hid (A3_5.out.on g6)
  have A4_6 := Lib.hid (A4_5.out.on g6)
  have A5_6 := Lib.hid (A5.out.on g6)
  have G6 := Lib.hid (Bel.trans G5.out g6)
  clear g6 hc6 hA6 A1_5 A2_5 A3_5 A4_5 A5 G5
  go_wp2_with fail
  refine (H7.out w6 G6.out).mono ?_
  rintro e w7 ⟨⟨o7, n7, c7, rfl, hA7, hc7⟩, g7⟩
  have A7 := Lib.hid hA7
  have A1_7 := Lib.hid (A1_6.out.on g7)
  have A2_7 := Lib.hid (A2_6.out.on g7)
  have A3_7 := Lib.hid (A3_6.out.on g7)
  have A4_7 := Lib.hid (A4_6.out.on g7)
  have A5_7 := Lib.hid (A5_6.out.on g7)
  have A6_7 := Lib.hid (A6.out.on g7)
  have G7 := Lib.hid (Bel.trans G6.out g7)
  clear g7 hc7 hA7 A1_6 A2_6 A3_6 A4_6 A5_6 A6 G6
  go_wp2_with fail
  refine (H8.out w7 G7.out).mono ?_
  rintro e w8 ⟨⟨o8, n8, c8, rfl, hA8, hc8⟩, g8⟩
  have A8 := Lib.hid hA8
  have A1_8 := Lib.hid (A1_7.out.on g8)
  have A2_8 := Lib.hid (A2_7.out.on g8)
  have A3_8 := Lib.hid (A3_7.out.on g8)
  have A4_8 := Lib.hid (A4_7.out.on g8)
  have A5_8 := Lib.hid (A5_7.out.on g8)
  have A6_8 := Lib.hid (A6_7.out.on g8)
  have A7_8 := Lib.hid (A7.out.on g8)
  have G8 := Lib.hid (Bel.trans G7.out g8)
  clear g8 hc8 hA8 A1_7 A2_7 A3_7 A4_7 A5_7 A6_7 A7 G7
  go_wp2_with fail
  refine (H9.out w8 G8.out).mono ?_
  rintro e w9 ⟨⟨o9, n9, c9, rfl, hA9, hc9⟩, g9⟩
  have A9 := Lib.hid hA9
  have A1_9 := Lib.hid (A1_8.out.on g9)
  have A2_9 := Lib.hid (A2_8.out.on g9)
  have A3_9 := Lib.hid (A3_8.out.on g9)
  have A4_9 := Lib.hid (A4_8.out.on g9)
  have A5_9 := Lib.hid (A5_8.out.on g9)
  have A6_9 := Lib.hid (A6_8.out.on g9)
  have A7_9 := Lib.hid (A7_8.out.on g9)
  have A8_9 := Lib.hid (A8.out.on g9)
  have G9 := Lib.hid (Bel.trans G8.out g9)
  clear g9 hc9 hA9 A1_8 A2_8 A3_8 A4_8 A5_8 A6_8 A7_8 A8 G8
  go_wp2_with fail
  refine (H10.out w9 G9.out).mono ?_
  rintro e w10 ⟨⟨o10, n10, c10, rfl, hA10, hc10⟩, g10⟩
  have A10 := Lib.hid hA10
  have A1_10 := Lib.hid (A1_9.out.on g10)
  have A2_10 := Lib.hid (A2_9.out.on g10)
  have A3_10 := Lib.hid (A3_9.out.on g10)
  have A4_10 := Lib.hid (A4_9.out.on g10)
  have A5_10 := Lib.hid (A5_9.out.on g10)
  have A6_10 := Lib.hid (A6_9.out.on g10)
  have A7_10 := Lib.hid (A7_9.out.on g10)
  have A8_10 := Lib.hid (A8_9.out.on g10)
  have A9_10 := Lib.hid (A9.out.on g10)
  have G10 := Lib.hid (Bel.trans G9.out g10)
  clear g10 hc10 hA10 A1_9 A2_9 A3_9 A4_9 A5_9 A6_9 A7_9 A8_9 A9 G9
  go_wp2_with fail
  refine (S1.out w10 o1 n1 c1 o2 n2 c2 A1_10.out A2_10.out).mono ?_
  rintro e w11 ⟨rfl, g11⟩
  have A1_11 := Lib.hid (A1_10.out.on g11)
  have A2_11 := Lib.hid (A2_10.out.on g11)
  have A3_11 := Lib.hid (A3_10.out.on g11)
  have A4_11 := Lib.hid (A4_10.out.on g11)
  have A5_11 := Lib.hid (A5_10.out.on g11)
  have A6_11 := Lib.hid (A6_10.out.on g11)
  have A7_11 := Lib.hid (A7_10.out.on g11)
  have A8_11 := Lib.hid (A8_10.out.on g11)
  have A9_11 := Lib.hid (A9_10.out.on g11)
  have A10_11 := Lib.hid (A10.out.on g11)
  have G11 := Lib.hid (Bel.trans G10.out g11)
  clear g11 A1_10 A2_10 A3_10 A4_10 A5_10 A6_10 A7_10 A8_10 A9_10 A10 G10
  clear A1_11
  clear A2_11
  go_wp2_with fail
  refine (S2.out w11 o3 n3 c3 o4 n4 c4 A3_11.out A4_11.out).mono ?_
  rintro e w12 ⟨rfl, g12⟩
  have A3_12 := Lib.hid (A3_11.out.on g12)
  have A4_12 := Lib.hid (A4_11.out.on g12)
  have A5_12 := Lib.hid (A5_11.out.on g12)
  have A6_12 := Lib.hid (A6_11.out.on g12)
  have A7_12 := Lib.hid (A7_11.out.on g12)
  have A8_12 := Lib.hid (A8_11.out.on g12)
  have A9_12 := Lib.hid (A9_11.out.on g12)
  have A10_12 := Lib.hid (A10_11.out.on g12)
  have G12 := Lib.hid (Bel.trans G11.out g12)
  clear g12 A3_11 A4_11 A5_11 A6_11 A7_11 A8_11 A9_11 A10_11 G11
  clear A3_12
  clear A4_12
  go_wp2_with fail
  refine (S3.out w12 o5 n5 c5 o6 n6 c6 A5_12.out A6_12.out).mono ?_
  rintro e w13 ⟨rfl, g13⟩
  have A5_13 := Lib.hid (A5_12.out.on g13)
  have A6_13 := Lib.hid (A6_12.out.on g13)
  have A7_13 := Lib.hid (A7_12.out.on g13)
  have A8_13 := Lib.hid (A8_12.out.on g13)
  have A9_13 := Lib.hid (A9_12.out.on g13)
  have A10_13 := Lib.hid (A10_12.out.on g13)
  have G13 := Lib.hid (Bel.trans G12.out g13)
  clear g13 A5_12 A6_12 A7_12 A8_12 A9_12 A10_12 G12
  clear A5_13
  clear A6_13
  go_wp2_with fail
  refine (S4.out w13 o7 n7 c7 o8 n8 c8 A7_13.out A8_13.out).mono ?_
  rintro e w14 ⟨rfl, g14⟩
  have A7_14 := Lib.hid (A7_13.out.on g14)
  have A8_14 := Lib.hid (A8_13.out.on g14)
  have A9_14 := Lib.hid (A9_13.out.on g14)
  have A10_14 := Lib.hid (A10_13.out.on g14)
  have G14 := Lib.hid (Bel.trans G13.out g14)
  clear g14 A7_13 A8_13 A9_13 A10_13 G13
  clear A7_14
  clear A8_14
  go_wp2_with fail
  refine (S5.out w14 o9 n9 c9 o10 n10 c10 A9_14.out A10_14.out).mono ?_
  rintro e w15 ⟨rfl, g15⟩
  have A9_15 := Lib.hid (A9_14.out.on g15)
  have A10_15 := Lib.hid (A10_14.out.on g15)
  have G15 := Lib.hid (Bel.trans G14.out g15)
  clear g15 A9_14 A10_14 G14
  clear A9_15
  clear A10_15
  go_wp2_with fail
  refine (awake_any w15).mono ?_
  rintro e w16 ⟨rfl, g16⟩
  go_wp2_with fail
  go_ret
  exact ⟨rfl, Bel.trans G15.out g16⟩
set_option maxRecDepth 100000 in
set_option maxHeartbeats 4000000 in
theorem law_finds (l x : List Cel) (key : ByteArray) (ps : List ByteArray) (o o3 o4 : Option Addr) (n c n3 c3 n4 c4 : Nat) (hn : n ≤ 4611686018427387904) (hn3 : n3 ≤ 4611686018427387904) (hc : n ≤ c) (hc3 : n3 ≤ c3) (w : World) (hL : Lad w) (hA : CArg w o n l) (hX : CArg w o3 n3 x) (hP : SlArg w o4 n4 ps) :
    Calls Tryz.prog 3 #[.slice o n c, .string key, .slice o3 n3 c3, .slice o4 n4 c4] w fun e w' => e = .returned (.bool true) ∧ Bel w w' := by
  have HL := Lib.hid (small_any l o n c hn w hA)
  have HX := Lib.hid (small_any x o3 n3 c3 hn3 w hX)
  have HN := Lib.hid (names_any ps o4 n4 c4 w hP)
  cases hl : smallB l with
  | false =>
    rw [hl] at HL
    clear hl hA hX HX hP HN hL
    go_enter Tryz.func3, Tryz.ntmps3
    go_wp2_with fail
    refine HL.out.mono ?_
    rintro e w' ⟨rfl, rfl⟩
    go_wp2_with fail
    refine (awake_any w).mono ?_
    rintro e w1 ⟨rfl, g1⟩
    go_wp2_with fail
    go_ret
    exact ⟨rfl, g1⟩
  | true =>
    cases hx : smallB x with
    | false =>
      rw [hl] at HL
      rw [hx] at HX
      clear hl hx hA hX hP HN hL
      go_enter Tryz.func3, Tryz.ntmps3
      go_wp2_with fail
      refine HL.out.mono ?_
      rintro e w' ⟨rfl, rfl⟩
      go_wp2_with fail
      refine HX.out.mono ?_
      rintro e w' ⟨rfl, rfl⟩
      go_wp2_with fail
      refine (awake_any w).mono ?_
      rintro e w1 ⟨rfl, g1⟩
      go_wp2_with fail
      go_ret
      exact ⟨rfl, g1⟩
    | true =>
      by_cases hk3 : 300 < key.size
      · have d : decide ((300 : Int) < (key.size : Int)) = true := decide_eq_true (by omega)
        rw [hl] at HL
        rw [hx] at HX
        clear hl hx hA hX hP HN hL
        go_enter Tryz.func3, Tryz.ntmps3
        go_wp2_with fail
        refine HL.out.mono ?_
        rintro e w' ⟨rfl, rfl⟩
        go_wp2_with fail
        refine HX.out.mono ?_
        rintro e w' ⟨rfl, rfl⟩
        go_wp2_with fail
        refine (awake_any w).mono ?_
        rintro e w1 ⟨rfl, g1⟩
        go_wp2_with fail
        go_ret
        exact ⟨rfl, g1⟩
      · cases hps : namesB ps with
        | false =>
          have d : decide ((300 : Int) < (key.size : Int)) = false := decide_eq_false (by omega)
          rw [hl] at HL
          rw [hx] at HX
          rw [hps] at HN
          clear hl hx hps hA hX hP hL
          go_enter Tryz.func3, Tryz.ntmps3
          go_wp2_with fail
          refine HL.out.mono ?_
          rintro e w' ⟨rfl, rfl⟩
          go_wp2_with fail
          refine HX.out.mono ?_
          rintro e w' ⟨rfl, rfl⟩
          go_wp2_with fail
          refine HN.out.mono ?_
          rintro e w' ⟨rfl, rfl⟩
          go_wp2_with fail
          refine (awake_any w).mono ?_
          rintro e w1 ⟨rfl, g1⟩
          go_wp2_with fail
          go_ret
          exact ⟨rfl, g1⟩
        | true => exact finds_main l x key ps o o3 o4 n c n3 c3 n4 c4 hc hc3 w hL hA hX hP hl hx hk3 hps
end Val
end Go.Proofs.YtegfcmnbljdcpaaGreatDoor
