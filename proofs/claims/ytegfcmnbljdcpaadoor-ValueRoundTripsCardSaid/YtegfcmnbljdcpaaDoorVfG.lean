/-
  Layer 6: the law ValueRoundTrips (written by tools/genRT.py).
-/
import Derived.Test.YtegfcmnbljdcpaaDoorVfE
import Derived.Test.YtegfcmnbljdcpaaDoorVdX
import Derived.Test.YtegfcmnbljdcpaaDoorVdY
import Derived.Test.YtegfcmnbljdcpaaDoorVdC
namespace Go.Proofs.YtegfcmnbljdcpaaDoor
open Go.RowKit Go.ChangeShapes Go.WideShapes
namespace Val

theorem str_ne {a b : ByteArray} (h : ¬ a = b) : (a.toList == b.toList) = false := by
  rcases str_ways a b with ⟨_, _, _, f, _⟩ | g | ⟨_, _, _, f, _⟩
  · exact f
  · exact absurd g h
  · exact f
theorem chk_short {l : List Cel} (h : chk l = 0) : l.length ≤ 200 ∧ Shrt l := by
  obtain ⟨t, hp, ht⟩ := chk_ok h
  refine ⟨chk_len ht, fun x hx => ?_⟩
  unfold chkT at ht
  repeat' split at ht
  all_goals first | exact absurd ht (by decide) | skip
  next h1 h2 h3 h4 h5 =>
    have h6 : l.all strC = true := by simpa using h4
    have := List.all_eq_true.1 h6 x hx
    unfold strC at this
    have := of_decide_eq_true this
    omega
theorem enc_len {l : List Cel} (h : chk l = 0) : (encT l).length ≤ 4000 := by
  obtain ⟨t, hp, ht⟩ := chk_ok h
  unfold encT
  rw [hp]
  simp only
  rw [if_pos ht]
  exact chk_text ht
theorem get_len (l : List Cel) (key : ByteArray) : (getB l key).length ≤ 200 := by
  by_cases h : keyE l = 0
  · unfold getB
    cases hg : getM key (keyB l) (itmB l) with
    | none => exact Nat.zero_le _
    | some y => exact (itm_cells h (getM_mem hg)).1
  · rw [get_nil (by unfold getE; rw [if_neg h]; exact h)]
    exact Nat.zero_le _
set_option maxRecDepth 100000 in
set_option maxHeartbeats 40000000 in
theorem law_main (l x : List Cel) (s key other : ByteArray) (o o3 : Option Addr) (n c n3 c3 : Nat) (hc : n ≤ c) (hc3 : n3 ≤ c3) (w : World) (hA : CArg w o n l) (hX : CArg w o3 n3 x) (hl : smallB l = true) (hx : smallB x = true) (hs4 : ¬ 4100 < s.size) (hk3 : ¬ 300 < key.size) (ho3 : ¬ 300 < other.size) :
    Calls Tryd.prog 3 #[.slice o n c, .string s, .string key, .string other, .slice o3 n3 c3] w fun e w' => e = .returned (.bool true) ∧ Bel w w' := by
  have hls := small_yes hl
  have hxs := small_yes hx
  have hlsh := small_shrt hl
  have hxsh := small_shrt hx
  have hln := hA.1
  have hxn := hX.1
  have hn : n ≤ 300 := by omega
  have hn3 : n3 ≤ 300 := by omega
  have HL := small_any l o n c (by omega) w hA
  have HX := small_any x o3 n3 c3 (by omega) w hX
  rw [hl] at HL
  rw [hx] at HX
  have SL := Lib.hid HL
  have SX := Lib.hid HX
  have G0 := Lib.hid (Bel.refl w)
  have dS : decide ((4100 : Int) < (s.size : Int)) = false := decide_eq_false (by omega)
  have dK : decide ((300 : Int) < (key.size : Int)) = false := decide_eq_false (by omega)
  have dO : decide ((300 : Int) < (other.size : Int)) = false := decide_eq_false (by omega)
  have hE := fun (W : World) (g : Bel w W) => vencode_any l o n c (by omega) hlsh W (hA.on g)
  have hEE : chk l = 0 → (∀ W : World, Calls Tryd.prog 7 #[.string ⟨(encT l).toArray⟩] W fun e w' => CRes w' e l 0 ∧ Bel W w') ∧ (∀ (W : World) (o2 : Option Addr) (n2 c2 : Nat), Bel w W → CArg W o2 n2 l → Calls Tryd.prog 8 #[.slice o n c, .slice o2 n2 c2] W fun e w' => e = .returned (.bool true) ∧ Bel W w') := fun h => by
    refine ⟨fun W => ?_, fun W o2 n2 c2 g hB => ?_⟩
    · have h1 := vdecode_any ⟨(encT l).toArray⟩ (by have := enc_len h; show (encT l).toArray.size ≤ _; simp; omega) W
      rw [tl, dec_enc h] at h1
      exact h1
    · have h1 := vsame_any l l o o2 n c n2 c2 (by omega) (by have := hB.1; omega) W (hA.on g) hB
      rw [same_me] at h1
      exact h1
  have hD := fun (W : World) => vdecode_any s (by omega) W
  have hDD : (decT s.toList).2 = 0 → (∀ (W : World) (o2 : Option Addr) (n2 c2 : Nat), CArg W o2 n2 (decT s.toList).1 → Calls Tryd.prog 6 #[.slice o2 n2 c2] W fun e w' => e = .returned (.tuple #[.string s, .int .i64 0]) ∧ Bel W w') ∧ (∀ (W : World) (o2 : Option Addr) (n2 c2 : Nat), CArg W o2 n2 (decT s.toList).1 → Calls Tryd.prog 9 #[.slice o2 n2 c2] W fun e w' => e = .returned (.int .i64 0) ∧ Bel W w') := fun h => by
    obtain ⟨e1, e2⟩ := enc_dec h
    obtain ⟨e3, e4⟩ := chk_short e2
    refine ⟨fun W o2 n2 c2 hB => ?_, fun W o2 n2 c2 hB => ?_⟩
    · have h1 := vencode_any _ o2 n2 c2 (by have := hB.1; omega) e4 W hB
      rw [e1, e2, str_back] at h1
      exact h1
    · have h1 := vcheck_any _ o2 n2 c2 (by have := hB.1; omega) e4 W hB
      rw [e2] at h1
      exact h1
  have hP := fun (W : World) (g : Bel w W) => vput_any l x key (by omega) o n c (by omega) hc hlsh o3 n3 c3 hn3 hc3 hxsh W (hA.on g) (hX.on g)
  have hPP : putE l key x = 0 → (∀ (W : World) (o2 : Option Addr) (n2 c2 : Nat), n2 ≤ c2 → CArg W o2 n2 (putB l key x) → Calls Tryd.prog 11 #[.slice o2 n2 c2, .string key] W fun e w' => CRes w' e x 0 ∧ Bel W w') ∧ (∀ (W : World) (o2 : Option Addr) (n2 c2 : Nat), CArg W o2 n2 (putB l key x) → Calls Tryd.prog 9 #[.slice o2 n2 c2] W fun e w' => e = .returned (.int .i64 0) ∧ Bel W w') ∧ (∀ (W : World) (o2 : Option Addr) (n2 c2 : Nat), n2 ≤ c2 → CArg W o2 n2 (putB l key x) → Calls Tryd.prog 11 #[.slice o2 n2 c2, .string other] W fun e w' => CRes w' e (getB (putB l key x) other) (getE (putB l key x) other) ∧ Bel W w') := fun h => by
    obtain ⟨e1, e2, e3, e4⟩ := put_get h
    obtain ⟨e5, e6⟩ := chk_short e1
    refine ⟨fun W o2 n2 c2 h2 hB => ?_, fun W o2 n2 c2 hB => ?_, fun W o2 n2 c2 h2 hB => ?_⟩
    · have h1 := vget_any _ key o2 n2 c2 (by have := hB.1; omega) h2 e6 W hB
      rw [e2, e3] at h1
      exact h1
    · have h1 := vcheck_any _ o2 n2 c2 (by have := hB.1; omega) e6 W hB
      rw [e1] at h1
      exact h1
    · exact vget_any _ other o2 n2 c2 (by have := hB.1; omega) h2 e6 W hB
  have hSx := fun (W : World) (o2 : Option Addr) (n2 c2 : Nat) (g : Bel w W) (hB : CArg W o2 n2 x) => vsame_any x x o2 o3 n2 c2 n3 c3 (by have := hB.1; omega) (by omega) W hB (hX.on g)
  rw [same_me] at hSx
  have HSx := Lib.hid hSx
  have hGo := fun (W : World) (g : Bel w W) => vget_any l other o n c (by omega) hc hlsh W (hA.on g)
  have hSA := fun (W : World) (o2 : Option Addr) (n2 c2 : Nat) (o4 : Option Addr) (n4 c4 : Nat) (hB : CArg W o2 n2 (getB l other)) (hC : CArg W o4 n4 (getB l other)) => vsame_any (getB l other) (getB l other) o2 o4 n2 c2 n4 c4 (by have := hB.1; have := get_len l other; omega) (by have := hC.1; have := get_len l other; omega) W hB hC
  rw [same_me] at hSA
  have hAB : putE l key x = 0 → ¬ other = key → getB (putB l key x) other = getB l other ∧ getE (putB l key x) other = getE l other := fun h h2 => ⟨((put_get h).2.2.2 other h2).2, ((put_get h).2.2.2 other h2).1⟩
  generalize getB l other = AV at *
  generalize getE l other = AE at *
  generalize getB (putB l key x) other = BV at *
  generalize getE (putB l key x) other = BE at *
  generalize putB l key x = PV at *
  generalize putE l key x = PE at *
  generalize (decT s.toList).1 = DV at *
  generalize (decT s.toList).2 = DE at *
  generalize (⟨(encT l).toArray⟩ : ByteArray) = TX at *
  generalize chk l = EL at *
  have HE := Lib.hid hE
  have HEE := Lib.hid hEE
  have HDs := Lib.hid hD
  have HDD := Lib.hid hDD
  have HP := Lib.hid hP
  have HPP := Lib.hid hPP
  have HGo := Lib.hid hGo
  have HSA := Lib.hid hSA
  have HAB := Lib.hid hAB
  clear hE hEE hD hDD hP hPP hSx hGo hSA hAB hls hxs hlsh hxsh hln hxn HL HX hA hX hl hx
  go_enter Tryd.func3, Tryd.ntmps3
  go_wp2_with fail
  refine SL.out.mono ?_
  rintro e w' ⟨rfl, rfl⟩
  go_wp2_with fail
  refine SX.out.mono ?_
  rintro e w' ⟨rfl, rfl⟩
  clear SL SX
  go_wp2_with fail
  refine (HE.out w G0.out).mono ?_
  rintro e w1 ⟨rfl, g1⟩
  have G1 := Lib.hid (Bel.trans G0.out g1)
  clear g1
  by_cases he : EL = 0
  · have HEQ := Lib.hid (HEE.out he)
    subst he
    go_wp2_with fail
    refine (HEQ.out.1 w1).mono ?_
    rintro e w2 ⟨⟨o2, n2, c2, rfl, hA2, hc2⟩, g2⟩
    have A2 := Lib.hid hA2
    have G2 := Lib.hid (Bel.trans G1.out g2)
    clear g2 hA2 G1
    go_wp2_with fail
    refine (HEQ.out.2 w2 o2 n2 c2 G2.out A2.out).mono ?_
    rintro e w3 ⟨rfl, g3⟩
    have G3 := Lib.hid (Bel.trans G2.out g3)
    clear g3 G2
    go_wp2_with fail
    refine (HDs.out w3).mono ?_
    rintro e w4 ⟨⟨o4, n4, c4, rfl, hA4, hc4⟩, g4⟩
    have A4 := Lib.hid hA4
    have G4 := Lib.hid (Bel.trans G3.out g4)
    clear g4 hA4 G3
    by_cases hd : DE = 0
    · have HDQ := Lib.hid (HDD.out hd)
      subst hd
      go_wp2_with fail
      refine (HDQ.out.1 w4 o4 n4 c4 A4.out).mono ?_
      rintro e w5 ⟨rfl, g5⟩
      have A4_5 := Lib.hid (A4.out.on g5)
      have G5 := Lib.hid (Bel.trans G4.out g5)
      clear g5 A4 G4
      go_wp2_with fail
      refine (HDQ.out.2 w5 o4 n4 c4 A4_5.out).mono ?_
      rintro e w6 ⟨rfl, g6⟩
      have G6 := Lib.hid (Bel.trans G5.out g6)
      clear g6 G5
      go_wp2_with fail
      refine (HP.out w6 G6.out).mono ?_
      rintro e w7 ⟨⟨o7, n7, c7, rfl, hA7, hc7⟩, g7⟩
      have A7 := Lib.hid hA7
      have G7 := Lib.hid (Bel.trans G6.out g7)
      clear g7 hA7 G6
      by_cases hp : PE = 0
      · have HPQ := Lib.hid (HPP.out hp)
        have HAQ := Lib.hid (HAB.out hp)
        clear HPP HAB
        subst hp
        go_wp2_with fail
        refine (HPQ.out.1 w7 o7 n7 c7 hc7 A7.out).mono ?_
        rintro e w8 ⟨⟨o8, n8, c8, rfl, hA8, hc8⟩, g8⟩
        have A8 := Lib.hid hA8
        have A7_8 := Lib.hid (A7.out.on g8)
        have G8 := Lib.hid (Bel.trans G7.out g8)
        clear g8 hA8 A7 G7
        go_wp2_with fail
        refine (HSx.out w8 o8 n8 c8 G8.out A8.out).mono ?_
        rintro e w9 ⟨rfl, g9⟩
        have A7_8_9 := Lib.hid (A7_8.out.on g9)
        have G9 := Lib.hid (Bel.trans G8.out g9)
        clear g9 A7_8 G8
        go_wp2_with fail
        refine (HPQ.out.2.1 w9 o7 n7 c7 A7_8_9.out).mono ?_
        rintro e w10 ⟨rfl, g10⟩
        have A7_8_9_10 := Lib.hid (A7_8_9.out.on g10)
        have G10 := Lib.hid (Bel.trans G9.out g10)
        clear g10 A7_8_9 G9
        go_wp2_with fail
        refine (HGo.out w10 G10.out).mono ?_
        rintro e w11 ⟨⟨o11, n11, c11, rfl, hA11, hc11⟩, g11⟩
        have A11 := Lib.hid hA11
        have A7_8_9_10_11 := Lib.hid (A7_8_9_10.out.on g11)
        have G11 := Lib.hid (Bel.trans G10.out g11)
        clear g11 hA11 A7_8_9_10 G10
        go_wp2_with fail
        refine (HPQ.out.2.2 w11 o7 n7 c7 hc7 A7_8_9_10_11.out).mono ?_
        rintro e w12 ⟨⟨o12, n12, c12, rfl, hA12, hc12⟩, g12⟩
        have A12 := Lib.hid hA12
        have A11_12 := Lib.hid (A11.out.on g12)
        have G12 := Lib.hid (Bel.trans G11.out g12)
        clear g12 hA12 A11 G11
        by_cases hok : other = key
        · have hs : (other.toList == key.toList) = true := by rw [hok]; simp
          clear hok
          go_wp2_with fail
          refine (awake_any w12).mono ?_
          rintro e w13 ⟨rfl, g13⟩
          go_wp2_with fail
          go_ret
          exact ⟨rfl, Bel.trans G12.out g13⟩
        · have hs : (other.toList == key.toList) = false := str_ne hok
          obtain ⟨e1, e2⟩ := HAQ.out hok
          subst e1 e2
          clear hok
          go_wp2_with fail
          refine (HSA.out w12 o11 n11 c11 o12 n12 c12 A11_12.out A12.out).mono ?_
          rintro e w14 ⟨rfl, g14⟩
          have G14 := Lib.hid (Bel.trans G12.out g14)
          clear g14 G12
          go_wp2_with fail
          refine (awake_any w14).mono ?_
          rintro e w15 ⟨rfl, g15⟩
          go_wp2_with fail
          go_ret
          exact ⟨rfl, Bel.trans G14.out g15⟩
      · have hpe : (PE == 0) = false := by simpa using hp
        clear hp
        go_wp2_with fail
        refine (awake_any w7).mono ?_
        rintro e w16 ⟨rfl, g16⟩
        go_wp2_with fail
        go_ret
        exact ⟨rfl, Bel.trans G7.out g16⟩
    · have hde : (DE == 0) = false := by simpa using hd
      clear hd
      go_wp2_with fail
      refine (HP.out w4 G4.out).mono ?_
      rintro e w17 ⟨⟨o17, n17, c17, rfl, hA17, hc17⟩, g17⟩
      have A17 := Lib.hid hA17
      have G17 := Lib.hid (Bel.trans G4.out g17)
      clear g17 hA17 G4
      by_cases hp : PE = 0
      · have HPQ := Lib.hid (HPP.out hp)
        have HAQ := Lib.hid (HAB.out hp)
        clear HPP HAB
        subst hp
        go_wp2_with fail
        refine (HPQ.out.1 w17 o17 n17 c17 hc17 A17.out).mono ?_
        rintro e w18 ⟨⟨o18, n18, c18, rfl, hA18, hc18⟩, g18⟩
        have A18 := Lib.hid hA18
        have A17_18 := Lib.hid (A17.out.on g18)
        have G18 := Lib.hid (Bel.trans G17.out g18)
        clear g18 hA18 A17 G17
        go_wp2_with fail
        refine (HSx.out w18 o18 n18 c18 G18.out A18.out).mono ?_
        rintro e w19 ⟨rfl, g19⟩
        have A17_18_19 := Lib.hid (A17_18.out.on g19)
        have G19 := Lib.hid (Bel.trans G18.out g19)
        clear g19 A17_18 G18
        go_wp2_with fail
        refine (HPQ.out.2.1 w19 o17 n17 c17 A17_18_19.out).mono ?_
        rintro e w20 ⟨rfl, g20⟩
        have A17_18_19_20 := Lib.hid (A17_18_19.out.on g20)
        have G20 := Lib.hid (Bel.trans G19.out g20)
        clear g20 A17_18_19 G19
        go_wp2_with fail
        refine (HGo.out w20 G20.out).mono ?_
        rintro e w21 ⟨⟨o21, n21, c21, rfl, hA21, hc21⟩, g21⟩
        have A21 := Lib.hid hA21
        have A17_18_19_20_21 := Lib.hid (A17_18_19_20.out.on g21)
        have G21 := Lib.hid (Bel.trans G20.out g21)
        clear g21 hA21 A17_18_19_20 G20
        go_wp2_with fail
        refine (HPQ.out.2.2 w21 o17 n17 c17 hc17 A17_18_19_20_21.out).mono ?_
        rintro e w22 ⟨⟨o22, n22, c22, rfl, hA22, hc22⟩, g22⟩
        have A22 := Lib.hid hA22
        have A21_22 := Lib.hid (A21.out.on g22)
        have G22 := Lib.hid (Bel.trans G21.out g22)
        clear g22 hA22 A21 G21
        by_cases hok : other = key
        · have hs : (other.toList == key.toList) = true := by rw [hok]; simp
          clear hok
          go_wp2_with fail
          refine (awake_any w22).mono ?_
          rintro e w23 ⟨rfl, g23⟩
          go_wp2_with fail
          go_ret
          exact ⟨rfl, Bel.trans G22.out g23⟩
        · have hs : (other.toList == key.toList) = false := str_ne hok
          obtain ⟨e1, e2⟩ := HAQ.out hok
          subst e1 e2
          clear hok
          go_wp2_with fail
          refine (HSA.out w22 o21 n21 c21 o22 n22 c22 A21_22.out A22.out).mono ?_
          rintro e w24 ⟨rfl, g24⟩
          have G24 := Lib.hid (Bel.trans G22.out g24)
          clear g24 G22
          go_wp2_with fail
          refine (awake_any w24).mono ?_
          rintro e w25 ⟨rfl, g25⟩
          go_wp2_with fail
          go_ret
          exact ⟨rfl, Bel.trans G24.out g25⟩
      · have hpe : (PE == 0) = false := by simpa using hp
        clear hp
        go_wp2_with fail
        refine (awake_any w17).mono ?_
        rintro e w26 ⟨rfl, g26⟩
        go_wp2_with fail
        go_ret
        exact ⟨rfl, Bel.trans G17.out g26⟩
  · have hee : (EL == 0) = false := by simpa using he
    clear he
    go_wp2_with fail
    refine (HDs.out w1).mono ?_
    rintro e w27 ⟨⟨o27, n27, c27, rfl, hA27, hc27⟩, g27⟩
    have A27 := Lib.hid hA27
    have G27 := Lib.hid (Bel.trans G1.out g27)
    clear g27 hA27 G1
    by_cases hd : DE = 0
    · have HDQ := Lib.hid (HDD.out hd)
      subst hd
      go_wp2_with fail
      refine (HDQ.out.1 w27 o27 n27 c27 A27.out).mono ?_
      rintro e w28 ⟨rfl, g28⟩
      have A27_28 := Lib.hid (A27.out.on g28)
      have G28 := Lib.hid (Bel.trans G27.out g28)
      clear g28 A27 G27
      go_wp2_with fail
      refine (HDQ.out.2 w28 o27 n27 c27 A27_28.out).mono ?_
      rintro e w29 ⟨rfl, g29⟩
      have G29 := Lib.hid (Bel.trans G28.out g29)
      clear g29 G28
      go_wp2_with fail
      refine (HP.out w29 G29.out).mono ?_
      rintro e w30 ⟨⟨o30, n30, c30, rfl, hA30, hc30⟩, g30⟩
      have A30 := Lib.hid hA30
      have G30 := Lib.hid (Bel.trans G29.out g30)
      clear g30 hA30 G29
      by_cases hp : PE = 0
      · have HPQ := Lib.hid (HPP.out hp)
        have HAQ := Lib.hid (HAB.out hp)
        clear HPP HAB
        subst hp
        go_wp2_with fail
        refine (HPQ.out.1 w30 o30 n30 c30 hc30 A30.out).mono ?_
        rintro e w31 ⟨⟨o31, n31, c31, rfl, hA31, hc31⟩, g31⟩
        have A31 := Lib.hid hA31
        have A30_31 := Lib.hid (A30.out.on g31)
        have G31 := Lib.hid (Bel.trans G30.out g31)
        clear g31 hA31 A30 G30
        go_wp2_with fail
        refine (HSx.out w31 o31 n31 c31 G31.out A31.out).mono ?_
        rintro e w32 ⟨rfl, g32⟩
        have A30_31_32 := Lib.hid (A30_31.out.on g32)
        have G32 := Lib.hid (Bel.trans G31.out g32)
        clear g32 A30_31 G31
        go_wp2_with fail
        refine (HPQ.out.2.1 w32 o30 n30 c30 A30_31_32.out).mono ?_
        rintro e w33 ⟨rfl, g33⟩
        have A30_31_32_33 := Lib.hid (A30_31_32.out.on g33)
        have G33 := Lib.hid (Bel.trans G32.out g33)
        clear g33 A30_31_32 G32
        go_wp2_with fail
        refine (HGo.out w33 G33.out).mono ?_
        rintro e w34 ⟨⟨o34, n34, c34, rfl, hA34, hc34⟩, g34⟩
        have A34 := Lib.hid hA34
        have A30_31_32_33_34 := Lib.hid (A30_31_32_33.out.on g34)
        have G34 := Lib.hid (Bel.trans G33.out g34)
        clear g34 hA34 A30_31_32_33 G33
        go_wp2_with fail
        refine (HPQ.out.2.2 w34 o30 n30 c30 hc30 A30_31_32_33_34.out).mono ?_
        rintro e w35 ⟨⟨o35, n35, c35, rfl, hA35, hc35⟩, g35⟩
        have A35 := Lib.hid hA35
        have A34_35 := Lib.hid (A34.out.on g35)
        have G35 := Lib.hid (Bel.trans G34.out g35)
        clear g35 hA35 A34 G34
        by_cases hok : other = key
        · have hs : (other.toList == key.toList) = true := by rw [hok]; simp
          clear hok
          go_wp2_with fail
          refine (awake_any w35).mono ?_
          rintro e w36 ⟨rfl, g36⟩
          go_wp2_with fail
          go_ret
          exact ⟨rfl, Bel.trans G35.out g36⟩
        · have hs : (other.toList == key.toList) = false := str_ne hok
          obtain ⟨e1, e2⟩ := HAQ.out hok
          subst e1 e2
          clear hok
          go_wp2_with fail
          refine (HSA.out w35 o34 n34 c34 o35 n35 c35 A34_35.out A35.out).mono ?_
          rintro e w37 ⟨rfl, g37⟩
          have G37 := Lib.hid (Bel.trans G35.out g37)
          clear g37 G35
          go_wp2_with fail
          refine (awake_any w37).mono ?_
          rintro e w38 ⟨rfl, g38⟩
          go_wp2_with fail
          go_ret
          exact ⟨rfl, Bel.trans G37.out g38⟩
      · have hpe : (PE == 0) = false := by simpa using hp
        clear hp
        go_wp2_with fail
        refine (awake_any w30).mono ?_
        rintro e w39 ⟨rfl, g39⟩
        go_wp2_with fail
        go_ret
        exact ⟨rfl, Bel.trans G30.out g39⟩
    · have hde : (DE == 0) = false := by simpa using hd
      clear hd
      go_wp2_with fail
      refine (HP.out w27 G27.out).mono ?_
      rintro e w40 ⟨⟨o40, n40, c40, rfl, hA40, hc40⟩, g40⟩
      have A40 := Lib.hid hA40
      have G40 := Lib.hid (Bel.trans G27.out g40)
      clear g40 hA40 G27
      by_cases hp : PE = 0
      · have HPQ := Lib.hid (HPP.out hp)
        have HAQ := Lib.hid (HAB.out hp)
        clear HPP HAB
        subst hp
        go_wp2_with fail
        refine (HPQ.out.1 w40 o40 n40 c40 hc40 A40.out).mono ?_
        rintro e w41 ⟨⟨o41, n41, c41, rfl, hA41, hc41⟩, g41⟩
        have A41 := Lib.hid hA41
        have A40_41 := Lib.hid (A40.out.on g41)
        have G41 := Lib.hid (Bel.trans G40.out g41)
        clear g41 hA41 A40 G40
        go_wp2_with fail
        refine (HSx.out w41 o41 n41 c41 G41.out A41.out).mono ?_
        rintro e w42 ⟨rfl, g42⟩
        have A40_41_42 := Lib.hid (A40_41.out.on g42)
        have G42 := Lib.hid (Bel.trans G41.out g42)
        clear g42 A40_41 G41
        go_wp2_with fail
        refine (HPQ.out.2.1 w42 o40 n40 c40 A40_41_42.out).mono ?_
        rintro e w43 ⟨rfl, g43⟩
        have A40_41_42_43 := Lib.hid (A40_41_42.out.on g43)
        have G43 := Lib.hid (Bel.trans G42.out g43)
        clear g43 A40_41_42 G42
        go_wp2_with fail
        refine (HGo.out w43 G43.out).mono ?_
        rintro e w44 ⟨⟨o44, n44, c44, rfl, hA44, hc44⟩, g44⟩
        have A44 := Lib.hid hA44
        have A40_41_42_43_44 := Lib.hid (A40_41_42_43.out.on g44)
        have G44 := Lib.hid (Bel.trans G43.out g44)
        clear g44 hA44 A40_41_42_43 G43
        go_wp2_with fail
        refine (HPQ.out.2.2 w44 o40 n40 c40 hc40 A40_41_42_43_44.out).mono ?_
        rintro e w45 ⟨⟨o45, n45, c45, rfl, hA45, hc45⟩, g45⟩
        have A45 := Lib.hid hA45
        have A44_45 := Lib.hid (A44.out.on g45)
        have G45 := Lib.hid (Bel.trans G44.out g45)
        clear g45 hA45 A44 G44
        by_cases hok : other = key
        · have hs : (other.toList == key.toList) = true := by rw [hok]; simp
          clear hok
          go_wp2_with fail
          refine (awake_any w45).mono ?_
          rintro e w46 ⟨rfl, g46⟩
          go_wp2_with fail
          go_ret
          exact ⟨rfl, Bel.trans G45.out g46⟩
        · have hs : (other.toList == key.toList) = false := str_ne hok
          obtain ⟨e1, e2⟩ := HAQ.out hok
          subst e1 e2
          clear hok
          go_wp2_with fail
          refine (HSA.out w45 o44 n44 c44 o45 n45 c45 A44_45.out A45.out).mono ?_
          rintro e w47 ⟨rfl, g47⟩
          have G47 := Lib.hid (Bel.trans G45.out g47)
          clear g47 G45
          go_wp2_with fail
          refine (awake_any w47).mono ?_
          rintro e w48 ⟨rfl, g48⟩
          go_wp2_with fail
          go_ret
          exact ⟨rfl, Bel.trans G47.out g48⟩
      · have hpe : (PE == 0) = false := by simpa using hp
        clear hp
        go_wp2_with fail
        refine (awake_any w40).mono ?_
        rintro e w49 ⟨rfl, g49⟩
        go_wp2_with fail
        go_ret
        exact ⟨rfl, Bel.trans G40.out g49⟩
set_option maxRecDepth 100000 in
set_option maxHeartbeats 4000000 in
theorem law_roundTrips (l x : List Cel) (s key other : ByteArray) (o o3 : Option Addr) (n c n3 c3 : Nat) (hn : n ≤ 4611686018427387904) (hn3 : n3 ≤ 4611686018427387904) (hc : n ≤ c) (hc3 : n3 ≤ c3) (w : World) (hA : CArg w o n l) (hX : CArg w o3 n3 x) :
    Calls Tryd.prog 3 #[.slice o n c, .string s, .string key, .string other, .slice o3 n3 c3] w fun e w' => e = .returned (.bool true) ∧ Bel w w' := by
  have HL := Lib.hid (small_any l o n c hn w hA)
  have HX := Lib.hid (small_any x o3 n3 c3 hn3 w hX)
  cases hl : smallB l with
  | false =>
    rw [hl] at HL
    clear hl hA hX HX
    go_enter Tryd.func3, Tryd.ntmps3
    go_wp2_with fail
    refine HL.out.mono ?_
    rintro e w' ⟨rfl, rfl⟩
    go_wp2_with fail
    refine (awake_any w).mono ?_
    rintro e w1 ⟨rfl, g1⟩
    go_wp2_with fail
    go_ret
    exact ⟨rfl, g1⟩
  | true =>
    cases hx : smallB x with
    | false =>
      rw [hl] at HL
      rw [hx] at HX
      clear hl hx hA hX
      go_enter Tryd.func3, Tryd.ntmps3
      go_wp2_with fail
      refine HL.out.mono ?_
      rintro e w' ⟨rfl, rfl⟩
      go_wp2_with fail
      refine HX.out.mono ?_
      rintro e w' ⟨rfl, rfl⟩
      go_wp2_with fail
      refine (awake_any w).mono ?_
      rintro e w1 ⟨rfl, g1⟩
      go_wp2_with fail
      go_ret
      exact ⟨rfl, g1⟩
    | true =>
      by_cases hs4 : 4100 < s.size
      · have d : decide ((4100 : Int) < (s.size : Int)) = true := decide_eq_true (by omega)
        rw [hl] at HL
        rw [hx] at HX
        clear hl hx hA hX
        go_enter Tryd.func3, Tryd.ntmps3
        go_wp2_with fail
        refine HL.out.mono ?_
        rintro e w' ⟨rfl, rfl⟩
        go_wp2_with fail
        refine HX.out.mono ?_
        rintro e w' ⟨rfl, rfl⟩
        go_wp2_with fail
        refine (awake_any w).mono ?_
        rintro e w1 ⟨rfl, g1⟩
        go_wp2_with fail
        go_ret
        exact ⟨rfl, g1⟩
      · by_cases hk3 : 300 < key.size
        · have d : decide ((300 : Int) < (key.size : Int)) = true := decide_eq_true (by omega)
          have d0 : decide ((4100 : Int) < (s.size : Int)) = false := decide_eq_false (by omega)
          rw [hl] at HL
          rw [hx] at HX
          clear hl hx hA hX
          go_enter Tryd.func3, Tryd.ntmps3
          go_wp2_with fail
          refine HL.out.mono ?_
          rintro e w' ⟨rfl, rfl⟩
          go_wp2_with fail
          refine HX.out.mono ?_
          rintro e w' ⟨rfl, rfl⟩
          go_wp2_with fail
          refine (awake_any w).mono ?_
          rintro e w1 ⟨rfl, g1⟩
          go_wp2_with fail
          go_ret
          exact ⟨rfl, g1⟩
        · by_cases ho3 : 300 < other.size
          · have d : decide ((300 : Int) < (other.size : Int)) = true := decide_eq_true (by omega)
            have d0 : decide ((4100 : Int) < (s.size : Int)) = false := decide_eq_false (by omega)
            have d1 : decide ((300 : Int) < (key.size : Int)) = false := decide_eq_false (by omega)
            rw [hl] at HL
            rw [hx] at HX
            clear hl hx hA hX
            go_enter Tryd.func3, Tryd.ntmps3
            go_wp2_with fail
            refine HL.out.mono ?_
            rintro e w' ⟨rfl, rfl⟩
            go_wp2_with fail
            refine HX.out.mono ?_
            rintro e w' ⟨rfl, rfl⟩
            go_wp2_with fail
            refine (awake_any w).mono ?_
            rintro e w1 ⟨rfl, g1⟩
            go_wp2_with fail
            go_ret
            exact ⟨rfl, g1⟩
          · exact law_main l x s key other o o3 n c n3 c3 hc hc3 w hA hX hl hx hs4 hk3 ho3
end Val
end Go.Proofs.YtegfcmnbljdcpaaDoor
