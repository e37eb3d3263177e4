/-
  Contracts of MulDiv and of what it calls.
-/
import Derived.Test.YtghcbicapcpmlaaNumB
import Derived.Test.YtghcbicapcpmlaaNumM
import Derived.Lib.ItoaNum
namespace Go.Proofs.Ytghcbicapcpmlaa
open Go.RowKit
namespace Num

def QuoIs (q : Int) (w : World) (e : Ending) (w' : World) : Prop := ∃ r : Int, e = .returned (.tuple #[.int .u64 q, .int .u64 r]) ∧ ∃ n, w' = w.drewN n

def EstB (U u Y1 Y0 : Int) (s16 : Value) (s15 : Value) : Prop := ∃ q r : Int, s15 = .int .u64 q ∧ s16 = .int .u64 r ∧ Est U u Y1 Y0 q r ∧ 0 ≤ q ∧ q ≤ 4294967297 ∧ 0 ≤ r ∧ r < 4294967296

theorem digit_bd {U u Y1 Y0 Q : Int} (hD : Dig U u Y1 Y0) (hQ : Q = (U * 4294967296 + u) / (Y1 * 4294967296 + Y0)) : 0 ≤ Q ∧ Q ≤ 4294967295 := by
  have := hD.true_lt; have := hD.true_nonneg; omega
theorem exit_facts {U L Y Y1 Y0 Q : Int} (hD : Dig U (L / 4294967296) Y1 Y0) (hY : Y = Y1 * 4294967296 + Y0) (hQ : Q = (U * 4294967296 + L / 4294967296) / (Y1 * 4294967296 + Y0)) :
    ∃ R, IntKind.u64.wrap (IntKind.u64.wrap (IntKind.u64.wrap (U * 4294967296) + L / 4294967296) - IntKind.u64.wrap (Q * Y)) = R ∧ Dig R (L % 4294967296) Y1 Y0 ∧ Hid (R = U * 4294967296 + L / 4294967296 - Q * Y) := by
  obtain ⟨u0, u1, a0, a1, b0, b1, c0, c1⟩ := hD
  rw [← hY] at hQ
  have h1 : Q * Y ≤ U * 4294967296 + L / 4294967296 := by rw [hQ]; exact Int.ediv_mul_le _ (by omega)
  have h2 : U * 4294967296 + L / 4294967296 < (Q + 1) * Y := by rw [hQ]; exact Int.lt_ediv_add_one_mul_self _ (by omega)
  rw [Int.add_mul, Int.one_mul] at h2
  refine ⟨U * 4294967296 + L / 4294967296 - Q * Y, ?_, ⟨by omega, by omega, a0, a1, b0, b1, by omega, by omega⟩, Lib.hid rfl⟩
  rw [IntKind.wrap_u64, IntKind.wrap_u64, IntKind.wrap_u64, IntKind.wrap_u64]
  omega
theorem two_done {U L Y Y1 Y0 Q R K : Int} (hY : Y = Y1 * 4294967296 + Y0) (hQ : Q = (U * 4294967296 + L / 4294967296) / (Y1 * 4294967296 + Y0)) (hR : R = U * 4294967296 + L / 4294967296 - Q * Y)
    (hK : K = (R * 4294967296 + L % 4294967296) / (Y1 * 4294967296 + Y0)) (hp : 0 < Y) : Q * 4294967296 + K = (U * 18446744073709551616 + L) / Y := by
  rw [← hY] at hQ hK
  exact two_digits U L Y hp Q hQ K (by rw [hK, hR])

set_option maxHeartbeats 1000000 in
theorem div64_core (hi lo y Y Y1 Y0 U L : Int) (s : Nat) (hs1 : s ≤ 63) (h2 : 1 ≤ hi) (h3 : hi < y) (w : World)
   (hlz : ∀ w, Calls Try.prog 61 #[.int .u64 y] w fun e w' => e = .returned (.int .i64 (s : Int)) ∧ w' = w)
   (hY : IntKind.u64.wrap (y * 2 ^ s) = Y) (hY1 : Y / 4294967296 = Y1) (hY0 : bits .and .u64 Y 4294967295 = Y0)
   (hU : bits .or .u64 (IntKind.u64.wrap (hi * 2 ^ s)) (lo / 2 ^ (64 - s)) = U)
   (hL : IntKind.u64.wrap (lo * 2 ^ s) = L) (hL0 : bits .and .u64 L 4294967295 = L % 4294967296)
   (hD : Dig U (L / 4294967296) Y1 Y0) (hYY : Hid (Y = Y1 * 4294967296 + Y0)) (hY3 : Y ≤ 18446744073709551615) :
    Calls Try.prog 53 #[.int .u64 hi, .int .u64 lo, .int .u64 y] w (QuoIs ((U * 18446744073709551616 + L) / Y) w) := by
  have hy : (y == 0) = false := by simp; omega
  have hh : (hi == 0) = false := by simp; omega
  obtain ⟨u0, u1, a0, a1, b0, b1, c0, c1⟩ := id hD
  have hst := hD.start
  obtain ⟨st1, st2, st3, st4, st5, st6⟩ := hst
  have E1 : IntKind.u64.wrap (U.tdiv Y1) = U / Y1 := by rw [Int.tdiv_eq_ediv_of_nonneg c0]; exact IntWalk.u64_in _ (by omega)
  have E2 : IntKind.u64.wrap (U / Y1 * Y1) = U / Y1 * Y1 := IntWalk.u64_in _ (by have := hYY.out; have : Y ≤ 18446744073709551615 := hY3; omega)
  have E3 : IntKind.u64.wrap (U - U / Y1 * Y1) = U - U / Y1 * Y1 := IntWalk.u64_in _ (by omega)
  have H := Lib.hid hlz
  clear hlz
  go_enter Try.func53, Try.ntmps53
  go_wp2_with (go_at_call 61; refine (H.out _).mono ?_; rintro e w' ⟨rfl, rfl⟩)
  go_loop [15, 16] (fun q r => EstB U (L / 4294967296) Y1 Y0 r q) (fun _ r => (4294967296 - intOf r).toNat)
  case atStart => exact ⟨_, _, rfl, rfl, st1, st5, st2, st3, st4⟩
  case round =>
    obtain ⟨q, r, rfl, rfl, he, q0, q1, r0, r1⟩ := hrel
    clear E1 E2 E3 st1 st2 st3 st4 st5 st6
    by_cases g1 : 4294967296 ≤ q
    · obtain ⟨d1, d2⟩ := hD.down he (Or.inl g1)
      have HE := Lib.hid d1
      clear d1
      by_cases g2 : 4294967296 ≤ r + Y1
      · obtain ⟨Q, rfl⟩ : ∃ Q, q = Q + 1 := ⟨q - 1, by omega⟩
        have HE' : Est U (L / 4294967296) Y1 Y0 Q (r + Y1) := by have := HE.out; rw [Int.add_sub_cancel] at this; exact this
        have HQ := Lib.hid (hD.rightBig HE' (by omega) g2)
        clear HE HE' he
        have hx := exit_facts hD hYY.out HQ.out
        obtain ⟨R, hR, dR, HR⟩ := hx
        obtain ⟨Q0, Q1⟩ := digit_bd hD HQ.out
        obtain ⟨v0, v1, a0', a1', b0', b1', d0, d1⟩ := id dR
        obtain ⟨st1, st2, st3, st4, st5, st6⟩ := dR.start
        have E1 : IntKind.u64.wrap (R.tdiv Y1) = R / Y1 := by rw [Int.tdiv_eq_ediv_of_nonneg d0]; exact IntWalk.u64_in _ (by omega)
        have E2 : IntKind.u64.wrap (R / Y1 * Y1) = R / Y1 * Y1 := IntWalk.u64_in _ (by omega)
        have E3 : IntKind.u64.wrap (R - R / Y1 * Y1) = R - R / Y1 * Y1 := IntWalk.u64_in _ (by omega)
        clear a0' a1' b0' b1'
        go_wp2
        go_loop [18, 16] (fun q r => EstB R (L % 4294967296) Y1 Y0 r q) (fun _ r => (4294967296 - intOf r).toNat)
        case atStart => exact ⟨_, _, rfl, rfl, st1, st5, st2, st3, st4⟩
        case round =>
          obtain ⟨k, t, rfl, rfl, he', k0, k1, t0, t1⟩ := hrel
          clear E1 E2 E3 st1 st2 st3 st4 st5 st6
          by_cases f1 : 4294967296 ≤ k
          · obtain ⟨z1, z2⟩ := dR.down he' (Or.inl f1)
            have HE := Lib.hid z1
            clear z1
            by_cases f2 : 4294967296 ≤ t + Y1
            · obtain ⟨K, rfl⟩ : ∃ K, k = K + 1 := ⟨k - 1, by omega⟩
              have HE' : Est R (L % 4294967296) Y1 Y0 K (t + Y1) := by have := HE.out; rw [Int.add_sub_cancel] at this; exact this
              have HK := Lib.hid (dR.rightBig HE' (by omega) f2)
              clear HE HE'
              have HT := Lib.hid (two_done hYY.out HQ.out HR.out HK.out (by omega))
              obtain ⟨K0, K1⟩ := digit_bd dR HK.out
              go_wp2
              go_ret2
              exact ⟨_, (by rw [← HT.out]; rfl), 0, rfl⟩
            · go_wp2
              go_round
              case rel => exact ⟨k - 1, t + Y1, rfl, rfl, HE.out, by omega, by omega, by omega, by omega⟩
              case measure => simp [intOf]; omega
          · obtain ⟨p1, p2⟩ := prod_bd (q := k) (y := Y0) k0 (by omega) b0 b1
            by_cases f2 : 4294967296 * t + L % 4294967296 < k * Y0
            · obtain ⟨z1, z2⟩ := dR.down he' (Or.inr f2)
              have HE := Lib.hid z1
              clear z1
              by_cases f3 : 4294967296 ≤ t + Y1
              · obtain ⟨K, rfl⟩ : ∃ K, k = K + 1 := ⟨k - 1, by omega⟩
                have HE' : Est R (L % 4294967296) Y1 Y0 K (t + Y1) := by have := HE.out; rw [Int.add_sub_cancel] at this; exact this
                have HK := Lib.hid (dR.rightBig HE' (by omega) f3)
                clear HE HE'
                have HT := Lib.hid (two_done hYY.out HQ.out HR.out HK.out (by omega))
                obtain ⟨K0, K1⟩ := digit_bd dR HK.out
                go_wp2
                go_ret2
                exact ⟨_, (by rw [← HT.out]; rfl), 0, rfl⟩
              · go_wp2
                go_round
                case rel => exact ⟨k - 1, t + Y1, rfl, rfl, HE.out, by omega, by omega, by omega, by omega⟩
                case measure => simp [intOf]; omega
            · have HK := Lib.hid (dR.right he' (by omega))
              have HT := Lib.hid (two_done hYY.out HQ.out HR.out HK.out (by omega))
              obtain ⟨K0, K1⟩ := digit_bd dR HK.out
              go_wp2
              go_ret2
              exact ⟨_, (by rw [← HT.out]; rfl), 0, rfl⟩
      · go_wp2
        go_round
        case rel => exact ⟨q - 1, r + Y1, rfl, rfl, HE.out, by omega, by omega, by omega, by omega⟩
        case measure => simp [intOf]; omega
    · obtain ⟨p1, p2⟩ := prod_bd (q := q) (y := Y0) q0 (by omega) b0 b1
      by_cases g2 : 4294967296 * r + L / 4294967296 < q * Y0
      · obtain ⟨d1, d2⟩ := hD.down he (Or.inr g2)
        have HE := Lib.hid d1
        clear d1
        by_cases g3 : 4294967296 ≤ r + Y1
        · obtain ⟨Q, rfl⟩ : ∃ Q, q = Q + 1 := ⟨q - 1, by omega⟩
          have HE' : Est U (L / 4294967296) Y1 Y0 Q (r + Y1) := by have := HE.out; rw [Int.add_sub_cancel] at this; exact this
          have HQ := Lib.hid (hD.rightBig HE' (by omega) g3)
          clear HE HE' he
          have hx := exit_facts hD hYY.out HQ.out
          obtain ⟨R, hR, dR, HR⟩ := hx
          obtain ⟨Q0, Q1⟩ := digit_bd hD HQ.out
          obtain ⟨v0, v1, a0', a1', b0', b1', d0, d1⟩ := id dR
          obtain ⟨st1, st2, st3, st4, st5, st6⟩ := dR.start
          have E1 : IntKind.u64.wrap (R.tdiv Y1) = R / Y1 := by rw [Int.tdiv_eq_ediv_of_nonneg d0]; exact IntWalk.u64_in _ (by omega)
          have E2 : IntKind.u64.wrap (R / Y1 * Y1) = R / Y1 * Y1 := IntWalk.u64_in _ (by omega)
          have E3 : IntKind.u64.wrap (R - R / Y1 * Y1) = R - R / Y1 * Y1 := IntWalk.u64_in _ (by omega)
          clear a0' a1' b0' b1'
          go_wp2
          go_loop [18, 16] (fun q r => EstB R (L % 4294967296) Y1 Y0 r q) (fun _ r => (4294967296 - intOf r).toNat)
          case atStart => exact ⟨_, _, rfl, rfl, st1, st5, st2, st3, st4⟩
          case round =>
            obtain ⟨k, t, rfl, rfl, he', k0, k1, t0, t1⟩ := hrel
            clear E1 E2 E3 st1 st2 st3 st4 st5 st6
            by_cases f1 : 4294967296 ≤ k
            · obtain ⟨z1, z2⟩ := dR.down he' (Or.inl f1)
              have HE := Lib.hid z1
              clear z1
              by_cases f2 : 4294967296 ≤ t + Y1
              · obtain ⟨K, rfl⟩ : ∃ K, k = K + 1 := ⟨k - 1, by omega⟩
                have HE' : Est R (L % 4294967296) Y1 Y0 K (t + Y1) := by have := HE.out; rw [Int.add_sub_cancel] at this; exact this
                have HK := Lib.hid (dR.rightBig HE' (by omega) f2)
                clear HE HE'
                have HT := Lib.hid (two_done hYY.out HQ.out HR.out HK.out (by omega))
                obtain ⟨K0, K1⟩ := digit_bd dR HK.out
                go_wp2
                go_ret2
                exact ⟨_, (by rw [← HT.out]; rfl), 0, rfl⟩
              · go_wp2
                go_round
                case rel => exact ⟨k - 1, t + Y1, rfl, rfl, HE.out, by omega, by omega, by omega, by omega⟩
                case measure => simp [intOf]; omega
            · obtain ⟨p1, p2⟩ := prod_bd (q := k) (y := Y0) k0 (by omega) b0 b1
              by_cases f2 : 4294967296 * t + L % 4294967296 < k * Y0
              · obtain ⟨z1, z2⟩ := dR.down he' (Or.inr f2)
                have HE := Lib.hid z1
                clear z1
                by_cases f3 : 4294967296 ≤ t + Y1
                · obtain ⟨K, rfl⟩ : ∃ K, k = K + 1 := ⟨k - 1, by omega⟩
                  have HE' : Est R (L % 4294967296) Y1 Y0 K (t + Y1) := by have := HE.out; rw [Int.add_sub_cancel] at this; exact this
                  have HK := Lib.hid (dR.rightBig HE' (by omega) f3)
                  clear HE HE'
                  have HT := Lib.hid (two_done hYY.out HQ.out HR.out HK.out (by omega))
                  obtain ⟨K0, K1⟩ := digit_bd dR HK.out
                  go_wp2
                  go_ret2
                  exact ⟨_, (by rw [← HT.out]; rfl), 0, rfl⟩
                · go_wp2
                  go_round
                  case rel => exact ⟨k - 1, t + Y1, rfl, rfl, HE.out, by omega, by omega, by omega, by omega⟩
                  case measure => simp [intOf]; omega
              · have HK := Lib.hid (dR.right he' (by omega))
                have HT := Lib.hid (two_done hYY.out HQ.out HR.out HK.out (by omega))
                obtain ⟨K0, K1⟩ := digit_bd dR HK.out
                go_wp2
                go_ret2
                exact ⟨_, (by rw [← HT.out]; rfl), 0, rfl⟩
        · go_wp2
          go_round
          case rel => exact ⟨q - 1, r + Y1, rfl, rfl, HE.out, by omega, by omega, by omega, by omega⟩
          case measure => simp [intOf]; omega
      · have HQ := Lib.hid (hD.right he (by omega))
        clear he
        have hx := exit_facts hD hYY.out HQ.out
        obtain ⟨R, hR, dR, HR⟩ := hx
        obtain ⟨Q0, Q1⟩ := digit_bd hD HQ.out
        obtain ⟨v0, v1, a0', a1', b0', b1', d0, d1⟩ := id dR
        obtain ⟨st1, st2, st3, st4, st5, st6⟩ := dR.start
        have E1 : IntKind.u64.wrap (R.tdiv Y1) = R / Y1 := by rw [Int.tdiv_eq_ediv_of_nonneg d0]; exact IntWalk.u64_in _ (by omega)
        have E2 : IntKind.u64.wrap (R / Y1 * Y1) = R / Y1 * Y1 := IntWalk.u64_in _ (by omega)
        have E3 : IntKind.u64.wrap (R - R / Y1 * Y1) = R - R / Y1 * Y1 := IntWalk.u64_in _ (by omega)
        clear a0' a1' b0' b1'
        go_wp2
        go_loop [18, 16] (fun q r => EstB R (L % 4294967296) Y1 Y0 r q) (fun _ r => (4294967296 - intOf r).toNat)
        case atStart => exact ⟨_, _, rfl, rfl, st1, st5, st2, st3, st4⟩
        case round =>
          obtain ⟨k, t, rfl, rfl, he', k0, k1, t0, t1⟩ := hrel
          clear E1 E2 E3 st1 st2 st3 st4 st5 st6
          by_cases f1 : 4294967296 ≤ k
          · obtain ⟨z1, z2⟩ := dR.down he' (Or.inl f1)
            have HE := Lib.hid z1
            clear z1
            by_cases f2 : 4294967296 ≤ t + Y1
            · obtain ⟨K, rfl⟩ : ∃ K, k = K + 1 := ⟨k - 1, by omega⟩
              have HE' : Est R (L % 4294967296) Y1 Y0 K (t + Y1) := by have := HE.out; rw [Int.add_sub_cancel] at this; exact this
              have HK := Lib.hid (dR.rightBig HE' (by omega) f2)
              clear HE HE'
              have HT := Lib.hid (two_done hYY.out HQ.out HR.out HK.out (by omega))
              obtain ⟨K0, K1⟩ := digit_bd dR HK.out
              go_wp2
              go_ret2
              exact ⟨_, (by rw [← HT.out]; rfl), 0, rfl⟩
            · go_wp2
              go_round
              case rel => exact ⟨k - 1, t + Y1, rfl, rfl, HE.out, by omega, by omega, by omega, by omega⟩
              case measure => simp [intOf]; omega
          · obtain ⟨p1, p2⟩ := prod_bd (q := k) (y := Y0) k0 (by omega) b0 b1
            by_cases f2 : 4294967296 * t + L % 4294967296 < k * Y0
            · obtain ⟨z1, z2⟩ := dR.down he' (Or.inr f2)
              have HE := Lib.hid z1
              clear z1
              by_cases f3 : 4294967296 ≤ t + Y1
              · obtain ⟨K, rfl⟩ : ∃ K, k = K + 1 := ⟨k - 1, by omega⟩
                have HE' : Est R (L % 4294967296) Y1 Y0 K (t + Y1) := by have := HE.out; rw [Int.add_sub_cancel] at this; exact this
                have HK := Lib.hid (dR.rightBig HE' (by omega) f3)
                clear HE HE'
                have HT := Lib.hid (two_done hYY.out HQ.out HR.out HK.out (by omega))
                obtain ⟨K0, K1⟩ := digit_bd dR HK.out
                go_wp2
                go_ret2
                exact ⟨_, (by rw [← HT.out]; rfl), 0, rfl⟩
              · go_wp2
                go_round
                case rel => exact ⟨k - 1, t + Y1, rfl, rfl, HE.out, by omega, by omega, by omega, by omega⟩
                case measure => simp [intOf]; omega
            · have HK := Lib.hid (dR.right he' (by omega))
              have HT := Lib.hid (two_done hYY.out HQ.out HR.out HK.out (by omega))
              obtain ⟨K0, K1⟩ := digit_bd dR HK.out
              go_wp2
              go_ret2
              exact ⟨_, (by rw [← HT.out]; rfl), 0, rfl⟩

theorem mask32 (n : Nat) (h : n < 18446744073709551616) : bits .and .u64 (n : Int) 4294967295 = ((n % 4294967296 : Nat) : Int) := by
  have e := bits_and_u64_nat n 4294967295 h (by decide)
  have e2 : n &&& 4294967295 = n % 4294967296 := Nat.and_two_pow_sub_one_eq_mod n 32
  rw [e2] at e
  exact e

theorem pow_split {b : Nat} (h : b ≤ 64) : 2 ^ (64 - b) * 2 ^ b = 18446744073709551616 := by
  rw [← Nat.pow_add, Nat.sub_add_cancel h]

/-- bits.Div64 where the leading word is not 0 and below the divisor. -/
theorem div64_high (hi lo y : Nat) (h1 : lo < 18446744073709551616) (h2 : 1 ≤ hi) (h3 : hi < y) (h4 : y < 18446744073709551616) (w : World) :
    Calls Try.prog 53 #[.int .u64 (hi : Int), .int .u64 (lo : Int), .int .u64 (y : Int)] w (QuoIs (((hi * 18446744073709551616 + lo) / y : Nat) : Int) w) := by
  obtain ⟨b1, b2, b3⟩ := Lib.bitLenAux_bounds 64 y (by omega) (by omega)
  have b4 : Lib.bitLenAux 64 y ≤ 64 := Lib.bitLen_le y 64 (by omega) (by omega)
  have hz := fun w => Try.bits_LeadingZeros64 (y : Int) w (by omega) (by omega)
  rw [show ((y : Int).toNat) = y from by omega] at hz
  have hb : Lib.bitLen y = Lib.bitLenAux 64 y := rfl
  rw [hb] at hz
  generalize Lib.bitLenAux 64 y = b at *
  clear hb
  have hs : (64 - (b : Int)) = ((64 - b : Nat) : Int) := by omega
  rw [hs] at hz
  clear hs
  have p := pow_split b4
  have p' : 2 ^ b = 2 ^ (b - 1) * 2 := by rw [← Nat.pow_succ]; congr 1; omega
  have hsub : 64 - (64 - b) = b := by omega
  generalize hsn : 64 - b = s at *
  have hs63 : s ≤ 63 := by omega
  generalize hS : 2 ^ s = S at *
  generalize hB : 2 ^ b = B at *
  generalize 2 ^ (b - 1) = C at *
  have hSpos : 0 < S := by rw [← hS]; exact Nat.pos_of_ne_zero (by simp)
  have hBpos : 0 < B := by rw [← hB]; exact Nat.pos_of_ne_zero (by simp)
  -- the divisor
  have y1 : 9223372036854775808 ≤ y * S := by
    have : C * S ≤ y * S := Nat.mul_le_mul_right S b2
    have : S * B = C * S * 2 := by rw [p', Nat.mul_comm S, Nat.mul_right_comm]
    omega
  have y2 : y * S < 18446744073709551616 := by
    have : y * S < B * S := Nat.mul_lt_mul_of_pos_right b3 hSpos
    rw [Nat.mul_comm B] at this
    omega
  -- the leading word
  have l1 : lo / B < S := by
    apply (Nat.div_lt_iff_lt_mul hBpos).2; omega
  have u1 : hi * S < 18446744073709551616 := by
    have : hi * S ≤ y * S := Nat.mul_le_mul_right S (by omega)
    omega
  have u2 : (hi * S) ||| (lo / B) = hi * S + lo / B := by
    have l1' := l1
    rw [← hS] at l1'
    have e := Nat.two_pow_add_eq_or_of_lt l1' hi
    rw [hS, Nat.mul_comm S hi] at e
    exact e.symm
  have l2 : lo * S = lo / B * 18446744073709551616 + lo * S % 18446744073709551616 := by
    have : lo * S / 18446744073709551616 = lo / B := by
      rw [← p, Nat.mul_comm S B]; exact Nat.mul_div_mul_right _ _ hSpos
    omega
  have e1 : (hi * 18446744073709551616 + lo) * S = (hi * S + lo / B) * 18446744073709551616 + lo * S % 18446744073709551616 := by
    rw [Nat.add_mul, Nat.add_mul, Nat.mul_right_comm]; omega
  have e2 : (hi * 18446744073709551616 + lo) * S < y * S * 18446744073709551616 := by
    rw [Nat.mul_right_comm y]
    exact Nat.mul_lt_mul_of_pos_right (by omega) hSpos
  have e3 : (hi * 18446744073709551616 + lo) / y = ((hi * S + lo / B) * 18446744073709551616 + lo * S % 18446744073709551616) / (y * S) := by
    rw [← e1, Nat.mul_div_mul_right _ _ hSpos]
  rw [e3]
  have hl : lo * S % 18446744073709551616 < 18446744073709551616 := Nat.mod_lt _ (by decide)
  generalize lo * S % 18446744073709551616 = L at *
  have f1 : ((2 : Int) ^ s) = (S : Int) := by rw [← hS]; exact (Int.natCast_pow 2 s).symm
  have f2 : ((2 : Int) ^ (64 - s)) = (B : Int) := by rw [← hB, hsub]; exact (Int.natCast_pow 2 b).symm
  generalize hUU : hi * S + lo / B = U at *
  generalize hYY : y * S = Y at *
  have := div64_core (hi : Int) (lo : Int) (y : Int) (Y : Int) ((Y / 4294967296 : Nat) : Int) ((Y % 4294967296 : Nat) : Int) (U : Int) (L : Int) s hs63 (by omega) (by omega) w hz
    (by rw [f1, IntKind.wrap_u64, ← Int.natCast_mul, hYY]; omega) (by omega) (mask32 Y y2)
    (by
      have g1 : IntKind.u64.wrap ((hi : Int) * 2 ^ s) = ((hi * S : Nat) : Int) := by rw [f1, IntKind.wrap_u64, ← Int.natCast_mul]; omega
      have g2 : (lo : Int) / 2 ^ (64 - s) = ((lo / B : Nat) : Int) := by rw [f2]; rfl
      have g3 : lo / B < 18446744073709551616 := by omega
      rw [g1, g2, bits_or_u64_nat _ _ u1 g3, u2])
    (by rw [f1, IntKind.wrap_u64, ← Int.natCast_mul]; omega) (mask32 L hl) ⟨by omega, by omega, by omega, by omega, by omega, by omega, by omega, by omega⟩ (Lib.hid (by omega)) (by omega)
  have g : (((U * 18446744073709551616 + L) / Y : Nat) : Int) = ((U : Int) * 18446744073709551616 + (L : Int)) / (Y : Int) := by
    rw [Int.natCast_ediv]; rfl
  rw [g]
  exact this

end Num
end Go.Proofs.Ytghcbicapcpmlaa
