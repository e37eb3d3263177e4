/-
  Layer 6, texts merged: the program's builders, Same, and the reader's small parts. For every argument within the bounds that each theorem names.
-/
import Derived.Test.YtegfcmnbljdcpaaGreatDoorMI
import Derived.Test.YtegfcmnbljdcpaaGreatDoorMC
import Derived.Test.YtegfcmnbljdcpaaGreatDoorME
import Derived.Test.YtegfcmnbljdcpaaGreatDoorMG
import Derived.Shelf.Strings.SlTrimAscii

/-
  Layer 6: the builders, as the program has them: checked, Null, Bool, Int, Str, checkEach, List.
-/
namespace Go.Proofs.YtegfcmnbljdcpaaGreatDoor
open Go.RowKit Go.ChangeShapes Go.WideShapes
namespace Val

/-- Strings of at most a million bytes. -/
def Shrt (l : List Cel) : Prop := ∀ x ∈ l, x.s.length ≤ 1000000
theorem vchecked_any (l : List Cel) (o : Option Addr) (n c : Nat) (hn : n ≤ 1000000) (hc : n ≤ c) (hss : Shrt l) (w : World) (hA : CArg w o n l) :
    Calls Tryz.prog 40 #[.slice o n c] w fun e w' => CRes w' e (chkd l) (chk l) ∧ Bel w w' := by
  have HC := Lib.hid (vcheck_any l o n c hn hss w hA)
  have HA := Lib.hid hA
  obtain ⟨z, hz⟩ : ∃ z, chkd l = z := ⟨_, rfl⟩
  rw [hz]
  have hz2 : Hid ((if chk l = 0 then l else []) = z) := Lib.hid hz
  clear hz hA
  generalize chk l = x at HC hz2 ⊢
  by_cases hx : x = 0
  · rw [if_pos hx] at hz2
    obtain rfl := hz2.out
    subst hx
    clear hz2
    go_enter Tryz.func40, Tryz.ntmps40
    go_wp2_with fail
    refine HC.out.mono ?_
    rintro e w1 ⟨rfl, g1⟩
    go_wp2_with fail
    go_ret2
    exact ⟨⟨o, n, c, rfl, HA.out.on g1, hc⟩, g1⟩
  · rw [if_neg hx] at hz2
    obtain rfl := hz2.out
    have hxb : (x != 0) = true := by simpa using hx
    clear hz2
    go_enter Tryz.func40, Tryz.ntmps40
    go_wp2_with fail
    refine HC.out.mono ?_
    rintro e w1 ⟨rfl, g1⟩
    go_wp2_with fail
    go_ret2
    exact ⟨CRes.nil _ _, g1⟩
theorem vnull_any (w : World) : Calls Tryz.prog 22 #[] w fun e w' => (∃ o c, e = .returned (.slice o 1 c) ∧ CArg w' o 1 (flat .null) ∧ 1 ≤ c) ∧ Bel w w' := by
  go_enter Tryz.func22, Tryz.ntmps22
  go_wp2
  go_ret
  exact ⟨⟨_, _, rfl, lit_cArg0 w 1 0 0 _ (fits_small _ _ _ _ (by omega) (by omega) (by omega) (by decide)), Nat.le_refl _⟩, Bel.alloc (Bel.refl _) _⟩
theorem vint_any (n : Int) (hn : -9223372036854775808 ≤ n ∧ n ≤ 9223372036854775807) (w : World) :
    Calls Tryz.prog 20 #[.int .i64 n] w fun e w' => CRes w' e (chkd [⟨3, n, [], 0⟩]) (chk [⟨3, n, [], 0⟩]) ∧ Bel w w' := by
  have HN := Lib.hid hn
  clear hn
  go_enter Tryz.func20, Tryz.ntmps20
  go_wp2_with fail
  have b0 := Bel.alloc (Bel.refl w) (.cells #[.int .i64 3, .int .i64 n, .string ⟨#[]⟩, .int .i64 0] 43)
  refine (vchecked_any _ _ _ _ (by decide) (Nat.le_refl _) (fun x hx => by rw [List.mem_singleton.1 hx]; show ([] : Txt).length ≤ _; decide) _ (lit_cArg0 w 3 n 0 _ (fits_small _ _ _ _ (by omega) HN.out (by omega) (by decide)))).mono ?_
  rintro e w1 ⟨⟨o, k, c, rfl, hA, hc⟩, g1⟩
  have G := Bel.trans b0 g1
  clear g1 b0
  go_wp2_with fail
  go_ret2
  exact ⟨⟨o, k, c, rfl, hA, hc⟩, G⟩
theorem vstr_any (s : ByteArray) (hs : s.size ≤ 1000000) (w : World) :
    Calls Tryz.prog 23 #[.string s] w fun e w' => CRes w' e (chkd [⟨4, 0, s.toList, 0⟩]) (chk [⟨4, 0, s.toList, 0⟩]) ∧ Bel w w' := by
  have HS := Lib.hid (show s.toList.length ≤ 1000000 by rw [toL_len]; exact hs)
  clear hs
  go_enter Tryz.func23, Tryz.ntmps23
  go_wp2_with fail
  have b0 := Bel.alloc (Bel.refl w) (.cells #[.int .i64 4, .int .i64 0, .string s, .int .i64 0] 43)
  refine (vchecked_any _ _ _ _ (by decide) (Nat.le_refl _) (fun x hx => by rw [List.mem_singleton.1 hx]; exact HS.out) _ (lit_cArg w 4 0 0 s _ (fits_small _ _ _ _ (by omega) (by omega) (by omega) (by have := HS.out; omega)))).mono ?_
  rintro e w1 ⟨⟨o, k, c, rfl, hA, hc⟩, g1⟩
  have G := Bel.trans b0 g1
  clear g1 b0
  go_wp2_with fail
  go_ret2
  exact ⟨⟨o, k, c, rfl, hA, hc⟩, G⟩
set_option maxHeartbeats 2000000 in
theorem checkEach_any (ls : List (List Cel)) (o : Option Addr) (n c : Nat) (hn : n ≤ 1000) (hs : ∀ l ∈ ls, l.length ≤ 100000 ∧ Shrt l) (w : World) (hA : LArg w o n ls) :
    Calls Tryz.prog 41 #[.slice o n c] w fun e w' => e = .returned (.int .i64 (firstE ls)) ∧ Bel w w' := by
  have HA := Lib.hid hA
  have hlen := hA.1
  have HS := Lib.hid hs
  obtain ⟨zE, hzE⟩ : ∃ z, firstE ls = z := ⟨_, rfl⟩
  rw [hzE]
  have HZ := Lib.hid hzE
  clear hA hs hzE
  go_enter Tryz.func41, Tryz.ntmps41
  go_wp2
  go_loopw [8] (fun i wr => ∃ (k : Nat), i = .int .i64 (k : Int) ∧ k ≤ n ∧ Hid (firstE (ls.drop k) = zE) ∧ Hid (Bel w wr)) (fun i _ => n - (intOf i).toNat)
  case atStart => exact ⟨0, rfl, Nat.zero_le _, HZ, Lib.hid (Bel.refl _)⟩
  case round =>
    obtain ⟨k, rfl, hk, hfe, hb⟩ := hrel
    rename World => W0
    clear HZ
    by_cases hlt : k < n
    · have hkl : k < ls.length := by omega
      obtain ⟨b, p, q, d, rfl, hc, hCA, hqd⟩ := (HA.out.on hb.out).2 k hkl
      have hst := Lib.hid (firstE_step hkl)
      have hsx := HS.out _ (List.getElem_mem hkl)
      have hcl := hCA.1
      obtain ⟨x, hx⟩ : ∃ x, ls[k] = x := ⟨_, rfl⟩
      rw [hx] at hCA hst hcl hsx
      have HC := Lib.hid (vcheck_any x p q d (by omega) hsx.2 W0 hCA)
      clear hx hCA hsx hcl
      obtain ⟨E, hE⟩ : ∃ E, chk x = E := ⟨_, rfl⟩
      rw [hE] at HC hst
      by_cases h0 : E = 0
      · subst h0
        go_wp2_with fail
        refine HC.out.mono ?_
        rintro e w1 ⟨rfl, g1⟩
        have B1 := Lib.hid (Bel.trans hb.out g1)
        have hfe2 : Hid (firstE (ls.drop (k + 1)) = zE) := Lib.hid (by rw [← hfe.out, hst.out]; simp)
        clear g1 HC hfe hst
        go_wp2
        go_round
        case rel => exact ⟨k + 1, by go_num, by omega, hfe2, B1⟩
        case measure => simp [intOf]; omega
      · have hz : Hid (E = zE) := Lib.hid (by rw [← hfe.out, hst.out, if_neg h0])
        have h0b : (E != 0) = true := by simpa using h0
        clear hst hfe
        go_wp2_with fail
        refine HC.out.mono ?_
        rintro e w1 ⟨rfl, g1⟩
        have B1 := Lib.hid (Bel.trans hb.out g1)
        clear g1
        go_wp2_with fail
        go_ret
        exact ⟨by rw [← hz.out]; rfl, B1.out⟩
    · obtain rfl : k = n := by omega
      have hz : Hid (zE = 0) := Lib.hid (by rw [← hfe.out, List.drop_of_length_le (by omega)]; rfl)
      clear hfe
      go_wp2
      go_ret
      exact ⟨by rw [hz.out]; rfl, hb.out⟩
/-- All values are valid: each has a cell. -/
theorem firstE_all : ∀ {ls : List (List Cel)}, firstE ls = 0 → ∀ l ∈ ls, chk l = 0
  | [], _, l, h => by cases h
  | x :: r, hz, l, h => by
    rw [firstE] at hz
    by_cases h0 : chk x = 0
    · rw [if_pos h0] at hz
      rcases List.mem_cons.1 h with rfl | h
      · exact h0
      · exact firstE_all hz l h
    · rw [if_neg h0] at hz
      exact absurd hz h0
set_option maxHeartbeats 2000000 in
theorem vlist_any (ls : List (List Cel)) (o : Option Addr) (n c : Nat) (hn : n ≤ 1000) (hs : ls.flatten.length ≤ 100000) (hss : ∀ l ∈ ls, Shrt l) (w : World) (hA : LArg w o n ls) :
    Calls Tryz.prog 21 #[.slice o n c] w fun e w' => CRes w' e (listB ls) (listE ls) ∧ Bel w w' := by
  have HA := Lib.hid hA
  have hlen := hA.1
  have hfit : Hid (∀ l ∈ ls, (∀ c ∈ l, Fits c) ∧ l.length ≤ 100000) := Lib.hid (fun l h => by
    obtain ⟨i, hi, rfl⟩ := List.getElem_of_mem h
    obtain ⟨a, p, m, c, _, _, g, _⟩ := hA.2 i hi
    refine ⟨g.2.1, ?_⟩
    have h1 := flat_step hi
    have h2 := flat_le (ls := ls) (i + 1)
    rw [h1, List.length_append] at h2
    omega)
  have HSS := Lib.hid hss
  have HE := Lib.hid (checkEach_any ls o n c hn (fun l h => ⟨(hfit.out l h).2, hss l h⟩) w hA)
  have hzB : Hid ((if firstE ls = 0 then chkd (listC ls) else []) = listB ls) := Lib.hid rfl
  have hzE : Hid ((if firstE ls = 0 then chk (listC ls) else firstE ls) = listE ls) := Lib.hid rfl
  generalize listB ls = zB at *
  generalize listE ls = zE at *
  clear hA hss
  by_cases hz : firstE ls = 0
  · rw [hz] at HE
    have HALL := Lib.hid (firstE_all hz)
    rw [if_pos hz] at hzB hzE
    clear hz
    go_enter Tryz.func21, Tryz.ntmps21
    go_wp2_with fail
    refine HE.out.mono ?_
    rintro e w1 ⟨rfl, g0⟩
    have G0 := Lib.hid (Bel.alloc g0 (.cells #[.int .i64 5, .int .i64 0, .string ⟨#[]⟩, .int .i64 (n : Int)] 43))
    have own1 := Lib.hid (World.ownsRow_lit (base := w.heap.size) (e := 43) (size := 4) w1 #[.int .i64 5, .int .i64 0, .string ⟨#[]⟩, .int .i64 (n : Int)] 1 g0.size (by decide) rfl)
    clear g0 HE
    go_wp2
    go_loopw [5, 19] (fun v i wr => ∃ (k m c' : Nat) (a : Option Addr), v = .slice a m c' ∧ i = .int .i64 (k : Int) ∧ k ≤ n ∧ m ≤ 100001 ∧ Hid (m = 1 + (ls.take k).flatten.length) ∧ Hid (wr.ownsRow w.heap.size 43 4 (.slice a m c') m (encCs (⟨5, 0, [], n⟩ :: (ls.take k).flatten))) ∧ Hid (Bel w wr)) (fun _ i _ => n - (intOf i).toNat)
    case atStart => exact ⟨0, 1, 1, _, rfl, rfl, Nat.zero_le _, by omega, Lib.hid rfl, own1, G0⟩
    case round =>
      obtain ⟨k, m, c', a, rfl, rfl, hk, hm0, hm, hown, hb⟩ := hrel
      rename World => W0
      clear own1 G0
      by_cases hlt : k < n
      · have hkl : k < ls.length := by omega
        obtain ⟨b, p, q, d, rfl, hc, hCA, hqd⟩ := (HA.out.on hb.out).2 k hkl
        have hfl := Lib.hid (flat_step hkl)
        have hle := flat_le (ls := ls) (k + 1)
        rw [hfl.out, List.length_append] at hle
        have hmo := hm.out
        have hcl := hCA.1
        have hp0 := chk_pos (HALL.out _ (List.getElem_mem hkl))
        obtain ⟨x, hx⟩ : ∃ x, ls[k] = x := ⟨_, rfl⟩
        rw [hx] at hCA hfl hle hcl hp0
        have hq2 : q ≤ 100000 ∧ m + q ≤ 100001 := by omega
        have hq0 : 0 < q := by omega
        have HCA := Lib.hid hCA
        have q1 : Hid (m + q ≤ 1099511627776) := Lib.hid (by omega)
        clear hx hle hCA hmo hp0
        go_wp2_with (at_builtin; refine list_appC _ _ rfl rfl rfl rfl rfl hb.out hown.out HCA.out hq0 q1.out ?_; intro o3 c3 w3 g3 k3; refine Hid.out ?_)
        refine Lib.hid ?_
        rw [List.cons_append, ← hfl.out] at k3
        have hm2 : Hid (m + q = 1 + (ls.take (k + 1)).flatten.length) := Lib.hid (by
          have h1 := hm.out
          have h2 := congrArg List.length hfl.out
          rw [List.length_append] at h2
          omega)
        clear hm hfl q1 hcl hc hown
        go_wp2
        go_round
        case rel => exact ⟨k + 1, m + q, c3, o3, rfl, by go_num, by omega, by omega, hm2, k3, g3⟩
        case measure => simp [intOf]; omega
      · obtain rfl : k = n := by omega
        have htk : ls.take k = ls := List.take_of_length_le (by omega)
        have hO := hown.out
        have hm2 := hm.out
        rw [htk] at hO hm2
        rw [show (⟨5, 0, [], (k : Int)⟩ : Cel) :: ls.flatten = listC ls by unfold listC; rw [hlen]] at hO
        obtain ⟨_, _, h1, hmc⟩ := own4_shape hO
        cases h1
        have HO := Lib.hid (own_cArg hO (fun c h => by
          rw [listC] at h
          rcases List.mem_cons.1 h with rfl | h
          · exact fits_small _ _ _ _ (by omega) (by omega) (by omega) (by decide)
          · obtain ⟨x, hx, hc⟩ := List.mem_flatten.1 h
            exact (hfit.out x hx).1 c hc))
        have hsh : Shrt (listC ls) := fun c h => by
          rw [listC] at h
          rcases List.mem_cons.1 h with rfl | h
          · show ([] : Txt).length ≤ _; decide
          · obtain ⟨x, hx, hc⟩ := List.mem_flatten.1 h
            exact HSS.out x hx c hc
        have HC := Lib.hid (vchecked_any (listC ls) a m c' (by omega) hmc hsh W0 HO.out)
        rw [hzB.out, hzE.out] at HC
        clear hown hm htk hO hm2 HO hzB hzE hsh
        go_wp2_with fail
        refine HC.out.mono ?_
        rintro e w1 ⟨⟨o4, k4, c4, rfl, h4, h5⟩, g1⟩
        go_wp2_with fail
        go_ret2
        exact ⟨⟨o4, k4, c4, rfl, h4, h5⟩, Bel.trans hb.out g1⟩
  · rw [if_neg hz] at hzB hzE
    rw [hzE.out] at HE hz
    have hzz : (zE != 0) = true := by simpa using hz
    have hB := hzB.out
    subst hB
    clear hzE hzB
    go_enter Tryz.func21, Tryz.ntmps21
    go_wp2_with fail
    refine HE.out.mono ?_
    rintro e w1 ⟨rfl, g0⟩
    go_wp2_with fail
    go_ret2
    exact ⟨CRes.nil _ _, g0⟩
end Val
end Go.Proofs.YtegfcmnbljdcpaaGreatDoor

/-
  Layer 6: Map, Same, as the program has them.
-/
namespace Go.Proofs.YtegfcmnbljdcpaaGreatDoor
open Go.RowKit Go.ChangeShapes Go.WideShapes
namespace Val

set_option maxRecDepth 100000 in
set_option maxHeartbeats 4000000 in
theorem equal_any (a b : List Cel) (o o2 : Option Addr) (n c n2 c2 : Nat) (hn : n ≤ 1000000) (hn2 : n2 ≤ 1000000) (w : World) (hA : CArg w o n a) (hB : CArg w o2 n2 b) :
    Calls Tryz.prog 46 #[.slice o n c, .slice o2 n2 c2] w fun e w' => e = .returned (.bool (sameB a b)) ∧ Bel w w' := by
  have HA := Lib.hid hA
  have HB := Lib.hid hB
  have h1 := hA.1
  have h2 := hB.1
  obtain ⟨R, hR⟩ : ∃ R, sameB a b = R := ⟨_, rfl⟩
  rw [hR]
  have HR := Lib.hid hR
  clear hA hB hR
  by_cases hne : n = n2
  · subst n2
    go_enter Tryz.func46, Tryz.ntmps46
    go_wp2
    go_loopw [13] (fun i wr => ∃ k : Nat, i = .int .i64 (k : Int) ∧ k ≤ n ∧ Hid (sameB (a.drop k) (b.drop k) = R) ∧ Hid (Bel w wr)) (fun i _ => n - (intOf i).toNat)
    case atStart => exact ⟨0, rfl, Nat.zero_le _, HR, Lib.hid (Bel.refl _)⟩
    case round =>
      obtain ⟨k, rfl, hk, hr, hb⟩ := hrel
      rename World => W0
      by_cases hlt : k < n
      · have hk1 : k < a.length := by omega
        have hk2 : k < b.length := by omega
        obtain ⟨b1, f1, rfl, hc1⟩ := (HA.out.on hb.out).2.2 (by omega)
        obtain ⟨b2, f2, rfl, hc2⟩ := (HB.out.on hb.out).2.2 (by omega)
        obtain ⟨c1, c2, c3, c4⟩ := hc1 k hk1
        obtain ⟨d1, d2, d3, d4⟩ := hc2 k hk2
        have hst := hr.out
        rw [same_drop hk1 hk2] at hst
        generalize a[k] = x at *
        generalize b[k] = y at *
        clear hr hc1 hc2
        obtain ⟨xk, xi, xs, xn⟩ := x
        obtain ⟨yk, yi, ys, yn⟩ := y
        simp only at c1 c2 c3 c4 d1 d2 d3 d4
        have G := hb.out
        have Hst := Lib.hid hst
        clear hst hb
        obtain ⟨X, hX⟩ : ∃ X : ByteArray, ⟨xs.toArray⟩ = X := ⟨_, rfl⟩
        obtain ⟨Y, hY⟩ : ∃ Y : ByteArray, ⟨ys.toArray⟩ = Y := ⟨_, rfl⟩
        have hXs := Lib.hid (show X.toList = xs by rw [← hX, tl xs])
        have hYs := Lib.hid (show Y.toList = ys by rw [← hY, tl ys])
        rw [hX] at c3
        rw [hY] at d3
        clear hX hY
        have heq := eq_cell xk yk xi yi X Y xn yn
        by_cases hxy : (⟨xk, xi, xs, xn⟩ : Cel) = ⟨yk, yi, ys, yn⟩
        · have hv : (xk == yk && (xi == yi && (X.toList == Y.toList && xn == yn))) = true := by
            rw [hXs.out, hYs.out]
            cases hxy
            simp
          rw [hv] at heq
          have hr2 : Hid (sameB (a.drop (k + 1)) (b.drop (k + 1)) = R) := Lib.hid (by rw [← Hst.out, decide_eq_true hxy, Bool.true_and])
          clear hv hxy Hst hXs hYs
          go_upto_region 6 with (fail)
          go_region_held3 (fun w' => (w'.cell? ⟨b1, f1 + k * 4, none⟩ = some (.int .i64 xk) ∧ w'.cell? ⟨b1, f1 + k * 4 + 1, none⟩ = some (.int .i64 xi) ∧ w'.cell? ⟨b1, f1 + k * 4 + 2, none⟩ = some (.string X) ∧ w'.cell? ⟨b1, f1 + k * 4 + 3, none⟩ = some (.int .i64 xn)) ∧ (w'.cell? ⟨b2, f2 + k * 4, none⟩ = some (.int .i64 yk) ∧ w'.cell? ⟨b2, f2 + k * 4 + 1, none⟩ = some (.int .i64 yi) ∧ w'.cell? ⟨b2, f2 + k * 4 + 2, none⟩ = some (.string Y) ∧ w'.cell? ⟨b2, f2 + k * 4 + 3, none⟩ = some (.int .i64 yn)) ∧ Bel w w') (exact ⟨⟨c1, c2, c3, c4⟩, ⟨d1, d2, d3, d4⟩, Below.drew G⟩) (fail)
          obtain ⟨_, _, G2⟩ := ‹(_ ∧ _) ∧ (_ ∧ _) ∧ Bel w _›
          have G3 := Lib.hid G2
          go_wp2_with fail
          go_round
          case rel => exact ⟨k + 1, by go_num, by omega, hr2, G3⟩
          case measure => simp [intOf]; omega
        · have hv : (xk == yk && (xi == yi && (X.toList == Y.toList && xn == yn))) = false := by
            rw [hXs.out, hYs.out]
            rw [Bool.eq_false_iff]
            intro h
            apply hxy
            simp at h
            rw [h.1, h.2.1, h.2.2.1, h.2.2.2]
          rw [hv] at heq
          have hr2 : Hid (false = R) := Lib.hid (by rw [← Hst.out, decide_eq_false hxy, Bool.false_and])
          clear hv hxy Hst hXs hYs
          go_upto_region 6 with (fail)
          go_region_held3 (fun w' => (w'.cell? ⟨b1, f1 + k * 4, none⟩ = some (.int .i64 xk) ∧ w'.cell? ⟨b1, f1 + k * 4 + 1, none⟩ = some (.int .i64 xi) ∧ w'.cell? ⟨b1, f1 + k * 4 + 2, none⟩ = some (.string X) ∧ w'.cell? ⟨b1, f1 + k * 4 + 3, none⟩ = some (.int .i64 xn)) ∧ (w'.cell? ⟨b2, f2 + k * 4, none⟩ = some (.int .i64 yk) ∧ w'.cell? ⟨b2, f2 + k * 4 + 1, none⟩ = some (.int .i64 yi) ∧ w'.cell? ⟨b2, f2 + k * 4 + 2, none⟩ = some (.string Y) ∧ w'.cell? ⟨b2, f2 + k * 4 + 3, none⟩ = some (.int .i64 yn)) ∧ Bel w w') (exact ⟨⟨c1, c2, c3, c4⟩, ⟨d1, d2, d3, d4⟩, Below.drew G⟩) (fail)
          obtain ⟨_, _, G2⟩ := ‹(_ ∧ _) ∧ (_ ∧ _) ∧ Bel w _›
          have G3 := Lib.hid G2
          go_wp2_with fail
          go_ret
          exact ⟨by rw [← hr2.out]; rfl, G3.out⟩
      · obtain rfl : k = n := by omega
        have hr2 : Hid (true = R) := Lib.hid (by
          rw [← hr.out, List.drop_of_length_le (by omega), List.drop_of_length_le (by omega)]
          exact (decide_eq_true rfl).symm)
        clear hr
        go_wp2
        go_ret
        exact ⟨by rw [← hr2.out]; rfl, hb.out⟩
  · have hr2 : Hid (false = R) := Lib.hid (by
      rw [← HR.out]
      exact (decide_eq_false (fun e => hne (by rw [← h1, ← h2, e]))).symm)
    have hne2 : ¬ (n : Int) = (n2 : Int) := by omega
    clear hne
    go_enter Tryz.func46, Tryz.ntmps46
    go_wp2
    go_ret
    exact ⟨by rw [← hr2.out]; rfl, Bel.refl _⟩
theorem vsame_any (a b : List Cel) (o o2 : Option Addr) (n c n2 c2 : Nat) (hn : n ≤ 1000000) (hn2 : n2 ≤ 1000000) (w : World) (hA : CArg w o n a) (hB : CArg w o2 n2 b) :
    Calls Tryz.prog 27 #[.slice o n c, .slice o2 n2 c2] w fun e w' => e = .returned (.bool (sameB a b)) ∧ Bel w w' := by
  have HE := Lib.hid (equal_any a b o o2 n c n2 c2 hn hn2 w hA hB)
  clear hA hB
  go_enter Tryz.func27, Tryz.ntmps27
  go_wp2_with fail
  refine HE.out.mono ?_
  rintro e w1 ⟨rfl, g⟩
  go_wp2_with fail
  go_ret
  exact ⟨rfl, g⟩
set_option maxRecDepth 100000 in
set_option maxHeartbeats 4000000 in
theorem vmap_any (ks : List ByteArray) (ls : List (List Cel)) (o1 o2 : Option Addr) (n1 c1 n c : Nat) (hn1 : n1 ≤ 1000000) (hn : n ≤ 1000) (hks : ∀ x ∈ ks, x.size ≤ 1000000) (hs : (prsC ks ls).length ≤ 100000) (hll : ∀ l ∈ ls, l.length ≤ 100000 ∧ Shrt l) (hne : n1 = n) (w : World) (hK : SlArg w o1 n1 ks) (hA : LArg w o2 n ls) :
    Calls Tryz.prog 24 #[.slice o1 n1 c1, .slice o2 n c] w fun e w' => CRes w' e (mapB ks ls) (mapE ks ls) ∧ Bel w w' := by
  subst n1
  have HA := Lib.hid hA
  have HK := Lib.hid hK
  have hlen := hA.1
  have hlen1 := hK.1
  have hfit : Hid (∀ l ∈ ls, ∀ c ∈ l, Fits c) := Lib.hid (fun l h => by
    obtain ⟨i, hi, rfl⟩ := List.getElem_of_mem h
    obtain ⟨a, p, m, c, _, _, g, _⟩ := hA.2 i hi
    exact g.2.1)
  have HS := Lib.hid hs
  have HKS := Lib.hid hks
  have HLL := Lib.hid hll
  have HE := Lib.hid (checkEach_any ls o2 n c hn hll w hA)
  have hzB : Hid ((if firstE ls = 0 then chkd (mapC ks ls) else []) = mapB ks ls) := Lib.hid (by unfold mapB; rw [if_pos (hlen1.trans hlen.symm)])
  have hzE : Hid ((if firstE ls = 0 then chk (mapC ks ls) else firstE ls) = mapE ks ls) := Lib.hid (by unfold mapE; rw [if_pos (hlen1.trans hlen.symm)])
  generalize mapB ks ls = zB at *
  generalize mapE ks ls = zE at *
  clear hA hK hs hks hll
  by_cases hz : firstE ls = 0
  · rw [hz] at HE
    have HALL := Lib.hid (firstE_all hz)
    rw [if_pos hz] at hzB hzE
    clear hz
    go_enter Tryz.func24, Tryz.ntmps24
    go_wp2_with fail
    refine HE.out.mono ?_
    rintro e w1 ⟨rfl, g0⟩
    have G0 := Lib.hid (Bel.alloc g0 (.cells #[.int .i64 6, .int .i64 0, .string ⟨#[]⟩, .int .i64 (n : Int)] 43))
    have own1 := Lib.hid (World.ownsRow_lit (base := w.heap.size) (e := 43) (size := 4) w1 #[.int .i64 6, .int .i64 0, .string ⟨#[]⟩, .int .i64 (n : Int)] 1 g0.size (by decide) rfl)
    clear g0 HE
    go_wp2
    go_loopw [7, 26] (fun v i wr => ∃ (k m c' : Nat) (a : Option Addr), v = .slice a m c' ∧ i = .int .i64 (k : Int) ∧ k ≤ n ∧ m ≤ 100001 ∧ Hid (m = 1 + (prsT ks ls k).length) ∧ Hid (wr.ownsRow w.heap.size 43 4 (.slice a m c') m (encCs (⟨6, 0, [], n⟩ :: prsT ks ls k))) ∧ Hid (Bel w wr)) (fun _ i _ => n - (intOf i).toNat)
    case atStart => exact ⟨0, 1, 1, _, rfl, rfl, Nat.zero_le _, by omega, Lib.hid rfl, own1, G0⟩
    case round =>
      obtain ⟨k, m, c', a, rfl, rfl, hk, hm0, hm, hown, hb⟩ := hrel
      rename World => W0
      clear own1 G0
      by_cases hlt : k < n
      · have hkl : k < ls.length := by omega
        have hkk : k < ks.length := by omega
        obtain ⟨b, p, q, d, rfl, hcw, hCAw, hqd⟩ := HA.out.2 k hkl
        obtain ⟨b1, rfl, hck⟩ := (HK.out.on hb.out).2 k hkk
        have hfl := Lib.hid (prsT_step hkk hkl)
        have hle := prsT_le ks ls (k + 1)
        have hsz := Lib.hid (HKS.out _ (List.getElem_mem hkk))
        rw [hfl.out, List.length_append, List.length_append, List.length_singleton] at hle
        have hmo := hm.out
        have hso := HS.out
        have hcl := hCAw.1
        have hp0 := chk_pos (HALL.out _ (List.getElem_mem hkl))
        have HCW := Lib.hid hcw
        obtain ⟨x, hx⟩ : ∃ x, ls[k] = x := ⟨_, rfl⟩
        obtain ⟨y, hy⟩ : ∃ y, ks[k] = y := ⟨_, rfl⟩
        rw [hx] at hCAw hfl hle hcl hp0
        rw [hy] at hck hfl hsz
        have hq2 : q ≤ 100000 ∧ m + 1 + q ≤ 100001 := by omega
        have hq0 : 0 < q := by omega
        have HCA := Lib.hid hCAw
        have B1 := Lib.hid (hb.out.alloc (.cells #[.int .i64 4, .int .i64 0, .string y, .int .i64 0] 43))
        have o1 := Lib.hid (hown.out.alloc (.cells #[.int .i64 4, .int .i64 0, .string y, .int .i64 0] 43))
        have C2 := Lib.hid (lit_cArg W0 4 0 0 y 43 (fits_small _ _ _ _ (by omega) (by omega) (by omega) (by rw [toL_len]; have := hsz.out; omega)))
        have q0 : Hid (m + 1 ≤ 1099511627776) := Lib.hid (by omega)
        have q1 : Hid (m + 1 + q ≤ 1099511627776) := Lib.hid (by omega)
        clear hx hy hle hmo hso hcw hCAw hp0 hown
        go_wp2_with (at_builtin; refine list_appC _ _ rfl rfl rfl rfl rfl B1.out o1.out C2.out (by decide) q0.out ?_; intro o3 c3 w3 g3 k3; refine Hid.out ?_)
        refine Lib.hid ?_
        have C3 := Lib.hid (HCA.out.on g3.out)
        have hc3 := g3.out.cell' HCW.out
        clear hck C2 o1 B1
        go_wp2_with (at_builtin; refine list_appC _ _ rfl rfl rfl rfl rfl g3.out k3.out C3.out hq0 q1.out ?_; intro o4 c4 w4 g4 k4; refine Hid.out ?_)
        refine Lib.hid ?_
        rw [List.cons_append, List.cons_append, ← hfl.out] at k4
        have hm2 : Hid (m + 1 + q = 1 + (prsT ks ls (k + 1)).length) := Lib.hid (by
          have h1 := hm.out
          have h2 := congrArg List.length hfl.out
          rw [List.length_append, List.length_append, List.length_singleton] at h2
          omega)
        clear k3 C3 hm hfl q1 hcl q0 hc3
        go_wp2
        go_round
        case rel => exact ⟨k + 1, m + 1 + q, c4, o4, rfl, by go_num, by omega, by omega, hm2, k4, g4⟩
        case measure => simp [intOf]; omega
      · obtain rfl : k = n := by omega
        have htk : prsT ks ls k = prsC ks ls := prsT_all (by omega)
        have hO := hown.out
        have hm2 := hm.out
        have hso := HS.out
        rw [htk] at hO hm2
        rw [show (⟨6, 0, [], (k : Int)⟩ : Cel) :: prsC ks ls = mapC ks ls by unfold mapC; rw [hlen]] at hO
        obtain ⟨_, _, h1, hmc⟩ := own4_shape hO
        cases h1
        have HO := Lib.hid (own_cArg hO (fun c h => by
          rw [mapC] at h
          rcases List.mem_cons.1 h with rfl | h
          · exact fits_small _ _ _ _ (by omega) (by omega) (by omega) (by decide)
          · obtain ⟨⟨y, x⟩, hx, hc⟩ := List.mem_flatMap.1 h
            have hx2 := List.of_mem_zip hx
            rcases List.mem_cons.1 hc with rfl | hc
            · exact fits_small _ _ _ _ (by omega) (by omega) (by omega) (by rw [toL_len]; exact Nat.le_trans (HKS.out _ hx2.1) (by decide))
            · exact hfit.out x hx2.2 c hc))
        have hsh : Shrt (mapC ks ls) := fun c h => by
          rw [mapC] at h
          rcases List.mem_cons.1 h with rfl | h
          · show ([] : Txt).length ≤ _; decide
          · obtain ⟨⟨y, x⟩, hx, hc⟩ := List.mem_flatMap.1 h
            have hx2 := List.of_mem_zip hx
            rcases List.mem_cons.1 hc with rfl | hc
            · show y.toList.length ≤ _
              rw [toL_len]
              exact HKS.out _ hx2.1
            · exact (HLL.out x hx2.2).2 c hc
        have HC := Lib.hid (vchecked_any (mapC ks ls) a m c' (by omega) hmc hsh W0 HO.out)
        rw [hzB.out, hzE.out] at HC
        clear hown hm htk hO hm2 HO hzB hzE hso hsh
        go_wp2_with fail
        refine HC.out.mono ?_
        rintro e w1 ⟨⟨o4, k4, c4, rfl, h4, h5⟩, g1⟩
        go_wp2_with fail
        go_ret2
        exact ⟨⟨o4, k4, c4, rfl, h4, h5⟩, Bel.trans hb.out g1⟩
  · rw [if_neg hz] at hzB hzE
    rw [hzE.out] at HE hz
    have hzz : (zE != 0) = true := by simpa using hz
    have hB := hzB.out
    subst hB
    clear hzE hzB
    go_enter Tryz.func24, Tryz.ntmps24
    go_wp2_with fail
    refine HE.out.mono ?_
    rintro e w1 ⟨rfl, g0⟩
    go_wp2_with fail
    go_ret2
    exact ⟨CRes.nil _ _, g0⟩
theorem vmap_off (ks : List ByteArray) (ls : List (List Cel)) (o1 o2 : Option Addr) (n1 c1 n c : Nat) (h1 : ks.length = n1) (h2 : ls.length = n) (hne : n1 ≠ n) (w : World) :
    Calls Tryz.prog 24 #[.slice o1 n1 c1, .slice o2 n c] w fun e w' => CRes w' e (mapB ks ls) (mapE ks ls) ∧ Bel w w' := by
  have hB : mapB ks ls = [] := by unfold mapB; rw [if_neg (by omega)]
  have hE : mapE ks ls = 1 := by unfold mapE; rw [if_neg (by omega)]
  rw [hB, hE]
  have hne2 : ¬ (n1 : Int) = (n : Int) := by omega
  clear hB hE h1 h2 hne
  go_enter Tryz.func24, Tryz.ntmps24
  go_wp2
  go_ret2
  exact ⟨CRes.nil _ _, Bel.refl _⟩
end Val
end Go.Proofs.YtegfcmnbljdcpaaGreatDoor

/-
  Layer 6: the reader: its state; accept, add.
-/
namespace Go.Proofs.YtegfcmnbljdcpaaGreatDoor
open Go.RowKit Go.ChangeShapes Go.WideShapes
namespace Val

/-- The reader: what is left of the text, and the cells that were read. -/
structure RS (g base : Nat) (R : Txt) (o : Option Addr) (n c : Nat) (l : List Cel) (w : World) : Prop where
  rest : w.cell? ⟨g, 0, none⟩ = some (.string ⟨R.toArray⟩)
  cells : w.cell? ⟨g, 1, none⟩ = some (.slice o n c)
  fz : ∀ j, w.frozen? ⟨g, j, none⟩ = false
  own : w.ownsRow base 43 4 (.slice o n c) n (encCs l)
  lt : g < base ∧ base ≤ w.heap.size
  fit : ∀ x ∈ l, Fits x ∧ x.s.length ≤ 4000
  len : R.length ≤ 4000
theorem RS.num {g base : Nat} {R : Txt} {o : Option Addr} {n c : Nat} {l : List Cel} {w : World} (h : RS g base R o n c l w) : l.length = n := by
  have := h.own.1
  rw [encCs_len] at this
  omega
theorem RS.blk {g base : Nat} {R : Txt} {o : Option Addr} {n c : Nat} {l : List Cel} {w : World} (h : RS g base R o n c l w) {k : Nat} (hk : Blk o k) : base ≤ k ∧ k < w.heap.size := h.own.lt k ((blk_of h.own).1 hk)
theorem RS.on {g base : Nat} {R : Txt} {o : Option Addr} {n c : Nat} {l : List Cel} {w w' : World} (h : RS g base R o n c l w) (b : Bel w w') : RS g base R o n c l w' :=
  have hb : w'.heap[g]? = w.heap[g]? := b.block g (cell_lt' h.rest)
  ⟨b.cell' h.rest, b.cell' h.cells, fun j => (World.frozen?_of_block (a := ⟨g, j, none⟩) hb).trans (h.fz j), own_belz h.own b, ⟨h.lt.1, Nat.le_trans h.lt.2 b.size⟩, h.fit, h.len⟩
/-- What becomes of the world while the reader goes on. -/
structure RTo (g : Nat) (o : Option Addr) (w : World) (o' : Option Addr) (w' : World) : Prop where
  mod : Mod (fun k => k = g ∨ Blk o k) w w'
  at_ : ∀ k, Blk o' k → Blk o k ∨ w.heap.size ≤ k
theorem RTo.refl (g : Nat) (o : Option Addr) (w : World) : RTo g o w o w := ⟨Mod.refl _ _, fun _ h => Or.inl h⟩
theorem RTo.trans {g : Nat} {o p q : Option Addr} {a b c : World} (h : RTo g o a p b) (k : RTo g p b q c) : RTo g o a q c :=
  ⟨h.mod.trans k.mod (fun x hx => by
    rcases hx with rfl | hx
    · exact Or.inl (Or.inl rfl)
    · rcases h.at_ x hx with e | e
      · exact Or.inl (Or.inr e)
      · exact Or.inr e), fun x hx => by
    rcases k.at_ x hx with e | e
    · exact h.at_ x e
    · exact Or.inr (Nat.le_trans h.mod.size e)⟩
theorem RTo.of_bel {g : Nat} {o : Option Addr} {a b : World} (h : Bel a b) : RTo g o a o b := ⟨Mod.of_bel h, fun _ e => Or.inl e⟩
/-- The rest of the text is set anew. -/
theorem RS.setRest {g base : Nat} {R : Txt} {o : Option Addr} {n c : Nat} {l : List Cel} {w : World} (h : RS g base R o n c l w) (S : Txt) (hS : S.length ≤ 4000) : RS g base S o n c l (w.setCell ⟨g, 0, none⟩ (.string ⟨S.toArray⟩)) ∧ RTo g o w o (w.setCell ⟨g, 0, none⟩ (.string ⟨S.toArray⟩)) := by
  refine ⟨⟨World.cell?_setCell_same w _ _ h.rest, ?_, fun j => by rw [World.frozen?_setCell]; exact h.fz j, ?_, ⟨h.lt.1, by simpa [World.setCell] using h.lt.2⟩, h.fit, hS⟩, ⟨(Mod.refl _ w).setCell (Or.inl (Or.inl rfl)) _, fun _ e => Or.inl e⟩⟩
  · exact (World.cell?_setCell_other w ⟨g, 0, none⟩ ⟨g, 1, none⟩ _ (by simp)).trans h.cells
  · exact own_same h.own fun b hb => Below.heap_setCell _ _ _ _ (fun e => by have h1 := (h.own.lt b hb).1; have h2 := h.lt.1; simp only at e; omega)
theorem pre_has (s p : Txt) : Lib.hasPrefix s p = p.isPrefixOf s := rfl
set_option maxRecDepth 100000 in
set_option maxHeartbeats 2000000 in
theorem accept_any (P : Txt) {g base : Nat} {R : Txt} {o : Option Addr} {n c : Nat} {l : List Cel} (w : World) (h : RS g base R o n c l w) :
    Calls Tryz.prog 74 #[.pointer (some ⟨g, 0, none⟩), .string ⟨P.toArray⟩] w fun e w' => e = .returned (.bool (P.isPrefixOf R)) ∧ RS g base (if P.isPrefixOf R then R.drop P.length else R) o n c l w' ∧ RTo g o w o w' := by
  have HC := Lib.hid (fun w => Tryz.strings_CutPrefix (⟨R.toArray⟩ : ByteArray) (⟨P.toArray⟩ : ByteArray) w)
  have e1 : Lib.trimPrefix (⟨R.toArray⟩ : ByteArray).data.toList (⟨P.toArray⟩ : ByteArray).data.toList = (if P.isPrefixOf R then R.drop P.length else R) := rfl
  have e2 : Lib.hasPrefix (⟨R.toArray⟩ : ByteArray).data.toList (⟨P.toArray⟩ : ByteArray).data.toList = P.isPrefixOf R := rfl
  rw [e1, e2] at HC
  have hS : (if P.isPrefixOf R then R.drop P.length else R).length ≤ 4000 := by
    have := h.len
    split
    · rw [List.length_drop]; omega
    · exact this
  clear e1 e2
  generalize (if P.isPrefixOf R then R.drop P.length else R) = S at *
  generalize P.isPrefixOf R = B at *
  have H := Lib.hid (h.setRest S hS)
  have c0 := h.rest
  have f0 := h.fz 0
  clear h hS
  go_enter Tryz.func74, Tryz.ntmps74
  go_wp2_with fail
  refine (HC.out _).mono ?_
  rintro e w' ⟨rfl, rfl⟩
  go_wp2
  go_ret
  exact ⟨rfl, H.out.1, H.out.2⟩
set_option maxRecDepth 100000 in
set_option maxHeartbeats 4000000 in
theorem add_any {g base : Nat} {R : Txt} {o : Option Addr} {n c : Nat} {l : List Cel} (k i m : Int) (x : ByteArray) (w : World) (h : RS g base R o n c l w) (hf : Fits ⟨k, i, x.toList, m⟩) (hx : x.size ≤ 4000) (hn : n ≤ 100000) :
    Calls Tryz.prog 75 #[.pointer (some ⟨g, 0, none⟩), .agg #[.int .i64 k, .int .i64 i, .string x, .int .i64 m]] w fun e w' => e = .returned (.tuple #[]) ∧ ∃ o' c', RS g base R o' (n + 1) c' (l ++ [⟨k, i, x.toList, m⟩]) w' ∧ RTo g o w o' w' := by
  obtain ⟨W, hW⟩ : ∃ W, w.alloc (.cells #[.int .i64 k, .int .i64 i, .string x, .int .i64 m] 43) = W := ⟨_, rfl⟩
  have B0 : Bel w W := by rw [← hW]; exact Bel.alloc (Bel.refl w) _
  obtain ⟨y0, y1, y2, y3⟩ : (W.cell? ⟨w.heap.size, 0, none⟩ = some (.int .i64 k) ∧ W.cell? ⟨w.heap.size, 1, none⟩ = some (.int .i64 i) ∧ W.cell? ⟨w.heap.size, 2, none⟩ = some (.string x) ∧ W.cell? ⟨w.heap.size, 3, none⟩ = some (.int .i64 m)) := by
    rw [← hW]
    exact boxC w k i m x _
  have HR := Lib.hid (h.on B0)
  have c1 := (h.on B0).cells
  have f1 := (h.on B0).fz 1
  have hgs : g < W.heap.size := cell_lt' HR.out.rest
  have hnb : Hid (¬ Blk o g) := Lib.hid (fun hb => by have h1 := (h.blk hb).1; have h2 := h.lt.1; omega)
  have HB := Lib.hid B0
  have Hn := Lib.hid hn
  have Hf := Lib.hid hf
  have Hx := Lib.hid hx
  obtain ⟨i0, hi0, hz0, hz1, hz2⟩ := info_parts info_cell
  have Hi0 := Lib.hid hi0
  have Hz0 := Lib.hid hz0
  have Hz1 := Lib.hid hz1
  have Hz2 := Lib.hid hz2
  have hnw : Hid (∀ W' : World, W'.heap[W.heap.size]? = some (.cells #[.int .i64 k, .int .i64 i, .string x, .int .i64 m] 43) → ∀ j u, [.int .i64 k, .int .i64 i, .string x, .int .i64 m][j]? = some u → W'.cell? ((⟨W.heap.size, 0, none⟩ : Addr).add j) = some u) := Lib.hid fun W' hW' => World.news_of_block (cs := #[.int .i64 k, .int .i64 i, .string x, .int .i64 m]) (t := 43) (fr := (0, 0)) hW'
  have hpl : Hid ((W.alloc (.cells #[.int .i64 k, .int .i64 i, .string x, .int .i64 m] 43)).heap[W.heap.size]? = some (.cells #[.int .i64 k, .int .i64 i, .string x, .int .i64 m] 43)) := Lib.hid (heap_alloc_new W _)
  have hownB : Hid (∀ W', Bel W W' → W'.ownsRow base 43 4 (.slice o n c) n (encCs l)) := Lib.hid fun W' hW' => own_belz HR.out.own hW'
  have hbaseB : Hid (∀ W', Bel W W' → base ≤ W'.heap.size) := Lib.hid fun W' hW' => Nat.le_trans HR.out.lt.2 hW'.size
  have hml : Hid (n + 1 ≤ maxLen) := Lib.hid (by unfold maxLen; omega)
  have hml2 : Hid ((n + 1) * 40 ≤ 140737488355328) := Lib.hid (by omega)
  have hfar : Hid (∀ W' w1, Bel W W' → W'.grownBy w1 (Value.slice o n c).ownBlock → w1.cell? ⟨g, 1, none⟩ = some (.slice o n c) ∧ w1.frozen? ⟨g, 1, none⟩ = false) := Lib.hid fun W' w1 hW' hg => by
    have hne : some g ≠ (Value.slice o n c).ownBlock := fun e => hnb.out ((blk_of HR.out.own).2 e.symm)
    have hlt : g < W'.heap.size := Nat.lt_of_lt_of_le hgs hW'.size
    exact ⟨(hg.cell_far ⟨g, 1, none⟩ hlt hne).trans (hW'.cell' HR.out.cells), (hg.frozen_far ⟨g, 1, none⟩ hlt hne).trans ((HR.out.on hW').fz 1)⟩
  have hfin : Hid (∀ (W' w1 : World) (gg cap : Nat), Bel W W' → w1.ownsRow base 43 4 (.slice (some ⟨gg, 0, none⟩) (n + 1) cap) (n + 1) (encCs l ++ [.int .i64 k, .int .i64 i, .string x, .int .i64 m]) → W'.grownBy w1 (Value.slice o n c).ownBlock → ((Value.slice o n c).ownBlock = some gg ∨ gg = W'.heap.size) →
      ∃ o' c', RS g base R o' (n + 1) c' (l ++ [⟨k, i, x.toList, m⟩]) (w1.setCell ⟨g, 1, none⟩ (.slice (some ⟨gg, 0, none⟩) (n + 1) cap)) ∧ RTo g o w o' (w1.setCell ⟨g, 1, none⟩ (.slice (some ⟨gg, 0, none⟩) (n + 1) cap))) := Lib.hid fun W' w1 gg cap hW' hown hg hat => by
    have hne : some g ≠ (Value.slice o n c).ownBlock := fun e => hnb.out ((blk_of HR.out.own).2 e.symm)
    have hlt : g < W'.heap.size := Nat.lt_of_lt_of_le hgs hW'.size
    have hm : Mod (fun k => k = g ∨ Blk o k) w w1 := ((Mod.of_bel (F := fun k => k = g ∨ Blk o k) (HB.out.trans hW')).trans (Mod.grown (F := fun k => k = g ∨ Blk o k) hg (fun b hb => Or.inr ((blk_of HR.out.own).2 hb))) (fun _ h => Or.inl h))
    refine ⟨some ⟨gg, 0, none⟩, cap, ⟨?_, ?_, fun j => ?_, ?_, ⟨HR.out.lt.1, ?_⟩, ?_, HR.out.len⟩, ⟨hm.setCell (Or.inl (Or.inl rfl)) _, ?_⟩⟩
    · exact (World.cell?_setCell_other w1 ⟨g, 1, none⟩ ⟨g, 0, none⟩ _ (by simp)).trans ((hg.cell_far ⟨g, 0, none⟩ hlt hne).trans (hW'.cell' HR.out.rest))
    · exact World.cell?_setCell_same w1 _ _ ((hg.cell_far ⟨g, 1, none⟩ hlt hne).trans (hW'.cell' HR.out.cells))
    · rw [World.frozen?_setCell]
      exact (hg.frozen_far ⟨g, j, none⟩ hlt hne).trans ((HR.out.on hW').fz j)
    · have e : encCs (l ++ [⟨k, i, x.toList, m⟩]) = encCs l ++ [.int .i64 k, .int .i64 i, .string x, .int .i64 m] := by
        rw [encCs_app]
        show _ ++ (encC ⟨k, i, x.toList, m⟩ ++ []) = _
        rw [List.append_nil]
        unfold encC
        rw [str_back]
      rw [e]
      exact own_same hown fun b hb => Below.heap_setCell _ _ _ _ (fun e => by have h1 := (hown.lt b hb).1; have h2 := HR.out.lt.1; simp only at e; omega)
    · have h1 := hm.size
      have h2 : base ≤ w1.heap.size := Nat.le_trans HR.out.lt.2 (Nat.le_trans hW'.size hg.size)
      simpa [World.setCell] using h2
    · intro y hy
      rcases List.mem_append.1 hy with hy | hy
      · exact HR.out.fit y hy
      · rw [List.mem_singleton.1 hy]
        exact ⟨Hf.out, by show x.toList.length ≤ 4000; rw [toL_len]; exact Hx.out⟩
    · rintro q ⟨off, hq⟩
      simp only [Option.some.injEq, Addr.mk.injEq] at hq
      obtain ⟨rfl, -⟩ := hq
      rcases hat with h | h
      · exact Or.inl ((blk_of HR.out.own).2 h)
      · exact Or.inr (by rw [h]; exact Nat.le_trans HB.out.size hW'.size)
  clear h B0 hi0 hz0 hz1 hz2 hn hf hx
  go_enter Tryz.func75, Tryz.ntmps75
  go_upto_region 1 with (fail)
  clear hW
  go_region_law (refine step_append_lies _ (by rfl) _ _ _ (by rfl) base 43 i0 _ 4 40 Tryz.underlying22 Hi0.out Hz0.out Hz1.out Hz2.out rfl (by omega) _ _ _ (by rfl) (hownB.out _ (by repeat (first | exact Bel.refl _ | refine Below.drew ?_ | refine Bel.alloc ?_ _))) ⟨W.heap.size, 0, none⟩ 1 1 [.int .i64 k, .int .i64 i, .string x, .int .i64 m] (by rfl) (by rfl) (hnw.out _ hpl.out) (by simp [Value.oneCell']) (by omega) hml.out hml2.out (hbaseB.out _ (by repeat (first | exact Bel.refl _ | refine Below.drew ?_ | refine Bel.alloc ?_ _))) _ rfl ?_; intro gg cap w1 hown1 hgrow hat hlt; obtain ⟨q1, q2⟩ := hfar.out _ w1 (by repeat (first | exact Bel.refl _ | refine Below.drew ?_ | refine Bel.alloc ?_ _)) hgrow)
  all_goals
    ((try simp only [Exit.inBlock, Exit.then]); first | (refine bodyPost_end (results_none rfl _ _ _) rfl ?_) | (refine bodyPost_ret (results_none rfl _ _ _) rfl ?_))
    refine ⟨rfl, hfin.out _ _ gg cap ?_ hown1 hgrow hat⟩
    (repeat (first | exact Bel.refl _ | refine Below.drew ?_ | refine Bel.alloc ?_ _))
end Val
end Go.Proofs.YtegfcmnbljdcpaaGreatDoor

/-
  Layer 6: the reader's stringEnd.
-/
namespace Go.Proofs.YtegfcmnbljdcpaaGreatDoor
open Go.RowKit Go.ChangeShapes Go.WideShapes
namespace Val

/-- What a reader's part says: none: it ends with false; else the cells and the rest. -/
def PPost (g base n : Nat) (o : Option Addr) (R : Txt) (l : List Cel) (X : Option (List Cel × Txt)) (w : World) (e : Ending) (w' : World) : Prop :=
  match X with
  | none => e = .returned (.bool false) ∧ ∃ o', RTo g o w o' w'
  | some (cs, r) => e = .returned (.bool true) ∧ ∃ o' n' c', RS g base r o' n' c' (l ++ cs) w' ∧ RTo g o w o' w' ∧ n' + r.length ≤ n + R.length
theorem RS.kept {g base : Nat} {R : Txt} {o : Option Addr} {n c : Nat} {l : List Cel} {w w' : World} {F : Nat → Prop} (h : RS g base R o n c l w) (m : Mod F w w') (hg : ¬ F g) (ho : ∀ k, Blk o k → ¬ F k) : RS g base R o n c l w' :=
  have hb : w'.heap[g]? = w.heap[g]? := m.block g (cell_lt' h.rest) hg
  ⟨m.cell h.rest hg, m.cell h.cells hg, fun j => (World.frozen?_of_block (a := ⟨g, j, none⟩) hb).trans (h.fz j), own_kept h.own m (fun b hb => ho b ((blk_of h.own).2 hb)), ⟨h.lt.1, Nat.le_trans h.lt.2 m.size⟩, h.fit, h.len⟩
theorem RTo.kept {g : Nat} {o : Option Addr} {a b c : World} {F : Nat → Prop} (h : RTo g o a o b) (m : Mod F b c) (hf : ∀ k, F k → a.heap.size ≤ k) : RTo g o a o c :=
  ⟨h.mod.trans m (fun k hk => Or.inr (hf k hk)), fun _ hk => Or.inl hk⟩
theorem rdS_nil : rdS [] = none := by unfold rdS; rfl
theorem rdS_q (r : Txt) : rdS (34 :: r) = some ([], r) := by unfold rdS; simp
theorem rdS_b0 : rdS [92] = none := by unfold rdS; simp
theorem rdS_b1 {d : UInt8} (r : Txt) (h : d = 34 ∨ d = 92) : rdS (92 :: d :: r) = (rdS r).map fun x => (d :: x.1, x.2) := by
  conv => lhs; unfold rdS
  simp only [if_pos h]
  cases rdS r <;> simp
theorem rdS_b2 {d : UInt8} (r : Txt) (h : ¬ (d = 34 ∨ d = 92)) : rdS (92 :: d :: r) = none := by
  conv => lhs; unfold rdS
  simp [h]
theorem rdS_o {d : UInt8} (r : Txt) (h1 : ¬ d = 34) (h2 : ¬ d = 92) : rdS (d :: r) = (rdS r).map fun x => (d :: x.1, x.2) := by
  conv => lhs; unfold rdS
  rw [if_neg h1, if_neg h2]
  cases rdS r <;> simp
theorem pre1 (b c : UInt8) (r : Txt) : ([b] : Txt).isPrefixOf (c :: r) = (b == c) := by simp [List.isPrefixOf]
theorem head0 (d : UInt8) (r : Txt) (h : 0 < (⟨(d :: r).toArray⟩ : ByteArray).size) : (⟨(d :: r).toArray⟩ : ByteArray)[0] = d := rfl
/-- The text without its first byte. -/
theorem cut_one (d : UInt8) (r : Txt) (w : World) : (Instr.slice 9 (.string ⟨(d :: r).toArray⟩) (some (.int .i64 1)) none none).run Tryz.prog w = .ok (.string ⟨r.toArray⟩) w := by
  rw [run_slice_string_from_if w 9 (⟨(d :: r).toArray⟩ : ByteArray) .i64 1 Tryz.underlying9, if_pos ⟨by omega, by simp [ByteArray.size]; omega⟩, Lib.extract_eq]
  simp [ByteArray.size]
theorem accept_no (P : Txt) {g base : Nat} {R : Txt} {o : Option Addr} {n c : Nat} {l : List Cel} (w : World) (h : RS g base R o n c l w) (hp : P.isPrefixOf R = false) :
    Calls Tryz.prog 74 #[.pointer (some ⟨g, 0, none⟩), .string ⟨P.toArray⟩] w fun e w' => e = .returned (.bool false) ∧ RS g base R o n c l w' ∧ RTo g o w o w' :=
  (accept_any P w h).mono fun e w' hh => by
    rw [hp] at hh
    exact hh
theorem accept_yes (P : Txt) {g base : Nat} {R : Txt} {o : Option Addr} {n c : Nat} {l : List Cel} (w : World) (h : RS g base R o n c l w) (hp : P.isPrefixOf R = true) :
    Calls Tryz.prog 74 #[.pointer (some ⟨g, 0, none⟩), .string ⟨P.toArray⟩] w fun e w' => e = .returned (.bool true) ∧ RS g base (R.drop P.length) o n c l w' ∧ RTo g o w o w' :=
  (accept_any P w h).mono fun e w' hh => by
    rw [hp] at hh
    exact hh
set_option maxRecDepth 100000 in
set_option maxHeartbeats 4000000 in
theorem stringEnd_any {g base : Nat} {R : Txt} {o : Option Addr} {n c : Nat} {l : List Cel} (w : World) (h : RS g base R o n c l w) (hn : n ≤ 90000) :
    Calls Tryz.prog 76 #[.pointer (some ⟨g, 0, none⟩)] w (PPost g base n o R l ((rdS R).map fun x => ([⟨4, 0, x.1, 0⟩], x.2)) w) := by
  obtain ⟨X, hX⟩ : ∃ X, rdS R = X := ⟨_, rfl⟩
  rw [hX]
  have HX := Lib.hid hX
  have H := Lib.hid h
  clear h hX
  go_enter Tryz.func76, Tryz.ntmps76
  go_wp2
  go_loopw [3] (fun v wr => ∃ (m c' : Nat) (p : Option Addr) (S s' : Txt), v = .slice p m c' ∧ Hid (TxR wr w.heap.size p m c' s') ∧ Hid (RS g base S o n c l wr) ∧ Hid (RTo g o w o wr) ∧ Hid ((rdS S).map (fun x => (s' ++ x.1, x.2)) = X) ∧ m + S.length ≤ R.length) (fun _ wr => match wr.cell? ⟨g, 0, none⟩ with | some (.string Y) => Y.size | _ => 0)
  case atStart =>
    refine ⟨0, 0, none, R, [], rfl, Lib.hid (World.ownsRow_nil _ _ _ _), H, Lib.hid (RTo.refl _ _ _), Lib.hid ?_, by omega⟩
    rw [HX.out]
    cases X <;> simp
  case round =>
    obtain ⟨m, c', p, S, s', rfl, HT, HR, HTo, HS, hm⟩ := hrel
    rename World => wr
    have hsz : (match wr.cell? ⟨g, 0, none⟩ with | some (.string Y) => Y.size | _ => 0) = S.length := by rw [HR.out.rest]; simp [ByteArray.size]
    rw [hsz]
    have hl4 := HR.out.len
    have hR4 := Lib.hid H.out.len
    cases S with
    | nil =>
      have hz : Hid (X = none) := Lib.hid (by rw [← HS.out]; rfl)
      have HA1 := Lib.hid (accept_no [34] wr HR.out rfl)
      go_wp2_with fail
      refine HA1.out.mono ?_
      rintro e w1 ⟨rfl, r1, t1⟩
      have R1 := Lib.hid r1
      have T1 := Lib.hid (HTo.out.trans t1)
      have HA2 := Lib.hid (accept_no [92] w1 r1 rfl)
      clear r1 t1
      go_wp2_with fail
      refine HA2.out.mono ?_
      rintro e w2 ⟨rfl, r2, t2⟩
      have T2 := Lib.hid (T1.out.trans t2)
      have c0 := r2.rest
      clear t2 r2
      go_wp2_with fail
      go_ret
      rw [hz.out]
      exact ⟨rfl, o, T2.out⟩
    | cons d r =>
      have hbp : Hid (∀ k, Blk p k → ¬ (k = g ∨ Blk o k)) := Lib.hid fun k hk hh => by
        have h1 := (HT.out.row_lt hk).1
        rcases hh with rfl | hh
        · have := cell_lt' H.out.rest
          simp only at this
          omega
        · have := (H.out.blk hh).2
          omega
      by_cases h34 : d = 34
      · subst h34
        have HA1 := Lib.hid (accept_yes [34] wr HR.out rfl)
        have hz : Hid (X = some (s', r)) := Lib.hid (by
          rw [← HS.out, rdS_q]
          simp)
        simp only [List.length_cons] at hm hl4 ⊢
        go_wp2_with fail
        refine HA1.out.mono ?_
        rintro e w1 ⟨rfl, r1, t1⟩
        have T1 := Lib.hid (HTo.out.trans t1)
        have tx1 := HT.out.kept t1.mod hbp.out
        have hml := tx1.len
        have hR5 := hR4.out
        have hcv := own_conv tx1
        have HAd := Lib.hid (add_any 4 0 0 (⟨s'.toArray⟩ : ByteArray) w1 r1 (fits_small _ _ _ _ (by omega) (by omega) (by omega) (by rw [txS]; omega)) (by rw [txZ]; omega) (by omega))
        clear t1 r1 tx1
        go_wp2_with fail
        refine HAd.out.mono ?_
        rintro e w2 ⟨rfl, o2, c2, r2, t2⟩
        rw [txS] at r2
        have R2 := Lib.hid r2
        have T2 := Lib.hid (T1.out.trans t2)
        clear r2 t2 hcv
        go_wp2_with fail
        go_ret
        rw [hz.out]
        refine ⟨rfl, o2, n + 1, c2, R2.out, T2.out, ?_⟩
        show n + 1 + r.length ≤ n + R.length
        omega
      · by_cases h92 : d = 92
        · subst h92
          have hp1 : ([34] : Txt).isPrefixOf (92 :: r) = false := rfl
          have HA1 := Lib.hid (accept_no [34] wr HR.out hp1)
          clear hp1 h34
          cases r with
          | nil =>
            have hz : Hid (X = none) := Lib.hid (by rw [← HS.out, rdS_b0]; rfl)
            simp only [List.length_cons] at hm hl4 ⊢
            go_wp2_with fail
            refine HA1.out.mono ?_
            rintro e w1 ⟨rfl, r1, t1⟩
            have T1 := Lib.hid (HTo.out.trans t1)
            have HA2 := Lib.hid (accept_yes [92] w1 r1 rfl)
            clear t1 r1
            go_wp2_with fail
            refine HA2.out.mono ?_
            rintro e w2 ⟨rfl, r2, t2⟩
            have T2 := Lib.hid (T1.out.trans t2)
            have c0 : w2.cell? ⟨g, 0, none⟩ = some (.string ⟨#[]⟩) := r2.rest
            clear t2 r2
            go_wp2_with fail
            go_ret
            rw [hz.out]
            exact ⟨rfl, o, T2.out⟩
          | cons d2 r2 =>
            by_cases hq : d2 = 34 ∨ d2 = 92
            · rcases hq with rfl | rfl
              · have hS2 : Hid ((rdS r2).map (fun x => (s' ++ [34] ++ x.1, x.2)) = X) := Lib.hid (by
                  rw [← HS.out, rdS_b1 r2 (by decide)]
                  cases rdS r2 <;> simp)
                simp only [List.length_cons] at hm hl4 ⊢
                go_wp2_with fail
                refine HA1.out.mono ?_
                rintro e w1 ⟨rfl, r1, t1⟩
                have T1 := Lib.hid (HTo.out.trans t1)
                have tx1 := Lib.hid (HT.out.kept t1.mod hbp.out)
                have HA2 := Lib.hid (accept_yes [92] w1 r1 rfl)
                clear t1 r1
                go_wp2_with fail
                refine HA2.out.mono ?_
                rintro e w2 ⟨rfl, rr2, t2⟩
                have T2 := Lib.hid (T1.out.trans t2)
                have tx2 := Lib.hid (tx1.out.kept t2.mod hbp.out)
                have R2 : Hid (RS g base (34 :: r2) o n c l w2) := Lib.hid rr2
                have hcut := fun W => cut_one 34 r2 W
                obtain ⟨Y, hY⟩ : ∃ Y : ByteArray, ⟨(34 :: r2).toArray⟩ = Y := ⟨_, rfl⟩
                have c0 := R2.out.rest
                have hY1 : 0 < Y.size := by rw [← hY]; simp [ByteArray.size]
                have hY0 : (Y[0] : UInt8) = 34 := by subst hY; rfl
                have hYa : ¬ Y.toList = [] := by rw [← hY, txS]; simp
                have hYb : Y.toList.isEmpty = false := by rw [← hY, txS]; rfl
                rw [hY] at c0 hcut
                have hYY := Lib.hid hY
                clear t2 rr2 hY tx1 T1
                have own2 := Lib.hid (tx2.out.on (Bel.alloc (Bel.refl w2) (.cells #[.int .u8 34] 5)))
                have c2 : Hid ((w2.alloc (.cells #[.int .u8 34] 5)).cell? ⟨w2.heap.size, 0, none⟩ = some (.int .u8 34)) := Lib.hid (World.cell?_alloc_new ..)
                have hbw2 := Lib.hid (Nat.le_trans T2.out.mod.size (Bel.alloc (Bel.refl w2) (.cells #[.int .u8 34] 5)).size)
                have hR5 := hR4.out
                go_wp2_with (at_builtin; refine txt_byte 34 _ _ rfl rfl rfl rfl c2.out rfl own2.out (by omega) hbw2.out ?_)
                rintro o3 c3 w3 ht
                have TX3 := Lib.hid (TxTo.first (Bel.alloc (Bel.refl w2) _) ht.out)
                have ngb : ¬ Blk p g := fun hk => hbp.out g hk (Or.inl rfl)
                have nob : ∀ k, Blk o k → ¬ Blk p k := fun k hk hp => hbp.out k hp (Or.inr hk)
                have R3 := Lib.hid (R2.out.kept TX3.out.mod ngb nob)
                have T3 := Lib.hid (T2.out.kept TX3.out.mod (fun k hk => (HT.out.row_lt hk).1))
                have R4 := Lib.hid (R3.out.setRest r2 (by omega))
                have c4 := Lib.hid R3.out.rest
                rw [show (⟨(34 :: r2).toArray⟩ : ByteArray) = Y from hYY.out] at c4
                have c4' := c4.out
                have f4 := R3.out.fz 0
                have T4 := Lib.hid (T3.out.trans R4.out.2)
                have tx4 := Lib.hid (TX3.out.row.far (.string ⟨r2.toArray⟩) (g := g) (by have := cell_lt' H.out.rest; exact this))
                have ms : Hid ((match (w3.setCell ⟨g, 0, none⟩ (.string ⟨r2.toArray⟩)).cell? ⟨g, 0, none⟩ with | some (.string Y) => Y.size | _ => 0) = r2.length) := Lib.hid (by rw [R4.out.1.rest]; simp [ByteArray.size])
                clear ht own2 c2 ngb nob TX3 R3 c4 tx2 c0 hY0 hYa hYb
                go_wp2
                go_round
                case rel => exact ⟨m + 1, c3, o3, r2, s' ++ [34], rfl, tx4, Lib.hid R4.out.1, T4, hS2, by omega⟩
                case measure => rw [ms.out]; omega
              · have hS2 : Hid ((rdS r2).map (fun x => (s' ++ [92] ++ x.1, x.2)) = X) := Lib.hid (by
                  rw [← HS.out, rdS_b1 r2 (by decide)]
                  cases rdS r2 <;> simp)
                simp only [List.length_cons] at hm hl4 ⊢
                go_wp2_with fail
                refine HA1.out.mono ?_
                rintro e w1 ⟨rfl, r1, t1⟩
                have T1 := Lib.hid (HTo.out.trans t1)
                have tx1 := Lib.hid (HT.out.kept t1.mod hbp.out)
                have HA2 := Lib.hid (accept_yes [92] w1 r1 rfl)
                clear t1 r1
                go_wp2_with fail
                refine HA2.out.mono ?_
                rintro e w2 ⟨rfl, rr2, t2⟩
                have T2 := Lib.hid (T1.out.trans t2)
                have tx2 := Lib.hid (tx1.out.kept t2.mod hbp.out)
                have R2 : Hid (RS g base (92 :: r2) o n c l w2) := Lib.hid rr2
                have hcut := fun W => cut_one 92 r2 W
                obtain ⟨Y, hY⟩ : ∃ Y : ByteArray, ⟨(92 :: r2).toArray⟩ = Y := ⟨_, rfl⟩
                have c0 := R2.out.rest
                have hY1 : 0 < Y.size := by rw [← hY]; simp [ByteArray.size]
                have hY0 : (Y[0] : UInt8) = 92 := by subst hY; rfl
                have hYa : ¬ Y.toList = [] := by rw [← hY, txS]; simp
                have hYb : Y.toList.isEmpty = false := by rw [← hY, txS]; rfl
                rw [hY] at c0 hcut
                have hYY := Lib.hid hY
                clear t2 rr2 hY tx1 T1
                have own2 := Lib.hid (tx2.out.on (Bel.alloc (Bel.refl w2) (.cells #[.int .u8 92] 5)))
                have c2 : Hid ((w2.alloc (.cells #[.int .u8 92] 5)).cell? ⟨w2.heap.size, 0, none⟩ = some (.int .u8 92)) := Lib.hid (World.cell?_alloc_new ..)
                have hbw2 := Lib.hid (Nat.le_trans T2.out.mod.size (Bel.alloc (Bel.refl w2) (.cells #[.int .u8 92] 5)).size)
                have hR5 := hR4.out
                go_wp2_with (at_builtin; refine txt_byte 92 _ _ rfl rfl rfl rfl c2.out rfl own2.out (by omega) hbw2.out ?_)
                rintro o3 c3 w3 ht
                have TX3 := Lib.hid (TxTo.first (Bel.alloc (Bel.refl w2) _) ht.out)
                have ngb : ¬ Blk p g := fun hk => hbp.out g hk (Or.inl rfl)
                have nob : ∀ k, Blk o k → ¬ Blk p k := fun k hk hp => hbp.out k hp (Or.inr hk)
                have R3 := Lib.hid (R2.out.kept TX3.out.mod ngb nob)
                have T3 := Lib.hid (T2.out.kept TX3.out.mod (fun k hk => (HT.out.row_lt hk).1))
                have R4 := Lib.hid (R3.out.setRest r2 (by omega))
                have c4 := Lib.hid R3.out.rest
                rw [show (⟨(92 :: r2).toArray⟩ : ByteArray) = Y from hYY.out] at c4
                have c4' := c4.out
                have f4 := R3.out.fz 0
                have T4 := Lib.hid (T3.out.trans R4.out.2)
                have tx4 := Lib.hid (TX3.out.row.far (.string ⟨r2.toArray⟩) (g := g) (by have := cell_lt' H.out.rest; exact this))
                have ms : Hid ((match (w3.setCell ⟨g, 0, none⟩ (.string ⟨r2.toArray⟩)).cell? ⟨g, 0, none⟩ with | some (.string Y) => Y.size | _ => 0) = r2.length) := Lib.hid (by rw [R4.out.1.rest]; simp [ByteArray.size])
                clear ht own2 c2 ngb nob TX3 R3 c4 tx2 c0 hY0 hYa hYb
                go_wp2
                go_round
                case rel => exact ⟨m + 1, c3, o3, r2, s' ++ [92], rfl, tx4, Lib.hid R4.out.1, T4, hS2, by omega⟩
                case measure => rw [ms.out]; omega
            · have hz : Hid (X = none) := Lib.hid (by rw [← HS.out, rdS_b2 r2 hq]; rfl)
              simp only [List.length_cons] at hm hl4 ⊢
              have b34' := b34 d2
              have b92' := b92 d2
              rw [decide_eq_false (fun h => hq (Or.inl h))] at b34'
              rw [decide_eq_false (fun h => hq (Or.inr h))] at b92'
              have n34 : ((d2.toNat : Int) != 34) = true := by rw [bne, b34']; rfl
              have n92 : ((d2.toNat : Int) != 92) = true := by rw [bne, b92']; rfl
              clear hq
              go_wp2_with fail
              refine HA1.out.mono ?_
              rintro e w1 ⟨rfl, r1, t1⟩
              have T1 := Lib.hid (HTo.out.trans t1)
              have HA2 := Lib.hid (accept_yes [92] w1 r1 rfl)
              clear t1 r1
              go_wp2_with fail
              refine HA2.out.mono ?_
              rintro e w2 ⟨rfl, rr2, t2⟩
              have T2 := Lib.hid (T1.out.trans t2)
              have R2 : Hid (RS g base (d2 :: r2) o n c l w2) := Lib.hid rr2
              obtain ⟨Y, hY⟩ : ∃ Y : ByteArray, ⟨(d2 :: r2).toArray⟩ = Y := ⟨_, rfl⟩
              have c0 := R2.out.rest
              have hY1 : 0 < Y.size := by rw [← hY]; simp [ByteArray.size]
              have hY0 : Y[0] = d2 := by subst hY; rfl
              have hYa : ¬ Y.toList = [] := by rw [← hY, txS]; simp
              have hYb : Y.toList.isEmpty = false := by rw [← hY, txS]; rfl
              rw [hY] at c0
              clear t2 rr2 hY T1
              go_wp2_with fail
              go_ret
              rw [hz.out]
              exact ⟨rfl, o, T2.out⟩
        · have hp1 : ([34] : Txt).isPrefixOf (d :: r) = false := by rw [pre1]; simpa using fun e => h34 e.symm
          have hp2 : ([92] : Txt).isPrefixOf (d :: r) = false := by rw [pre1]; simpa using fun e => h92 e.symm
          have HA1 := Lib.hid (accept_no [34] wr HR.out hp1)
          have hS2 : Hid ((rdS r).map (fun x => (s' ++ [d] ++ x.1, x.2)) = X) := Lib.hid (by
            rw [← HS.out, rdS_o r h34 h92]
            cases rdS r <;> simp)
          simp only [List.length_cons] at hm hl4 ⊢
          have HP2 := Lib.hid hp2
          clear hp1 hp2 h34 h92
          go_wp2_with fail
          refine HA1.out.mono ?_
          rintro e w1 ⟨rfl, r1, t1⟩
          have T1 := Lib.hid (HTo.out.trans t1)
          have tx1 := Lib.hid (HT.out.kept t1.mod hbp.out)
          have HA2 := Lib.hid (accept_no [92] w1 r1 HP2.out)
          clear t1 r1
          go_wp2_with fail
          refine HA2.out.mono ?_
          rintro e w2 ⟨rfl, r2, t2⟩
          have T2 := Lib.hid (T1.out.trans t2)
          have tx2 := Lib.hid (tx1.out.kept t2.mod hbp.out)
          have R2 := Lib.hid r2
          have hcut := fun W => cut_one d r W
          obtain ⟨Y, hY⟩ : ∃ Y : ByteArray, ⟨(d :: r).toArray⟩ = Y := ⟨_, rfl⟩
          have c0 := r2.rest
          have hY1 : 0 < Y.size := by rw [← hY]; simp [ByteArray.size]
          have hY0 : Y[0] = d := by subst hY; rfl
          have hYa : ¬ Y.toList = [] := by rw [← hY, txS]; simp
          have hYb : Y.toList.isEmpty = false := by rw [← hY, txS]; rfl
          rw [hY] at c0 hcut
          have hYY := Lib.hid hY
          clear t2 r2 hY tx1 T1
          have own2 := Lib.hid (tx2.out.on (Bel.alloc (Bel.refl w2) (.cells #[.int .u8 (d.toNat : Int)] 5)))
          have c2 : Hid ((w2.alloc (.cells #[.int .u8 (d.toNat : Int)] 5)).cell? ⟨w2.heap.size, 0, none⟩ = some (.int .u8 (d.toNat : Int))) := Lib.hid (World.cell?_alloc_new ..)
          have hbw2 := Lib.hid (Nat.le_trans T2.out.mod.size (Bel.alloc (Bel.refl w2) (.cells #[.int .u8 (d.toNat : Int)] 5)).size)
          have hR5 := hR4.out
          go_wp2_with (at_builtin; refine txt_byte d _ _ rfl rfl rfl rfl c2.out rfl own2.out (by omega) hbw2.out ?_)
          rintro o3 c3 w3 ht
          have TX3 := Lib.hid (TxTo.first (Bel.alloc (Bel.refl w2) _) ht.out)
          have ngb : ¬ Blk p g := fun hk => hbp.out g hk (Or.inl rfl)
          have nob : ∀ k, Blk o k → ¬ Blk p k := fun k hk hp => hbp.out k hp (Or.inr hk)
          have R3 := Lib.hid (R2.out.kept TX3.out.mod ngb nob)
          have T3 := Lib.hid (T2.out.kept TX3.out.mod (fun k hk => (HT.out.row_lt hk).1))
          have R4 := Lib.hid (R3.out.setRest r (by omega))
          have c4 := Lib.hid R3.out.rest
          rw [show (⟨(d :: r).toArray⟩ : ByteArray) = Y from hYY.out] at c4
          have c4' := c4.out
          have f4 := R3.out.fz 0
          have T4 := Lib.hid (T3.out.trans R4.out.2)
          have tx4 := Lib.hid (TX3.out.row.far (.string ⟨r.toArray⟩) (g := g) (by have := cell_lt' H.out.rest; exact this))
          have ms : Hid ((match (w3.setCell ⟨g, 0, none⟩ (.string ⟨r.toArray⟩)).cell? ⟨g, 0, none⟩ with | some (.string Y) => Y.size | _ => 0) = r.length) := Lib.hid (by rw [R4.out.1.rest]; simp [ByteArray.size])
          clear ht own2 c2 ngb nob TX3 R3 c4 tx2 c0 hY0 hYa hYb
          go_wp2
          go_round
          case rel => exact ⟨m + 1, c3, o3, r, s' ++ [d], rfl, tx4, Lib.hid R4.out.1, T4, hS2, by omega⟩
          case measure => rw [ms.out]; omega
end Val
end Go.Proofs.YtegfcmnbljdcpaaGreatDoor

/-
  Layer 6: strings.TrimLeft at the signs of an integer; the reader's integer.
-/
namespace Go.Proofs.YtegfcmnbljdcpaaGreatDoor
open Go.RowKit Go.ChangeShapes Go.WideShapes
namespace Val

/-- The signs of an integer. -/
def signsI : Txt := [45, 48, 49, 50, 51, 52, 53, 54, 55, 56, 57]
set_option maxRecDepth 100000 in
theorem signs_tok (x : UInt8) : signsI.contains x = tokC x := by
  have h : ∀ n : Fin 256, signsI.contains (UInt8.ofNat n.val) = tokC (UInt8.ofNat n.val) := by decide
  have hx := h ⟨x.toNat, x.toNat_lt⟩
  simpa using hx
theorem trimLeft_any (S : Txt) (w : World) :
    Calls Tryz.prog 90 #[.string ⟨S.toArray⟩, .string ⟨#[45, 48, 49, 50, 51, 52, 53, 54, 55, 56, 57]⟩] w fun e w' => e = .returned (.string ⟨(S.dropWhile tokC).toArray⟩) ∧ Bel w w' := by
  have h := Any.strings_TrimLeft_laid Tryz.lays161 (by kernel_rfl) (⟨S.toArray⟩ : ByteArray) (⟨#[45, 48, 49, 50, 51, 52, 53, 54, 55, 56, 57]⟩ : ByteArray) w (by decide) (fun j b hj => by
    have hm : b ∈ signsI := List.mem_of_getElem? hj
    exact (by decide : ∀ b ∈ signsI, b.toNat < 128) b hm)
  have e : Lib.trimLeftS (⟨S.toArray⟩ : ByteArray).data.toList (⟨#[45, 48, 49, 50, 51, 52, 53, 54, 55, 56, 57]⟩ : ByteArray).data.toList = S.dropWhile tokC := by
    have hf : (fun x => signsI.contains x) = tokC := funext signs_tok
    rw [← hf]
    rfl
  rw [e] at h
  exact h
end Val
end Go.Proofs.YtegfcmnbljdcpaaGreatDoor

/-
  Layer 6: the reader's integer.
-/
namespace Go.Proofs.YtegfcmnbljdcpaaGreatDoor
open Go.RowKit Go.ChangeShapes Go.WideShapes
namespace Val
open Num (parE parV okL negL bodyL decB scan valF finE finV)

theorem parE_012 (l : Txt) : parE l = 0 ∨ parE l = 1 ∨ parE l = 2 := by
  unfold parE
  split
  · unfold finE
    split <;> (try split) <;> simp
  · simp
theorem parE_nil : parE [] = 1 := by decide
theorem parV_bd {l : Txt} (h : parE l = 0) : -1000000000000 ≤ parV l ∧ parV l ≤ 1000000000000 := Num.vld_true (Num.fmt_parse l h).1
theorem same_turn {P : Program} {f : Nat} {args : Array Value} {w : World} {E : Ending} (h : Calls P f args w fun e w' => e = E ∧ w = w') : Calls P f args w fun e w' => e = E ∧ w' = w := h.mono fun _ _ ⟨he, hw⟩ => ⟨he, hw.symm⟩
set_option maxRecDepth 100000 in
set_option maxHeartbeats 4000000 in
theorem integer_any {g base : Nat} {R : Txt} {o : Option Addr} {n c : Nat} {l : List Cel} (w : World) (h : RS g base R o n c l w) (hn : n ≤ 90000) :
    Calls Tryz.prog 79 #[.pointer (some ⟨g, 0, none⟩)] w (PPost g base n o R l ((intU R).map fun x => ([⟨3, x.1, [], 0⟩], x.2)) w) := by
  have HTL := Lib.hid (trimLeft_any R)
  have hlen := h.len
  have hTD : R.takeWhile tokC ++ R.dropWhile tokC = R := List.takeWhile_append_dropWhile
  unfold intU
  obtain ⟨T, hT⟩ : ∃ T, R.takeWhile tokC = T := ⟨_, rfl⟩
  obtain ⟨D, hD⟩ : ∃ D, R.dropWhile tokC = D := ⟨_, rfl⟩
  rw [hD] at HTL
  rw [hT, hD] at hTD ⊢
  have hTDl : T.length + D.length = R.length := by rw [← hTD, List.length_append]
  obtain ⟨Y, hY⟩ : ∃ Y : ByteArray, ⟨R.toArray⟩ = Y := ⟨_, rfl⟩
  obtain ⟨A, hA⟩ : ∃ A : ByteArray, ⟨D.toArray⟩ = A := ⟨_, rfl⟩
  obtain ⟨B, hB⟩ : ∃ B : ByteArray, ⟨T.toArray⟩ = B := ⟨_, rfl⟩
  have hYs : Y.size = R.length := by rw [← hY, txZ]
  have hAs : A.size = D.length := by rw [← hA, txZ]
  have hBl : B.toList = T := by rw [← hB, txS]
  obtain ⟨t, ht⟩ : ∃ t : Nat, T.length = t := ⟨_, rfl⟩
  have hw1 : IntKind.i64.wrap ((Y.size : Int) - (A.size : Int)) = (t : Int) := by rw [IntKind.wrap_i64]; omega
  have hsl : ∀ W, (Instr.slice 9 (.string Y) none (some (.int .i64 (t : Int))) none).run Tryz.prog W = .ok (.string B) W := fun W => by
    rw [run_slice_string_to_if W 9 Y .i64 (t : Int) Tryz.underlying9, if_pos ⟨by omega, by omega⟩, ← hB, Lib.extract_eq]
    have e : Y.data.toList = T ++ D := by rw [← hY, hTD]
    rw [e, Int.toNat_natCast, ← ht]
    simp
  have HP := Lib.hid (fun w => Num.parse_any B (by unfold maxLen; rw [← hB, txZ]; omega) w)
  rw [hBl] at HP
  obtain ⟨E, hE⟩ : ∃ E, parE T = E := ⟨_, rfl⟩
  obtain ⟨N, hN⟩ : ∃ N, parV T = N := ⟨_, rfl⟩
  have HE := Lib.hid hE
  have h012 := parE_012 T
  have hbd : E = 0 → -1000000000000 ≤ N ∧ N ≤ 1000000000000 := fun e => by rw [← hN]; exact parV_bd (hE.trans e)
  have ht0 : E ≠ 1 → 0 < t := fun e => by
    rcases Nat.eq_zero_or_pos t with h0 | h0
    · exfalso
      apply e
      rw [← hE, List.eq_nil_of_length_eq_zero (ht.trans h0), parE_nil]
    · exact h0
  rw [hE, hN] at HP
  rw [hE] at h012 ⊢
  rw [hN]
  obtain ⟨Z, hZ⟩ : ∃ Z : Option (List Cel × Txt), Option.map (fun x : Int × Txt => ([(⟨3, x.1, [], 0⟩ : Cel)], x.2)) (if E = 1 then none else some (if E = 2 then 1000000000001 else N, D)) = Z := ⟨_, rfl⟩
  rw [hZ]
  have HZ := Lib.hid hZ
  clear hZ
  have H := Lib.hid h
  have hDl : D.length ≤ 4000 := by omega
  have HD := Lib.hid hD
  rw [hA, hY] at HTL
  have HY := Lib.hid hY
  have HAA := Lib.hid hA
  have Hlen := Lib.hid (show t + D.length = R.length by omega)
  have hle : A.size ≤ Y.size ∧ Y.size ≤ 4000 := by omega
  clear h hT hD hTD hY hA hB hBl hE hN hYs hAs hTDl ht hlen
  go_enter Tryz.func79, Tryz.ntmps79
  have c0 : w.cell? ⟨g, 0, none⟩ = some (.string Y) := by rw [← HY.out]; exact H.out.rest
  go_wp2_with fail
  refine (HTL.out _).mono ?_
  rintro e w1 ⟨rfl, g1⟩
  have R1 := Lib.hid (H.out.on g1)
  have T1 := Lib.hid (RTo.of_bel (g := g) (o := o) g1)
  have c1 := g1.cell' c0
  clear g1 c0
  go_upto_region 2 with (fail)
  go_quiet (first | (go_at_call 91; exact Calls.quiet_of_same (same_turn (HP.out _))))
  clear HP hsl hw1
  obtain ⟨w2, hw2⟩ : ∃ w2, w1.drewN nq = w2 := ⟨_, rfl⟩
  have B2 : Bel w1 w2 := by rw [← hw2]; exact (Bel.refl w1).drewN nq
  have R2 := Lib.hid (R1.out.on B2)
  have T2 := Lib.hid (T1.out.trans (RTo.of_bel B2))
  rw [hw2]
  clear hw2 B2 c1 R1 T1
  by_cases h1 : E = 1
  · subst h1
    have hz : Hid (Z = none) := Lib.hid (by rw [← HZ.out]; rfl)
    go_wp2
    go_ret
    rw [hz.out]
    exact ⟨rfl, o, T2.out⟩
  · have h1b : (E == 1) = false := by simpa using h1
    have ht1 := ht0 h1
    by_cases h2 : E = 2
    · subst h2
      have hz : Hid (Z = some ([⟨3, 1000000000001, [], 0⟩], D)) := Lib.hid (by rw [← HZ.out]; rfl)
      have HAd := Lib.hid (add_any 3 1000000000001 0 ⟨#[]⟩ w2 R2.out (fits_small _ _ _ _ (by omega) (by omega) (by omega) (by rw [emp_list]; decide)) (by decide) (by omega))
      clear hbd h012 ht0 h1b
      go_wp2_with fail
      refine HAd.out.mono ?_
      rintro e w3 ⟨rfl, o3, c3, r3, t3⟩
      rw [emp_list] at r3
      have R3 := Lib.hid r3
      have T3 := Lib.hid (T2.out.trans t3)
      have c0 := r3.rest
      have f0 := r3.fz 0
      have R4 := Lib.hid (r3.setRest D hDl)
      have hAA := HAA.out
      rw [hAA] at R4
      clear r3 t3 hAA
      go_wp2_with fail
      go_ret
      rw [hz.out]
      refine ⟨rfl, o3, n + 1, c3, R4.out.1, T3.out.trans R4.out.2, ?_⟩
      show n + 1 + D.length ≤ n + R.length
      have := Hlen.out
      omega
    · have h2b : (E == 2) = false := by simpa using h2
      have hE0 : E = 0 := by omega
      have hN := hbd hE0
      have hz : Hid (Z = some ([⟨3, N, [], 0⟩], D)) := Lib.hid (by rw [← HZ.out, if_neg h1, if_neg h2]; rfl)
      have HAd := Lib.hid (add_any 3 N 0 ⟨#[]⟩ w2 R2.out (fits_small _ _ _ _ (by omega) (by omega) (by omega) (by rw [emp_list]; decide)) (by decide) (by omega))
      clear hbd h012 ht0 hE0 h1 h2
      go_wp2_with fail
      refine HAd.out.mono ?_
      rintro e w3 ⟨rfl, o3, c3, r3, t3⟩
      rw [emp_list] at r3
      have R3 := Lib.hid r3
      have T3 := Lib.hid (T2.out.trans t3)
      have c0 := r3.rest
      have f0 := r3.fz 0
      have R4 := Lib.hid (r3.setRest D hDl)
      have hAA := HAA.out
      rw [hAA] at R4
      clear r3 t3 hAA
      go_wp2_with fail
      go_ret
      rw [hz.out]
      refine ⟨rfl, o3, n + 1, c3, R4.out.1, T3.out.trans R4.out.2, ?_⟩
      show n + 1 + D.length ≤ n + R.length
      have := Hlen.out
      omega
end Val
end Go.Proofs.YtegfcmnbljdcpaaGreatDoor
