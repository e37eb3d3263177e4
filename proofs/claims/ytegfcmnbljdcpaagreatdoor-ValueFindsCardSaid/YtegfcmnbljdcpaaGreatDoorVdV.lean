/-
  Layer 6: slices.BinarySearch of strings.
-/
import Derived.Test.YtegfcmnbljdcpaaGreatDoorVdU
import Derived.Test.YtegfcmnbljdcpaaGreatDoorVdH
namespace Go.Proofs.YtegfcmnbljdcpaaGreatDoor
open Go.RowKit Go.ChangeShapes Go.WideShapes
namespace Val

theorem nan_any (x : ByteArray) (w : World) : Calls Tryz.prog 83 #[.string x] w fun e w' => e = .returned (.bool false) ∧ w = w' := by
  go_enter Tryz.func83, Tryz.ntmps83
  go_wp2
  go_ret
  exact ⟨by simp, rfl⟩
theorem nan2_any (x : ByteArray) (w : World) : Calls Tryz.prog 59 #[.string x] w fun e w' => e = .returned (.bool false) ∧ w = w' := by
  go_enter Tryz.func59, Tryz.ntmps59
  go_wp2
  go_ret
  exact ⟨by simp, rfl⟩
theorem less_any (a b : ByteArray) (w : World) : Calls Tryz.prog 58 #[.string a, .string b] w fun e w' => e = .returned (.bool (Op.bytesLess a.toList b.toList)) ∧ w = w' := by
  have HN := Lib.hid nan_any
  rcases str_ways a b with ⟨hw, f1, f2, f3, f4⟩ | rfl | ⟨hw, f1, f2, f3, f4⟩
  · go_enter Tryz.func58, Tryz.ntmps58
    go_wp2_with (go_at_call 83; (with_reducible refine (HN.out _ _).mono ?_); rintro e w' ⟨rfl, rfl⟩)
    go_ret
    exact ⟨by rw [f1]; rfl, rfl⟩
  · have f1 := less_self a.toList
    go_enter Tryz.func58, Tryz.ntmps58
    go_wp2_with (go_at_call 83; (with_reducible refine (HN.out _ _).mono ?_); rintro e w' ⟨rfl, rfl⟩)
    go_ret
    exact ⟨by rw [f1]; rfl, rfl⟩
  · go_enter Tryz.func58, Tryz.ntmps58
    go_wp2_with (go_at_call 83; (with_reducible refine (HN.out _ _).mono ?_); rintro e w' ⟨rfl, rfl⟩)
    go_ret
    exact ⟨by rw [f1]; rfl, rfl⟩
set_option maxRecDepth 100000 in
set_option maxHeartbeats 4000000 in
theorem search_any (ps : List ByteArray) (k : ByteArray) (o : Option Addr) (n c : Nat) (hn : n ≤ 1000000) (hs : ∀ i j (hi : i < ps.length) (hj : j < ps.length), i < j → ps[i].toList < ps[j].toList) (w : World) (hA : SlArg w o n ps) :
    Calls Tryz.prog 36 #[.slice o n c, .string k] w fun e w' => (∃ p : Nat, p ≤ n ∧ e = .returned (.tuple #[.int .i64 (p : Int), .bool (decide (ps[p]? = some k))]) ∧ (∀ i (hi : i < ps.length), i < p → ps[i].toList < k.toList) ∧ (∀ i (hi : i < ps.length), p ≤ i → ¬ ps[i].toList < k.toList)) ∧ w = w' := by
  have HA := Lib.hid hA
  have HS := Lib.hid hs
  have hln := hA.1
  have HL := Lib.hid less_any
  clear hA hs
  go_enter Tryz.func36, Tryz.ntmps36
  go_wp2
  go_loop [7, 8] (fun i j => ∃ p q : Nat, i = .int .i64 (p : Int) ∧ j = .int .i64 (q : Int) ∧ p ≤ q ∧ q ≤ n ∧ Hid (∀ i (hi : i < ps.length), i < p → ps[i].toList < k.toList) ∧ Hid (∀ i (hi : i < ps.length), q ≤ i → ¬ ps[i].toList < k.toList)) (fun i j => (intOf j).toNat - (intOf i).toNat)
  case atStart => exact ⟨0, n, rfl, rfl, by omega, by omega, Lib.hid (fun i hi h => by omega), Lib.hid (fun i hi h => by omega)⟩
  case round =>
    obtain ⟨p, q, rfl, rfl, hpq, hqn, h1, h2⟩ := hrel
    by_cases hlt : p < q
    · obtain ⟨h, hh⟩ : ∃ h, (p + q) / 2 = h := ⟨_, rfl⟩
      have hhl : h < ps.length := by omega
      obtain ⟨a, rfl, hc⟩ := HA.out.2 h hhl
      obtain ⟨x, hx⟩ : ∃ x, ps[h] = x := ⟨_, rfl⟩
      rw [hx] at hc
      have hlo : ∀ i (hi : i < ps.length), i < h → ps[i].toList < x.toList := fun i hi k => by rw [← hx]; exact HS.out i h hi hhl k
      have hup : ∀ i (hi : i < ps.length), h < i → x.toList < ps[i].toList := fun i hi k => by rw [← hx]; exact HS.out h i hhl hi k
      have HLT : Hid (Op.bytesLess x.toList k.toList = true → ∀ i (hi : i < ps.length), i < h + 1 → ps[i].toList < k.toList) := Lib.hid (fun e i hi hlt => by
        rw [bytesLess_eq] at e
        have e := of_decide_eq_true e
        rcases Nat.lt_or_ge i h with g | g
        · exact List.lt_trans (hlo i hi g) e
        · obtain rfl : i = h := by omega
          rw [hx]; exact e)
      have HGE : Hid (Op.bytesLess x.toList k.toList = false → ∀ i (hi : i < ps.length), h ≤ i → ¬ ps[i].toList < k.toList) := Lib.hid (fun e i hi hle hl => by
        rw [bytesLess_eq] at e
        have e := of_decide_eq_false e
        rcases Nat.lt_or_ge h i with g | g
        · exact e (List.lt_trans (hup i hi g) hl)
        · obtain rfl : i = h := by omega
          rw [hx] at hl; exact e hl)
      have HX := Lib.hid (less_any x k)
      generalize Op.bytesLess x.toList k.toList = z at *
      clear hlo hup hx
      go_wp2_with fail
      refine (HX.out _).mono ?_
      rintro e w' ⟨rfl, rfl⟩
      cases z with
      | true =>
        have g1 := Lib.hid (HLT.out rfl)
        clear HLT HGE h1
        go_wp2
        go_round
        case rel => exact ⟨h + 1, q, by rw [← hh]; go_num, rfl, by omega, by omega, g1, h2⟩
        case measure => simp [intOf]; omega
      | false =>
        have g2 := Lib.hid (HGE.out rfl)
        clear HLT HGE h2
        go_wp2
        go_round
        case rel => exact ⟨p, h, rfl, by rw [← hh]; go_num, by omega, by omega, h1, g2⟩
        case measure => simp [intOf]; omega
    · obtain rfl : p = q := by omega
      have HN := Lib.hid nan2_any
      by_cases hpn : p < n
      · have hpl : p < ps.length := by omega
        obtain ⟨a, rfl, hc⟩ := HA.out.2 p hpl
        have hg : ps[p]? = some ps[p] := List.getElem?_eq_getElem hpl
        obtain ⟨x, hx⟩ : ∃ x, ps[p] = x := ⟨_, rfl⟩
        rw [hx] at hc hg
        have Hg := Lib.hid hg
        clear hx hg
        rcases str_ways x k with ⟨hw, f1, f2, f3, f4⟩ | rfl | ⟨hw, f1, f2, f3, f4⟩
        · have hne : Hid (decide (ps[p]? = some k) = false) := Lib.hid (decide_eq_false (fun e => by rw [Hg.out] at e; cases e; exact List.lt_irrefl _ hw))
          clear hw
          go_wp2_with fail
          refine (HN.out _ _).mono ?_
          rintro e w' ⟨rfl, rfl⟩
          go_wp2
          go_ret2
          exact ⟨⟨p, hqn, by rw [hne.out]; rfl, fun i _ g => h1.out i (by omega) g, fun i _ g => h2.out i (by omega) g⟩, rfl⟩
        · have hne : Hid (decide (ps[p]? = some x) = true) := Lib.hid (decide_eq_true Hg.out)
          go_wp2
          go_ret2
          exact ⟨⟨p, hqn, by rw [hne.out]; rfl, fun i _ g => h1.out i (by omega) g, fun i _ g => h2.out i (by omega) g⟩, rfl⟩
        · have hne : Hid (decide (ps[p]? = some k) = false) := Lib.hid (decide_eq_false (fun e => by rw [Hg.out] at e; cases e; exact List.lt_irrefl _ hw))
          clear hw
          go_wp2_with fail
          refine (HN.out _ _).mono ?_
          rintro e w' ⟨rfl, rfl⟩
          go_wp2
          go_ret2
          exact ⟨⟨p, hqn, by rw [hne.out]; rfl, fun i _ g => h1.out i (by omega) g, fun i _ g => h2.out i (by omega) g⟩, rfl⟩
      · obtain rfl : p = n := by omega
        have hne : Hid (decide (ps[p]? = some k) = false) := Lib.hid (decide_eq_false (fun e => by rw [List.getElem?_eq_none (by omega)] at e; cases e))
        go_wp2
        go_ret2
        exact ⟨⟨p, Nat.le_refl _, by rw [hne.out]; rfl, fun i _ g => h1.out i (by omega) g, fun i _ g => h2.out i (by omega) g⟩, rfl⟩
end Val
end Go.Proofs.YtegfcmnbljdcpaaGreatDoor
