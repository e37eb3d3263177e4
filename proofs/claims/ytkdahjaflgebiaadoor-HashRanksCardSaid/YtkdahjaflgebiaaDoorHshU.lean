/-
  The reference's Rendezvous; what both answer, at every list.
-/
import Derived.Test.YtkdahjaflgebiaaDoorHshQ
namespace Go.Proofs.YtkdahjaflgebiaaDoor
open Go.RowKit
namespace Hsh

set_option maxHeartbeats 4000000 in
theorem rrv_ok (o : Option Addr) (n c : Nat) (xs : List ByteArray) (key : ByteArray) (h1 : 1 ≤ n) (hn : n ≤ 64) (hx : ∀ x ∈ xs, x.size ≤ 400) (hkey : key.size ≤ 400) (w : World) (hL : Lad w) (hA : SlArg w o n xs) :
    Calls Tryd.prog 23 #[.string key, .slice o n c] w fun e w' => e = .returned (.tuple #[.int .i64 (bst (sco xs key) n : Int), .int .i64 0]) ∧ Bel w w' := by
  have HA := Lib.hid hA
  have hlen := hA.1
  have HL := Lib.hid hL
  clear hA hL
  have e0 : ((n : Int) == 0) = false := by simp; omega
  have e1 : (64 < (n : Int)) = False := eq_false (by omega)
  have hb1 := Lib.hid (bst_one (sco xs key))
  go_enter Tryd.func23, Tryd.ntmps23
  go_wp2
  go_loopw [6, 7] (fun b i wr => ∃ k : Nat, 1 ≤ k ∧ k ≤ n ∧ b = .int .i64 (bst (sco xs key) k : Int) ∧ i = .int .i64 (k : Int) ∧ Hid (Bel w wr)) (fun _ i _ => n - (intOf i).toNat)
  case atStart => exact ⟨1, Nat.le_refl _, h1, by rw [hb1.out]; rfl, rfl, Lib.hid (Bel.refl _)⟩
  case round =>
    obtain ⟨k, hk1, hk, rfl, rfl, hb⟩ := hrel
    rename World => W0
    clear hb1
    by_cases hlt : k < n
    · have hbk := bst_lt (sco xs key) k (by omega)
      have hkx : k < xs.length := by omega
      have hbx : bst (sco xs key) k < xs.length := by omega
      obtain ⟨p, hp, hc⟩ := (HA.out.on hb.out).2 k hkx
      obtain ⟨p', hp', hd⟩ := (HA.out.on hb.out).2 _ hbx
      subst hp
      obtain rfl := Option.some.inj hp'
      clear hp'
      have hst : Hid (bst (sco xs key) (k + 1) = if sco xs key (bst (sco xs key) k) < sco xs key k then k else bst (sco xs key) k) := Lib.hid (by
        rw [bst]
        have : lt (sco xs key) k (bst (sco xs key) k) = decide (sco xs key (bst (sco xs key) k) < sco xs key k) := by
          unfold lt
          congr 1
          exact propext ⟨fun h => by omega, fun h => Or.inl h⟩
        rw [this]
        simp only [decide_eq_true_eq])
      have s1 := sco_at (key := key) hkx
      have s2 := sco_at (key := key) hbx
      have c1 := fun W h => score_any xs[k] key (hx _ (List.getElem_mem hkx)) hkey W h
      have c2 := fun W h => score_any (xs[bst (sco xs key) k]) key (hx _ (List.getElem_mem hbx)) hkey W h
      rw [← s1] at c1
      rw [← s2] at c2
      obtain ⟨x, hxe⟩ : ∃ x, xs[k] = x := ⟨_, rfl⟩
      obtain ⟨y, hye⟩ : ∃ y, xs[bst (sco xs key) k] = y := ⟨_, rfl⟩
      rw [hxe] at hc c1
      rw [hye] at hd c2
      clear hxe hye s1 s2
      obtain ⟨b, hbe⟩ : ∃ b, bst (sco xs key) k = b := ⟨_, rfl⟩
      rw [hbe] at hd hst hbk hbx c2 ⊢
      obtain ⟨v, hv⟩ : ∃ v, sco xs key k = v := ⟨_, rfl⟩
      obtain ⟨u, hu⟩ : ∃ u, sco xs key b = u := ⟨_, rfl⟩
      rw [hv] at c1 hst
      rw [hu] at c2 hst
      have C1 := Lib.hid c1
      have C2 := Lib.hid c2
      have G := hb.out
      clear c1 c2 hv hu hbe hb
      have i1 : (k : Int) < 64 := by omega
      have i2 : (k : Int) < (n : Int) := by omega
      have i3 : (b : Int) < (n : Int) := by omega
      by_cases hgt : u < v
      · have hs2 : Hid (bst (sco xs key) (k + 1) = k) := Lib.hid (by rw [hst.out, if_pos hgt])
        clear hst
        go_upto_region 9 with (fail)
        go_region_held3 (fun w' => w'.cell? (p.add k) = some (.string x) ∧ w'.cell? (p.add b) = some (.string y) ∧ Bel w w') (first | exact ⟨h1, h2, h3⟩ | exact ⟨hc, hd, Below.drew G⟩) (first | (go_at_call 35; (with_reducible refine (scoreS x key v C1 w _ HL (p.add k) (p.add b) x y ?_ ?_ ?_).mono ?_); (first | assumption | exact hc); (first | assumption | exact hd); (first | assumption | exact Below.drew G); rintro e w' ⟨rfl, h1, h2, h3⟩) | (go_at_call 35; (with_reducible refine (scoreS y key u C2 w _ HL (p.add k) (p.add b) x y ?_ ?_ ?_).mono ?_); (first | assumption | exact hc); (first | assumption | exact hd); (first | assumption | exact Below.drew G); rintro e w' ⟨rfl, h1, h2, h3⟩))
        all_goals
          clear i1 i2 i3
          go_wp2_with fail
          go_round
          case rel => exact ⟨k + 1, by omega, by omega, by rw [hs2.out], by go_num, Lib.hid h3⟩
          case measure => simp [intOf]; omega
      · have hs2 : Hid (bst (sco xs key) (k + 1) = b) := Lib.hid (by rw [hst.out, if_neg hgt])
        have hgt' : v ≤ u := by omega
        clear hst hgt
        go_upto_region 9 with (fail)
        go_region_held3 (fun w' => w'.cell? (p.add k) = some (.string x) ∧ w'.cell? (p.add b) = some (.string y) ∧ Bel w w') (first | exact ⟨h1, h2, h3⟩ | exact ⟨hc, hd, Below.drew G⟩) (first | (go_at_call 35; (with_reducible refine (scoreS x key v C1 w _ HL (p.add k) (p.add b) x y ?_ ?_ ?_).mono ?_); (first | assumption | exact hc); (first | assumption | exact hd); (first | assumption | exact Below.drew G); rintro e w' ⟨rfl, h1, h2, h3⟩) | (go_at_call 35; (with_reducible refine (scoreS y key u C2 w _ HL (p.add k) (p.add b) x y ?_ ?_ ?_).mono ?_); (first | assumption | exact hc); (first | assumption | exact hd); (first | assumption | exact Below.drew G); rintro e w' ⟨rfl, h1, h2, h3⟩))
        all_goals
          clear i1 i2 i3
          go_wp2_with fail
          go_round
          case rel => exact ⟨k + 1, by omega, by omega, by rw [hs2.out], by go_num, Lib.hid h3⟩
          case measure => simp [intOf]; omega
    · obtain rfl : k = n := by omega
      go_wp2
      go_ret2
      exact ⟨rfl, hb.out⟩
end Hsh
end Go.Proofs.YtkdahjaflgebiaaDoor
