/-
  Layer 8, texts merged: SqD, SqE, SqF. For every argument within the bounds that each theorem names.
-/
import Derived.Test.YtmifookckpelaaaGreatDoorMJ1
import Derived.Test.YtmifookckpelaaaGreatDoorMG3
import Derived.Test.YtmifookckpelaaaGreatDoorMG5
import Derived.Test.YtmifookckpelaaaGreatDoorMG4

/-
 Layer 8, the reference: fields, at a map.
-/
namespace Go.Proofs.YtmifookckpelaaaGreatDoor
open Go.RowKit Go.ChangeShapes Go.WideShapes
namespace Syn
set_option maxRecDepth 100000 in
set_option maxHeartbeats 8000000 in
theorem rfld_7 (s : Txt) (i : Int) (ko jo : Option Addr) (kn kc jn jc : Nat) (ks : List Txt) (hkn : kn ≤ 4611686018427387904) (hks : ∀ t ∈ ks, t.length ≤ 140737488355328) (w : World) (hA : KArg w ko kn ks) :
  Calls Tryz.prog 100 #[.agg #[.int .i64 7, .string ⟨s.toArray⟩, .int .i64 i, .slice ko kn kc, .slice jo jn jc]] w fun e w' => e = .returned (.bool (intF 7 i && (textB 7 s && keysB 7 ks jn))) ∧ Bel w w' := by
 have hl : ks.length = kn := by have := hA.1; rw [List.length_map] at this; exact this
 have HB0 := Lib.hid (Bel.alloc (Bel.refl w) (.cells #[.int .i64 7, .string ⟨s.toArray⟩, .int .i64 i, .slice ko kn kc, .slice jo jn jc] 60))
 by_cases hi0 : i ≠ 0
 ·have hib : (i != 0) = true := by simpa using hi0
  rw [show intF 7 i = false by unfold intF; rw [if_neg (by decide), if_neg (by decide)]; simpa using hi0, Bool.false_and]
  clear hA
  go_enter Tryz.func100, Tryz.ntmps100
  go_wp2_with fail
  go_ret
  exact ⟨rfl, HB0.out⟩
 obtain rfl : i = 0 := by omega
 rw [show intF 7 0 = true from rfl, Bool.true_and]
 by_cases he : s ≠ []
 ·have heb : (s != []) = true := by simpa using he
  have heb2 : (s == []) = false := by simpa using he
  have heb3 : s.isEmpty = false := by cases s with | nil => exact absurd rfl he | cons => rfl
  rw [show textB 7 s = s.isEmpty from rfl, heb3, Bool.false_and]
  clear hA
  go_enter Tryz.func100, Tryz.ntmps100
  go_wp2_with fail
  go_ret
  exact ⟨rfl, HB0.out⟩
 obtain rfl : s = [] := by simpa using he
 rw [show textB 7 [] = true from rfl, Bool.true_and]
 clear he
 obtain ⟨X, hX⟩ : ∃ X, ascB none ks = X := ⟨_, rfl⟩
 rw [show keysB 7 ks jn = (((kn : Int) == (jn : Int)) && X) by unfold keysB; rw [if_pos rfl, hl, hX, Bool.eq_iff_iff]; simp; intro _; omega]
 obtain ⟨W, hW⟩ : ∃ W, w.alloc (.cells #[.int .i64 7, .string ⟨([] : Txt).toArray⟩, .int .i64 0, .slice ko kn kc, .slice jo jn jc] 60) = W := ⟨_, rfl⟩
 have B : Bel w W := by rw [← hW]; exact Bel.alloc (Bel.refl w) _
 have y3 : W.cell? ⟨w.heap.size, 3, none⟩ = some (.slice ko kn kc) := by rw [← hW]; exact (box5 w _ _ _ _ _ _).2.2.2.1
 have y4 : W.cell? ⟨w.heap.size, 4, none⟩ = some (.slice jo jn jc) := by rw [← hW]; exact (box5 w _ _ _ _ _ _).2.2.2.2
 have HW := Lib.hid hW
 have HY := Lib.hid y3
 have HY4 := Lib.hid y4
 have HB := Lib.hid B
 have HX := Lib.hid hX
 have HL := Lib.hid hl
 clear hW
 by_cases h0 : kn = 0
 ·have hz : Hid (X = true) := Lib.hid (by
   have e : ks = [] := List.eq_nil_of_length_eq_zero (by omega)
   rw [← HX.out, e]
   rfl)
  subst h0
  clear hA hX hl B
  go_enter Tryz.func100, Tryz.ntmps100
  go_wp2_with fail
  go_loopw [5] (fun iv wr => iv = .int .i64 0 ∧ wr = W) (fun _ _ => 0)
  case atStart => exact ⟨rfl, HW.out⟩
  case round =>
   obtain ⟨rfl, rfl⟩ := hrel
   go_wp2
   go_ret
   exact ⟨by rw [hz.out]; simp, HB.out⟩
 ·obtain ⟨b, off, rfl, hc⟩ := sl_addr hA (by omega)
  have hc' : ∀ j (h : j < ks.length), w.cell? ⟨b, off + j, none⟩ = some (.string ⟨ks[j].toArray⟩) := fun j h => by
   rw [hc j (by rw [List.length_map]; exact h)]
   simp [bz, List.getElem?_eq_getElem h]
  have HC := Lib.hid hc'
  have HK := Lib.hid hks
  have hn0 : (0 : Int) < (kn : Int) := by omega
  clear hA hX hl B hc hc' hks
  go_enter Tryz.func100, Tryz.ntmps100
  go_wp2_with fail
  go_loopw [5] (fun iv wr => ∃ j : Nat, iv = .int .i64 (j : Int) ∧ j ≤ kn ∧ Hid (ascB (prevK ks j) (ks.drop j) = X) ∧ Hid (Bel W wr)) (fun iv _ => kn - (intOf iv).toNat)
  case atStart => exact ⟨0, rfl, Nat.zero_le _, HX, Lib.hid (by rw [HW.out]; exact Bel.refl _)⟩
  case round =>
   obtain ⟨j, rfl, hj, HM, HBr⟩ := hrel
   rename World => wr
   have y3 := HBr.out.cell' HY.out
   have y4 := HBr.out.cell' HY4.out
   rcases Nat.lt_or_ge j kn with hjn | hjn
   ·have hjl : j < ks.length := by rw [HL.out]; exact hjn
    have c0 := (Bel.trans HB.out HBr.out).cell' (HC.out j hjl)
    have HSj := Lib.hid (fun V => rstr_any ks[j] (HK.out _ (List.getElem_mem hjl)) V)
    cases hs : strB ks[j] with
    | false =>
     rw [hs] at HSj
     have hz := Lib.hid (asc_no hjl HM.out hs)
     generalize ks[j] = t at *
     clear hs
     go_wp2_with fail
     have HSj2 := Lib.hid (show ∀ W, W.cell? ⟨w.heap.size, 3, none⟩ = some (.slice (some ⟨b, off, none⟩) kn kc) ∧ W.cell? ⟨w.heap.size, 4, none⟩ = some (.slice jo jn jc) ∧ W.cell? ⟨b, off + j, none⟩ = some (.string ⟨t.toArray⟩) ∧ Bel wr W → Calls Tryz.prog 156 #[.string ⟨t.toArray⟩] W fun e w' => e = .returned (.bool false) ∧ w'.cell? ⟨w.heap.size, 3, none⟩ = some (.slice (some ⟨b, off, none⟩) kn kc) ∧ w'.cell? ⟨w.heap.size, 4, none⟩ = some (.slice jo jn jc) ∧ w'.cell? ⟨b, off + j, none⟩ = some (.string ⟨t.toArray⟩) ∧ Bel wr w' from fun W hS => (HSj.out W).mono fun e w' k => ⟨k.1, k.2.cell' hS.1, k.2.cell' hS.2.1, k.2.cell' hS.2.2.1, Bel.trans hS.2.2.2 k.2⟩)
     refine wp_region_held_drew (S := fun W => W.cell? ⟨w.heap.size, 3, none⟩ = some (.slice (some ⟨b, off, none⟩) kn kc) ∧ W.cell? ⟨w.heap.size, 4, none⟩ = some (.slice jo jn jc) ∧ W.cell? ⟨b, off + j, none⟩ = some (.string ⟨t.toArray⟩) ∧ Bel wr W) (by kernel_rfl) ⟨y3, y4, c0, Below.drew (Bel.refl _)⟩ (fun hH => ?_)
     refine take_yes (i := 0) (d := 121) (v := ?_) rfl rfl (by kernel_rfl) (by kernel_rfl) (by kernel_rfl) (fun _ _ _ h => h) (by rfl) ?_ (by assumption) ?_
     rotate_left 1
     ·intro w hSw
      obtain ⟨z0, z1, z2, z3⟩ := hSw
      go_simp
      with_reducible rfl
     try simp only [Act.put, List.setIfInBounds_toArray, List.set_cons_zero, List.set_cons_succ]
     refine take_yes (i := 1) (d := 122) (v := ?_) rfl rfl (by kernel_rfl) (by kernel_rfl) (by kernel_rfl) (fun _ _ _ h => h) (by rfl) ?_ (by assumption) ?_
     rotate_left 1
     ·intro w hSw
      obtain ⟨z0, z1, z2, z3⟩ := hSw
      go_simp
      with_reducible rfl
     try simp only [Act.put, List.setIfInBounds_toArray, List.set_cons_zero, List.set_cons_succ]
     refine take_yes (i := 2) (d := 123) (v := ?_) rfl rfl (by kernel_rfl) (by kernel_rfl) (by kernel_rfl) (fun _ _ _ h => h) (by rfl) ?_ (by assumption) ?_
     rotate_left 1
     ·intro w hSw
      obtain ⟨z0, z1, z2, z3⟩ := hSw
      go_simp
      with_reducible rfl
     try simp only [Act.put, List.setIfInBounds_toArray, List.set_cons_zero, List.set_cons_succ]
     refine take_yes (i := 3) (d := 124) (v := ?_) rfl rfl (by kernel_rfl) (by kernel_rfl) (by kernel_rfl) (fun _ _ _ h => h) (by rfl) ?_ (by assumption) ?_
     rotate_left 1
     ·intro w hSw
      obtain ⟨z0, z1, z2, z3⟩ := hSw
      go_simp
      with_reducible rfl
     try simp only [Act.put, List.setIfInBounds_toArray, List.set_cons_zero, List.set_cons_succ]
     refine take_yes (i := 4) (d := 125) (v := ?_) rfl rfl (by kernel_rfl) (by kernel_rfl) (by kernel_rfl) (fun _ _ _ h => h) (by rfl) ?_ (by assumption) ?_
     rotate_left 1
     ·intro w hSw
      obtain ⟨z0, z1, z2, z3⟩ := hSw
      go_simp
      with_reducible rfl
     try simp only [Act.put, List.setIfInBounds_toArray, List.set_cons_zero, List.set_cons_succ]
     refine wpAnyH_ready (rs := [5]) (by kernel_rfl) (by simp) ?_
     refine AllReadyH.cons rfl (fun K hK => ?_) AllReadyH.nil
     go_simp
     refine (HSj2.out _ hH).mono ?_
     rintro e w8 ⟨rfl, hG⟩
     clear hH
     refine hK.out _ _ hG (fun hH => ?_)
     clear hK K hG
     try simp only [Act.put, List.setIfInBounds_toArray, List.set_cons_zero, List.set_cons_succ]
     refine take_yes (i := 6) (d := 127) (v := ?_) rfl rfl (by kernel_rfl) (by kernel_rfl) (by kernel_rfl) (fun _ _ _ h => h) (by rfl) ?_ (by assumption) ?_
     rotate_left 1
     ·intro w hSw
      obtain ⟨z0, z1, z2, z3⟩ := hSw
      go_simp
      with_reducible rfl
     try simp only [Act.put, List.setIfInBounds_toArray, List.set_cons_zero, List.set_cons_succ]
     refine take_yes (i := 7) (d := 128) (v := ?_) rfl rfl (by kernel_rfl) (by kernel_rfl) (by kernel_rfl) (fun _ _ _ h => h) (by rfl) ?_ (by assumption) ?_
     rotate_left 1
     ·intro w hSw
      obtain ⟨z0, z1, z2, z3⟩ := hSw
      go_simp
      with_reducible rfl
     try simp only [Act.put, List.setIfInBounds_toArray, List.set_cons_zero, List.set_cons_succ]
     refine take_not (i := 8) (d := 129) rfl rfl (by kernel_rfl) (by kernel_rfl) (by kernel_rfl) (fun _ _ _ h => h) (by rfl) (by assumption) ?_
     try simp only [Act.put, List.setIfInBounds_toArray, List.set_cons_zero, List.set_cons_succ]
     refine take_not (i := 9) (d := 130) rfl rfl (by kernel_rfl) (by kernel_rfl) (by kernel_rfl) (fun _ _ _ h => h) (by rfl) (by assumption) ?_
     try simp only [Act.put, List.setIfInBounds_toArray, List.set_cons_zero, List.set_cons_succ]
     refine take_not (i := 10) (d := 131) rfl rfl (by kernel_rfl) (by kernel_rfl) (by kernel_rfl) (fun _ _ _ h => h) (by rfl) (by assumption) ?_
     try simp only [Act.put, List.setIfInBounds_toArray, List.set_cons_zero, List.set_cons_succ]
     refine take_not (i := 11) (d := 132) rfl rfl (by kernel_rfl) (by kernel_rfl) (by kernel_rfl) (fun _ _ _ h => h) (by rfl) (by assumption) ?_
     try simp only [Act.put, List.setIfInBounds_toArray, List.set_cons_zero, List.set_cons_succ]
     refine take_not (i := 12) (d := 133) rfl rfl (by kernel_rfl) (by kernel_rfl) (by kernel_rfl) (fun _ _ _ h => h) (by rfl) (by assumption) ?_
     try simp only [Act.put, List.setIfInBounds_toArray, List.set_cons_zero, List.set_cons_succ]
     refine take_not (i := 13) (d := 134) rfl rfl (by kernel_rfl) (by kernel_rfl) (by kernel_rfl) (fun _ _ _ h => h) (by rfl) (by assumption) ?_
     try simp only [Act.put, List.setIfInBounds_toArray, List.set_cons_zero, List.set_cons_succ]
     refine take_not (i := 14) (d := 135) rfl rfl (by kernel_rfl) (by kernel_rfl) (by kernel_rfl) (fun _ _ _ h => h) (by rfl) (by assumption) ?_
     try simp only [Act.put, List.setIfInBounds_toArray, List.set_cons_zero, List.set_cons_succ]
     refine take_not (i := 15) (d := 136) rfl rfl (by kernel_rfl) (by kernel_rfl) (by kernel_rfl) (fun _ _ _ h => h) (by rfl) (by assumption) ?_
     try simp only [Act.put, List.setIfInBounds_toArray, List.set_cons_zero, List.set_cons_succ]
     refine take_not (i := 16) (d := 137) rfl rfl (by kernel_rfl) (by kernel_rfl) (by kernel_rfl) (fun _ _ _ h => h) (by rfl) (by assumption) ?_
     try simp only [Act.put, List.setIfInBounds_toArray, List.set_cons_zero, List.set_cons_succ]
     refine take_not (i := 17) (d := 138) rfl rfl (by kernel_rfl) (by kernel_rfl) (by kernel_rfl) (fun _ _ _ h => h) (by rfl) (by assumption) ?_
     try simp only [Act.put, List.setIfInBounds_toArray, List.set_cons_zero, List.set_cons_succ]
     refine take_not (i := 18) (d := 139) rfl rfl (by kernel_rfl) (by kernel_rfl) (by kernel_rfl) (fun _ _ _ h => h) (by rfl) (by assumption) ?_
     try simp only [Act.put, List.setIfInBounds_toArray, List.set_cons_zero, List.set_cons_succ]
     refine take_not (i := 19) (d := 140) rfl rfl (by kernel_rfl) (by kernel_rfl) (by kernel_rfl) (fun _ _ _ h => h) (by rfl) (by assumption) ?_
     try simp only [Act.put, List.setIfInBounds_toArray, List.set_cons_zero, List.set_cons_succ]
     refine take_not (i := 20) (d := 141) rfl rfl (by kernel_rfl) (by kernel_rfl) (by kernel_rfl) (fun _ _ _ h => h) (by rfl) (by assumption) ?_
     try simp only [Act.put, List.setIfInBounds_toArray, List.set_cons_zero, List.set_cons_succ]
     refine take_not (i := 21) (d := 142) rfl rfl (by kernel_rfl) (by kernel_rfl) (by kernel_rfl) (fun _ _ _ h => h) (by rfl) (by assumption) ?_
     try simp only [Act.put, List.setIfInBounds_toArray, List.set_cons_zero, List.set_cons_succ]
     refine take_not (i := 22) (d := 143) rfl rfl (by kernel_rfl) (by kernel_rfl) (by kernel_rfl) (fun _ _ _ h => h) (by rfl) (by assumption) ?_
     try simp only [Act.put, List.setIfInBounds_toArray, List.set_cons_zero, List.set_cons_succ]
     refine take_not (i := 23) (d := 144) rfl rfl (by kernel_rfl) (by kernel_rfl) (by kernel_rfl) (fun _ _ _ h => h) (by rfl) (by assumption) ?_
     try simp only [Act.put, List.setIfInBounds_toArray, List.set_cons_zero, List.set_cons_succ]
     refine take_yes (i := 24) (d := 145) (v := ?_) rfl rfl (by kernel_rfl) (by kernel_rfl) (by kernel_rfl) (fun _ _ _ h => h) (by rfl) ?_ (by assumption) ?_
     rotate_left 1
     ·intro w hSw
      obtain ⟨z0, z1, z2, z3⟩ := hSw
      go_simp
      with_reducible rfl
     try simp only [Act.put, List.setIfInBounds_toArray, List.set_cons_zero, List.set_cons_succ]
     refine wpAnyH_done (by kernel_rfl) ?_ _
     obtain ⟨a0, a1, a2, a3⟩ := hH
     have G := a3
     go_wp2_with fail
     go_ret
     exact ⟨by rw [hz.out]; simp, Bel.trans HB.out (Bel.trans HBr.out G)⟩
    | true =>
     rw [hs] at HSj
     cases j with
     | zero =>
      have hM2 := Lib.hid (asc_first hjl HM.out hs)
      rw [Nat.add_zero] at c0
      generalize ks[0] = t at *
      clear hs
      go_wp2_with fail
      have HSj2 := Lib.hid (show ∀ W, W.cell? ⟨w.heap.size, 3, none⟩ = some (.slice (some ⟨b, off, none⟩) kn kc) ∧ W.cell? ⟨w.heap.size, 4, none⟩ = some (.slice jo jn jc) ∧ W.cell? ⟨b, off, none⟩ = some (.string ⟨t.toArray⟩) ∧ Bel wr W → Calls Tryz.prog 156 #[.string ⟨t.toArray⟩] W fun e w' => e = .returned (.bool true) ∧ w'.cell? ⟨w.heap.size, 3, none⟩ = some (.slice (some ⟨b, off, none⟩) kn kc) ∧ w'.cell? ⟨w.heap.size, 4, none⟩ = some (.slice jo jn jc) ∧ w'.cell? ⟨b, off, none⟩ = some (.string ⟨t.toArray⟩) ∧ Bel wr w' from fun W hS => (HSj.out W).mono fun e w' k => ⟨k.1, k.2.cell' hS.1, k.2.cell' hS.2.1, k.2.cell' hS.2.2.1, Bel.trans hS.2.2.2 k.2⟩)
      refine wp_region_held_drew (S := fun W => W.cell? ⟨w.heap.size, 3, none⟩ = some (.slice (some ⟨b, off, none⟩) kn kc) ∧ W.cell? ⟨w.heap.size, 4, none⟩ = some (.slice jo jn jc) ∧ W.cell? ⟨b, off, none⟩ = some (.string ⟨t.toArray⟩) ∧ Bel wr W) (by kernel_rfl) ⟨y3, y4, c0, Below.drew (Bel.refl _)⟩ (fun hH => ?_)
      refine take_yes (i := 0) (d := 121) (v := ?_) rfl rfl (by kernel_rfl) (by kernel_rfl) (by kernel_rfl) (fun _ _ _ h => h) (by rfl) ?_ (by assumption) ?_
      rotate_left 1
      ·intro w hSw
       obtain ⟨z0, z1, z2, z3⟩ := hSw
       go_simp
       with_reducible rfl
      try simp only [Act.put, List.setIfInBounds_toArray, List.set_cons_zero, List.set_cons_succ]
      refine take_yes (i := 1) (d := 122) (v := ?_) rfl rfl (by kernel_rfl) (by kernel_rfl) (by kernel_rfl) (fun _ _ _ h => h) (by rfl) ?_ (by assumption) ?_
      rotate_left 1
      ·intro w hSw
       obtain ⟨z0, z1, z2, z3⟩ := hSw
       go_simp
       with_reducible rfl
      try simp only [Act.put, List.setIfInBounds_toArray, List.set_cons_zero, List.set_cons_succ]
      refine take_yes (i := 2) (d := 123) (v := ?_) rfl rfl (by kernel_rfl) (by kernel_rfl) (by kernel_rfl) (fun _ _ _ h => h) (by rfl) ?_ (by assumption) ?_
      rotate_left 1
      ·intro w hSw
       obtain ⟨z0, z1, z2, z3⟩ := hSw
       go_simp
       with_reducible rfl
      try simp only [Act.put, List.setIfInBounds_toArray, List.set_cons_zero, List.set_cons_succ]
      refine take_yes (i := 3) (d := 124) (v := ?_) rfl rfl (by kernel_rfl) (by kernel_rfl) (by kernel_rfl) (fun _ _ _ h => h) (by rfl) ?_ (by assumption) ?_
      rotate_left 1
      ·intro w hSw
       obtain ⟨z0, z1, z2, z3⟩ := hSw
       go_simp
       with_reducible rfl
      try simp only [Act.put, List.setIfInBounds_toArray, List.set_cons_zero, List.set_cons_succ]
      refine take_yes (i := 4) (d := 125) (v := ?_) rfl rfl (by kernel_rfl) (by kernel_rfl) (by kernel_rfl) (fun _ _ _ h => h) (by rfl) ?_ (by assumption) ?_
      rotate_left 1
      ·intro w hSw
       obtain ⟨z0, z1, z2, z3⟩ := hSw
       go_simp
       with_reducible rfl
      try simp only [Act.put, List.setIfInBounds_toArray, List.set_cons_zero, List.set_cons_succ]
      refine wpAnyH_ready (rs := [5]) (by kernel_rfl) (by simp) ?_
      refine AllReadyH.cons rfl (fun K hK => ?_) AllReadyH.nil
      go_simp
      refine (HSj2.out _ hH).mono ?_
      rintro e w8 ⟨rfl, hG⟩
      clear hH
      refine hK.out _ _ hG (fun hH => ?_)
      clear hK K hG
      try simp only [Act.put, List.setIfInBounds_toArray, List.set_cons_zero, List.set_cons_succ]
      refine take_yes (i := 6) (d := 127) (v := ?_) rfl rfl (by kernel_rfl) (by kernel_rfl) (by kernel_rfl) (fun _ _ _ h => h) (by rfl) ?_ (by assumption) ?_
      rotate_left 1
      ·intro w hSw
       obtain ⟨z0, z1, z2, z3⟩ := hSw
       go_simp
       with_reducible rfl
      try simp only [Act.put, List.setIfInBounds_toArray, List.set_cons_zero, List.set_cons_succ]
      refine take_yes (i := 7) (d := 128) (v := ?_) rfl rfl (by kernel_rfl) (by kernel_rfl) (by kernel_rfl) (fun _ _ _ h => h) (by rfl) ?_ (by assumption) ?_
      rotate_left 1
      ·intro w hSw
       obtain ⟨z0, z1, z2, z3⟩ := hSw
       go_simp
       with_reducible rfl
      try simp only [Act.put, List.setIfInBounds_toArray, List.set_cons_zero, List.set_cons_succ]
      refine take_yes (i := 8) (d := 129) (v := ?_) rfl rfl (by kernel_rfl) (by kernel_rfl) (by kernel_rfl) (fun _ _ _ h => h) (by rfl) ?_ (by assumption) ?_
      rotate_left 1
      ·intro w hSw
       obtain ⟨z0, z1, z2, z3⟩ := hSw
       go_simp
       with_reducible rfl
      try simp only [Act.put, List.setIfInBounds_toArray, List.set_cons_zero, List.set_cons_succ]
      refine take_yes (i := 9) (d := 130) (v := ?_) rfl rfl (by kernel_rfl) (by kernel_rfl) (by kernel_rfl) (fun _ _ _ h => h) (by rfl) ?_ (by assumption) ?_
      rotate_left 1
      ·intro w hSw
       obtain ⟨z0, z1, z2, z3⟩ := hSw
       go_simp
       with_reducible rfl
      try simp only [Act.put, List.setIfInBounds_toArray, List.set_cons_zero, List.set_cons_succ]
      refine take_yes (i := 10) (d := 131) (v := ?_) rfl rfl (by kernel_rfl) (by kernel_rfl) (by kernel_rfl) (fun _ _ _ h => h) (by rfl) ?_ (by assumption) ?_
      rotate_left 1
      ·intro w hSw
       obtain ⟨z0, z1, z2, z3⟩ := hSw
       go_simp
       with_reducible rfl
      try simp only [Act.put, List.setIfInBounds_toArray, List.set_cons_zero, List.set_cons_succ]
      refine take_not (i := 11) (d := 132) rfl rfl (by kernel_rfl) (by kernel_rfl) (by kernel_rfl) (fun _ _ _ h => h) (by rfl) (by assumption) ?_
      try simp only [Act.put, List.setIfInBounds_toArray, List.set_cons_zero, List.set_cons_succ]
      refine take_not (i := 12) (d := 133) rfl rfl (by kernel_rfl) (by kernel_rfl) (by kernel_rfl) (fun _ _ _ h => h) (by rfl) (by assumption) ?_
      try simp only [Act.put, List.setIfInBounds_toArray, List.set_cons_zero, List.set_cons_succ]
      refine take_not (i := 13) (d := 134) rfl rfl (by kernel_rfl) (by kernel_rfl) (by kernel_rfl) (fun _ _ _ h => h) (by rfl) (by assumption) ?_
      try simp only [Act.put, List.setIfInBounds_toArray, List.set_cons_zero, List.set_cons_succ]
      refine take_not (i := 14) (d := 135) rfl rfl (by kernel_rfl) (by kernel_rfl) (by kernel_rfl) (fun _ _ _ h => h) (by rfl) (by assumption) ?_
      try simp only [Act.put, List.setIfInBounds_toArray, List.set_cons_zero, List.set_cons_succ]
      refine take_not (i := 15) (d := 136) rfl rfl (by kernel_rfl) (by kernel_rfl) (by kernel_rfl) (fun _ _ _ h => h) (by rfl) (by assumption) ?_
      try simp only [Act.put, List.setIfInBounds_toArray, List.set_cons_zero, List.set_cons_succ]
      refine take_not (i := 16) (d := 137) rfl rfl (by kernel_rfl) (by kernel_rfl) (by kernel_rfl) (fun _ _ _ h => h) (by rfl) (by assumption) ?_
      try simp only [Act.put, List.setIfInBounds_toArray, List.set_cons_zero, List.set_cons_succ]
      refine take_not (i := 17) (d := 138) rfl rfl (by kernel_rfl) (by kernel_rfl) (by kernel_rfl) (fun _ _ _ h => h) (by rfl) (by assumption) ?_
      try simp only [Act.put, List.setIfInBounds_toArray, List.set_cons_zero, List.set_cons_succ]
      refine take_not (i := 18) (d := 139) rfl rfl (by kernel_rfl) (by kernel_rfl) (by kernel_rfl) (fun _ _ _ h => h) (by rfl) (by assumption) ?_
      try simp only [Act.put, List.setIfInBounds_toArray, List.set_cons_zero, List.set_cons_succ]
      refine take_not (i := 19) (d := 140) rfl rfl (by kernel_rfl) (by kernel_rfl) (by kernel_rfl) (fun _ _ _ h => h) (by rfl) (by assumption) ?_
      try simp only [Act.put, List.setIfInBounds_toArray, List.set_cons_zero, List.set_cons_succ]
      refine take_not (i := 20) (d := 141) rfl rfl (by kernel_rfl) (by kernel_rfl) (by kernel_rfl) (fun _ _ _ h => h) (by rfl) (by assumption) ?_
      try simp only [Act.put, List.setIfInBounds_toArray, List.set_cons_zero, List.set_cons_succ]
      refine take_not (i := 21) (d := 142) rfl rfl (by kernel_rfl) (by kernel_rfl) (by kernel_rfl) (fun _ _ _ h => h) (by rfl) (by assumption) ?_
      try simp only [Act.put, List.setIfInBounds_toArray, List.set_cons_zero, List.set_cons_succ]
      refine take_not (i := 22) (d := 143) rfl rfl (by kernel_rfl) (by kernel_rfl) (by kernel_rfl) (fun _ _ _ h => h) (by rfl) (by assumption) ?_
      try simp only [Act.put, List.setIfInBounds_toArray, List.set_cons_zero, List.set_cons_succ]
      refine take_yes (i := 23) (d := 144) (v := ?_) rfl rfl (by kernel_rfl) (by kernel_rfl) (by kernel_rfl) (fun _ _ _ h => h) (by rfl) ?_ (by assumption) ?_
      rotate_left 1
      ·intro w hSw
       obtain ⟨z0, z1, z2, z3⟩ := hSw
       go_simp
       with_reducible rfl
      try simp only [Act.put, List.setIfInBounds_toArray, List.set_cons_zero, List.set_cons_succ]
      refine take_yes (i := 24) (d := 145) (v := ?_) rfl rfl (by kernel_rfl) (by kernel_rfl) (by kernel_rfl) (fun _ _ _ h => h) (by rfl) ?_ (by assumption) ?_
      rotate_left 1
      ·intro w hSw
       obtain ⟨z0, z1, z2, z3⟩ := hSw
       go_simp
       with_reducible rfl
      try simp only [Act.put, List.setIfInBounds_toArray, List.set_cons_zero, List.set_cons_succ]
      refine wpAnyH_done (by kernel_rfl) ?_ _
      obtain ⟨a0, a1, a2, a3⟩ := hH
      have G := a3
      go_wp2_with fail
      go_round
      case rel => exact ⟨1, rfl, by omega, hM2, Lib.hid (Bel.trans HBr.out G)⟩
      case measure => simp [intOf]; omega
     | succ j =>
      have hjl1 : j < ks.length := by omega
      have c1 := (Bel.trans HB.out HBr.out).cell' (HC.out j hjl1)
      cases hle : leqT ks[j + 1] ks[j] with
      | true =>
       have hz := Lib.hid (asc_leq hjl HM.out hs hle)
       unfold leqT at hle
       generalize ks[j + 1] = t at *
       generalize ks[j] = u at *
       clear hs
       go_wp2_with fail
       have hj1 : (0 : Int) ≤ (j : Int) + 1 := by omega
       have hj2 : (0 : Int) ≤ (j : Int) := by omega
       have hj3 : (j : Int) < (kn : Int) := by omega
       have hj4 : IntKind.i64.wrap (j : Int) = (j : Int) := by rw [IntKind.wrap_i64]; omega
       have HSj2 := Lib.hid (show ∀ W, W.cell? ⟨w.heap.size, 3, none⟩ = some (.slice (some ⟨b, off, none⟩) kn kc) ∧ W.cell? ⟨w.heap.size, 4, none⟩ = some (.slice jo jn jc) ∧ W.cell? ⟨b, off + (j + 1), none⟩ = some (.string ⟨t.toArray⟩) ∧ W.cell? ⟨b, off + j, none⟩ = some (.string ⟨u.toArray⟩) ∧ Bel wr W → Calls Tryz.prog 156 #[.string ⟨t.toArray⟩] W fun e w' => e = .returned (.bool true) ∧ w'.cell? ⟨w.heap.size, 3, none⟩ = some (.slice (some ⟨b, off, none⟩) kn kc) ∧ w'.cell? ⟨w.heap.size, 4, none⟩ = some (.slice jo jn jc) ∧ w'.cell? ⟨b, off + (j + 1), none⟩ = some (.string ⟨t.toArray⟩) ∧ w'.cell? ⟨b, off + j, none⟩ = some (.string ⟨u.toArray⟩) ∧ Bel wr w' from fun W hS => (HSj.out W).mono fun e w' k => ⟨k.1, k.2.cell' hS.1, k.2.cell' hS.2.1, k.2.cell' hS.2.2.1, k.2.cell' hS.2.2.2.1, Bel.trans hS.2.2.2.2 k.2⟩)
       refine wp_region_held_drew (S := fun W => W.cell? ⟨w.heap.size, 3, none⟩ = some (.slice (some ⟨b, off, none⟩) kn kc) ∧ W.cell? ⟨w.heap.size, 4, none⟩ = some (.slice jo jn jc) ∧ W.cell? ⟨b, off + (j + 1), none⟩ = some (.string ⟨t.toArray⟩) ∧ W.cell? ⟨b, off + j, none⟩ = some (.string ⟨u.toArray⟩) ∧ Bel wr W) (by kernel_rfl) ⟨y3, y4, c0, c1, Below.drew (Bel.refl _)⟩ (fun hH => ?_)
       refine take_yes (i := 0) (d := 121) (v := ?_) rfl rfl (by kernel_rfl) (by kernel_rfl) (by kernel_rfl) (fun _ _ _ h => h) (by rfl) ?_ (by assumption) ?_
       rotate_left 1
       ·intro w hSw
        obtain ⟨z0, z1, z2, z3, z4⟩ := hSw
        go_simp
        with_reducible rfl
       try simp only [Act.put, List.setIfInBounds_toArray, List.set_cons_zero, List.set_cons_succ]
       refine take_yes (i := 1) (d := 122) (v := ?_) rfl rfl (by kernel_rfl) (by kernel_rfl) (by kernel_rfl) (fun _ _ _ h => h) (by rfl) ?_ (by assumption) ?_
       rotate_left 1
       ·intro w hSw
        obtain ⟨z0, z1, z2, z3, z4⟩ := hSw
        go_simp
        with_reducible rfl
       try simp only [Act.put, List.setIfInBounds_toArray, List.set_cons_zero, List.set_cons_succ]
       refine take_yes (i := 2) (d := 123) (v := ?_) rfl rfl (by kernel_rfl) (by kernel_rfl) (by kernel_rfl) (fun _ _ _ h => h) (by rfl) ?_ (by assumption) ?_
       rotate_left 1
       ·intro w hSw
        obtain ⟨z0, z1, z2, z3, z4⟩ := hSw
        go_simp
        with_reducible rfl
       try simp only [Act.put, List.setIfInBounds_toArray, List.set_cons_zero, List.set_cons_succ]
       refine take_yes (i := 3) (d := 124) (v := ?_) rfl rfl (by kernel_rfl) (by kernel_rfl) (by kernel_rfl) (fun _ _ _ h => h) (by rfl) ?_ (by assumption) ?_
       rotate_left 1
       ·intro w hSw
        obtain ⟨z0, z1, z2, z3, z4⟩ := hSw
        go_simp
        with_reducible rfl
       try simp only [Act.put, List.setIfInBounds_toArray, List.set_cons_zero, List.set_cons_succ]
       refine take_yes (i := 4) (d := 125) (v := ?_) rfl rfl (by kernel_rfl) (by kernel_rfl) (by kernel_rfl) (fun _ _ _ h => h) (by rfl) ?_ (by assumption) ?_
       rotate_left 1
       ·intro w hSw
        obtain ⟨z0, z1, z2, z3, z4⟩ := hSw
        go_simp
        with_reducible rfl
       try simp only [Act.put, List.setIfInBounds_toArray, List.set_cons_zero, List.set_cons_succ]
       refine wpAnyH_ready (rs := [5]) (by kernel_rfl) (by simp) ?_
       refine AllReadyH.cons rfl (fun K hK => ?_) AllReadyH.nil
       go_simp
       refine (HSj2.out _ hH).mono ?_
       rintro e w8 ⟨rfl, hG⟩
       clear hH
       refine hK.out _ _ hG (fun hH => ?_)
       clear hK K hG
       try simp only [Act.put, List.setIfInBounds_toArray, List.set_cons_zero, List.set_cons_succ]
       refine take_yes (i := 6) (d := 127) (v := ?_) rfl rfl (by kernel_rfl) (by kernel_rfl) (by kernel_rfl) (fun _ _ _ h => h) (by rfl) ?_ (by assumption) ?_
       rotate_left 1
       ·intro w hSw
        obtain ⟨z0, z1, z2, z3, z4⟩ := hSw
        go_simp
        with_reducible rfl
       try simp only [Act.put, List.setIfInBounds_toArray, List.set_cons_zero, List.set_cons_succ]
       refine take_yes (i := 7) (d := 128) (v := ?_) rfl rfl (by kernel_rfl) (by kernel_rfl) (by kernel_rfl) (fun _ _ _ h => h) (by rfl) ?_ (by assumption) ?_
       rotate_left 1
       ·intro w hSw
        obtain ⟨z0, z1, z2, z3, z4⟩ := hSw
        go_simp
        with_reducible rfl
       try simp only [Act.put, List.setIfInBounds_toArray, List.set_cons_zero, List.set_cons_succ]
       refine take_yes (i := 8) (d := 129) (v := ?_) rfl rfl (by kernel_rfl) (by kernel_rfl) (by kernel_rfl) (fun _ _ _ h => h) (by rfl) ?_ (by assumption) ?_
       rotate_left 1
       ·intro w hSw
        obtain ⟨z0, z1, z2, z3, z4⟩ := hSw
        go_simp
        with_reducible rfl
       try simp only [Act.put, List.setIfInBounds_toArray, List.set_cons_zero, List.set_cons_succ]
       refine take_yes (i := 9) (d := 130) (v := .bool true) rfl rfl (by kernel_rfl) (by kernel_rfl) (by kernel_rfl) (fun _ _ _ h => h) (by rfl) ?_ (by assumption) ?_
       ·intro w hSw
        obtain ⟨z0, z1, z2, z3, z4⟩ := hSw
        go_simp
        try simp
        try omega
       try simp only [Act.put, List.setIfInBounds_toArray, List.set_cons_zero, List.set_cons_succ]
       refine take_yes (i := 10) (d := 131) (v := ?_) rfl rfl (by kernel_rfl) (by kernel_rfl) (by kernel_rfl) (fun _ _ _ h => h) (by rfl) ?_ (by assumption) ?_
       rotate_left 1
       ·intro w hSw
        obtain ⟨z0, z1, z2, z3, z4⟩ := hSw
        go_simp
        with_reducible rfl
       try simp only [Act.put, List.setIfInBounds_toArray, List.set_cons_zero, List.set_cons_succ]
       refine take_yes (i := 11) (d := 132) (v := ?_) rfl rfl (by kernel_rfl) (by kernel_rfl) (by kernel_rfl) (fun _ _ _ h => h) (by rfl) ?_ (by assumption) ?_
       rotate_left 1
       ·intro w hSw
        obtain ⟨z0, z1, z2, z3, z4⟩ := hSw
        go_simp
        with_reducible rfl
       try simp only [Act.put, List.setIfInBounds_toArray, List.set_cons_zero, List.set_cons_succ]
       refine take_yes (i := 12) (d := 133) (v := ?_) rfl rfl (by kernel_rfl) (by kernel_rfl) (by kernel_rfl) (fun _ _ _ h => h) (by rfl) ?_ (by assumption) ?_
       rotate_left 1
       ·intro w hSw
        obtain ⟨z0, z1, z2, z3, z4⟩ := hSw
        go_simp
        with_reducible rfl
       try simp only [Act.put, List.setIfInBounds_toArray, List.set_cons_zero, List.set_cons_succ]
       refine take_yes (i := 13) (d := 134) (v := ?_) rfl rfl (by kernel_rfl) (by kernel_rfl) (by kernel_rfl) (fun _ _ _ h => h) (by rfl) ?_ (by assumption) ?_
       rotate_left 1
       ·intro w hSw
        obtain ⟨z0, z1, z2, z3, z4⟩ := hSw
        go_simp
        with_reducible rfl
       try simp only [Act.put, List.setIfInBounds_toArray, List.set_cons_zero, List.set_cons_succ]
       refine take_yes (i := 14) (d := 135) (v := ?_) rfl rfl (by kernel_rfl) (by kernel_rfl) (by kernel_rfl) (fun _ _ _ h => h) (by rfl) ?_ (by assumption) ?_
       rotate_left 1
       ·intro w hSw
        obtain ⟨z0, z1, z2, z3, z4⟩ := hSw
        go_simp
        with_reducible rfl
       try simp only [Act.put, List.setIfInBounds_toArray, List.set_cons_zero, List.set_cons_succ]
       refine take_yes (i := 15) (d := 136) (v := ?_) rfl rfl (by kernel_rfl) (by kernel_rfl) (by kernel_rfl) (fun _ _ _ h => h) (by rfl) ?_ (by assumption) ?_
       rotate_left 1
       ·intro w hSw
        obtain ⟨z0, z1, z2, z3, z4⟩ := hSw
        go_simp
        with_reducible rfl
       try simp only [Act.put, List.setIfInBounds_toArray, List.set_cons_zero, List.set_cons_succ]
       refine take_yes (i := 16) (d := 137) (v := ?_) rfl rfl (by kernel_rfl) (by kernel_rfl) (by kernel_rfl) (fun _ _ _ h => h) (by rfl) ?_ (by assumption) ?_
       rotate_left 1
       ·intro w hSw
        obtain ⟨z0, z1, z2, z3, z4⟩ := hSw
        go_simp
        with_reducible rfl
       try simp only [Act.put, List.setIfInBounds_toArray, List.set_cons_zero, List.set_cons_succ]
       refine take_yes (i := 17) (d := 138) (v := ?_) rfl rfl (by kernel_rfl) (by kernel_rfl) (by kernel_rfl) (fun _ _ _ h => h) (by rfl) ?_ (by assumption) ?_
       rotate_left 1
       ·intro w hSw
        obtain ⟨z0, z1, z2, z3, z4⟩ := hSw
        go_simp
        with_reducible rfl
       try simp only [Act.put, List.setIfInBounds_toArray, List.set_cons_zero, List.set_cons_succ]
       refine take_yes (i := 18) (d := 139) (v := ?_) rfl rfl (by kernel_rfl) (by kernel_rfl) (by kernel_rfl) (fun _ _ _ h => h) (by rfl) ?_ (by assumption) ?_
       rotate_left 1
       ·intro w hSw
        obtain ⟨z0, z1, z2, z3, z4⟩ := hSw
        go_simp
        with_reducible rfl
       try simp only [Act.put, List.setIfInBounds_toArray, List.set_cons_zero, List.set_cons_succ]
       refine take_yes (i := 19) (d := 140) (v := ?_) rfl rfl (by kernel_rfl) (by kernel_rfl) (by kernel_rfl) (fun _ _ _ h => h) (by rfl) ?_ (by assumption) ?_
       rotate_left 1
       ·intro w hSw
        obtain ⟨z0, z1, z2, z3, z4⟩ := hSw
        go_simp
        with_reducible rfl
       try simp only [Act.put, List.setIfInBounds_toArray, List.set_cons_zero, List.set_cons_succ]
       refine take_yes (i := 20) (d := 141) (v := ?_) rfl rfl (by kernel_rfl) (by kernel_rfl) (by kernel_rfl) (fun _ _ _ h => h) (by rfl) ?_ (by assumption) ?_
       rotate_left 1
       ·intro w hSw
        obtain ⟨z0, z1, z2, z3, z4⟩ := hSw
        go_simp
        with_reducible rfl
       try simp only [Act.put, List.setIfInBounds_toArray, List.set_cons_zero, List.set_cons_succ]
       refine take_yes (i := 21) (d := 142) (v := ?_) rfl rfl (by kernel_rfl) (by kernel_rfl) (by kernel_rfl) (fun _ _ _ h => h) (by rfl) ?_ (by assumption) ?_
       rotate_left 1
       ·intro w hSw
        obtain ⟨z0, z1, z2, z3, z4⟩ := hSw
        go_simp
        with_reducible rfl
       try simp only [Act.put, List.setIfInBounds_toArray, List.set_cons_zero, List.set_cons_succ]
       refine take_yes (i := 22) (d := 143) (v := ?_) rfl rfl (by kernel_rfl) (by kernel_rfl) (by kernel_rfl) (fun _ _ _ h => h) (by rfl) ?_ (by assumption) ?_
       rotate_left 1
       ·intro w hSw
        obtain ⟨z0, z1, z2, z3, z4⟩ := hSw
        go_simp
        with_reducible rfl
       try simp only [Act.put, List.setIfInBounds_toArray, List.set_cons_zero, List.set_cons_succ]
       refine take_yes (i := 23) (d := 144) (v := ?_) rfl rfl (by kernel_rfl) (by kernel_rfl) (by kernel_rfl) (fun _ _ _ h => h) (by rfl) ?_ (by assumption) ?_
       rotate_left 1
       ·intro w hSw
        obtain ⟨z0, z1, z2, z3, z4⟩ := hSw
        go_simp
        with_reducible rfl
       try simp only [Act.put, List.setIfInBounds_toArray, List.set_cons_zero, List.set_cons_succ]
       refine take_yes (i := 24) (d := 145) (v := ?_) rfl rfl (by kernel_rfl) (by kernel_rfl) (by kernel_rfl) (fun _ _ _ h => h) (by rfl) ?_ (by assumption) ?_
       rotate_left 1
       ·intro w hSw
        obtain ⟨z0, z1, z2, z3, z4⟩ := hSw
        go_simp
        with_reducible rfl
       try simp only [Act.put, List.setIfInBounds_toArray, List.set_cons_zero, List.set_cons_succ]
       refine wpAnyH_done (by kernel_rfl) ?_ _
       obtain ⟨a0, a1, a2, a3, a4⟩ := hH
       have G := a4
       go_wp2_with fail
       go_ret
       exact ⟨by rw [hz.out]; simp, Bel.trans HB.out (Bel.trans HBr.out G)⟩
      | false =>
       have hM2 := Lib.hid (asc_go hjl HM.out hs hle)
       unfold leqT at hle
       generalize ks[j + 1] = t at *
       generalize ks[j] = u at *
       clear hs
       go_wp2_with fail
       have hj1 : (0 : Int) ≤ (j : Int) + 1 := by omega
       have hj2 : (0 : Int) ≤ (j : Int) := by omega
       have hj3 : (j : Int) < (kn : Int) := by omega
       have hj4 : IntKind.i64.wrap (j : Int) = (j : Int) := by rw [IntKind.wrap_i64]; omega
       have HSj2 := Lib.hid (show ∀ W, W.cell? ⟨w.heap.size, 3, none⟩ = some (.slice (some ⟨b, off, none⟩) kn kc) ∧ W.cell? ⟨w.heap.size, 4, none⟩ = some (.slice jo jn jc) ∧ W.cell? ⟨b, off + (j + 1), none⟩ = some (.string ⟨t.toArray⟩) ∧ W.cell? ⟨b, off + j, none⟩ = some (.string ⟨u.toArray⟩) ∧ Bel wr W → Calls Tryz.prog 156 #[.string ⟨t.toArray⟩] W fun e w' => e = .returned (.bool true) ∧ w'.cell? ⟨w.heap.size, 3, none⟩ = some (.slice (some ⟨b, off, none⟩) kn kc) ∧ w'.cell? ⟨w.heap.size, 4, none⟩ = some (.slice jo jn jc) ∧ w'.cell? ⟨b, off + (j + 1), none⟩ = some (.string ⟨t.toArray⟩) ∧ w'.cell? ⟨b, off + j, none⟩ = some (.string ⟨u.toArray⟩) ∧ Bel wr w' from fun W hS => (HSj.out W).mono fun e w' k => ⟨k.1, k.2.cell' hS.1, k.2.cell' hS.2.1, k.2.cell' hS.2.2.1, k.2.cell' hS.2.2.2.1, Bel.trans hS.2.2.2.2 k.2⟩)
       refine wp_region_held_drew (S := fun W => W.cell? ⟨w.heap.size, 3, none⟩ = some (.slice (some ⟨b, off, none⟩) kn kc) ∧ W.cell? ⟨w.heap.size, 4, none⟩ = some (.slice jo jn jc) ∧ W.cell? ⟨b, off + (j + 1), none⟩ = some (.string ⟨t.toArray⟩) ∧ W.cell? ⟨b, off + j, none⟩ = some (.string ⟨u.toArray⟩) ∧ Bel wr W) (by kernel_rfl) ⟨y3, y4, c0, c1, Below.drew (Bel.refl _)⟩ (fun hH => ?_)
       refine take_yes (i := 0) (d := 121) (v := ?_) rfl rfl (by kernel_rfl) (by kernel_rfl) (by kernel_rfl) (fun _ _ _ h => h) (by rfl) ?_ (by assumption) ?_
       rotate_left 1
       ·intro w hSw
        obtain ⟨z0, z1, z2, z3, z4⟩ := hSw
        go_simp
        with_reducible rfl
       try simp only [Act.put, List.setIfInBounds_toArray, List.set_cons_zero, List.set_cons_succ]
       refine take_yes (i := 1) (d := 122) (v := ?_) rfl rfl (by kernel_rfl) (by kernel_rfl) (by kernel_rfl) (fun _ _ _ h => h) (by rfl) ?_ (by assumption) ?_
       rotate_left 1
       ·intro w hSw
        obtain ⟨z0, z1, z2, z3, z4⟩ := hSw
        go_simp
        with_reducible rfl
       try simp only [Act.put, List.setIfInBounds_toArray, List.set_cons_zero, List.set_cons_succ]
       refine take_yes (i := 2) (d := 123) (v := ?_) rfl rfl (by kernel_rfl) (by kernel_rfl) (by kernel_rfl) (fun _ _ _ h => h) (by rfl) ?_ (by assumption) ?_
       rotate_left 1
       ·intro w hSw
        obtain ⟨z0, z1, z2, z3, z4⟩ := hSw
        go_simp
        with_reducible rfl
       try simp only [Act.put, List.setIfInBounds_toArray, List.set_cons_zero, List.set_cons_succ]
       refine take_yes (i := 3) (d := 124) (v := ?_) rfl rfl (by kernel_rfl) (by kernel_rfl) (by kernel_rfl) (fun _ _ _ h => h) (by rfl) ?_ (by assumption) ?_
       rotate_left 1
       ·intro w hSw
        obtain ⟨z0, z1, z2, z3, z4⟩ := hSw
        go_simp
        with_reducible rfl
       try simp only [Act.put, List.setIfInBounds_toArray, List.set_cons_zero, List.set_cons_succ]
       refine take_yes (i := 4) (d := 125) (v := ?_) rfl rfl (by kernel_rfl) (by kernel_rfl) (by kernel_rfl) (fun _ _ _ h => h) (by rfl) ?_ (by assumption) ?_
       rotate_left 1
       ·intro w hSw
        obtain ⟨z0, z1, z2, z3, z4⟩ := hSw
        go_simp
        with_reducible rfl
       try simp only [Act.put, List.setIfInBounds_toArray, List.set_cons_zero, List.set_cons_succ]
       refine wpAnyH_ready (rs := [5]) (by kernel_rfl) (by simp) ?_
       refine AllReadyH.cons rfl (fun K hK => ?_) AllReadyH.nil
       go_simp
       refine (HSj2.out _ hH).mono ?_
       rintro e w8 ⟨rfl, hG⟩
       clear hH
       refine hK.out _ _ hG (fun hH => ?_)
       clear hK K hG
       try simp only [Act.put, List.setIfInBounds_toArray, List.set_cons_zero, List.set_cons_succ]
       refine take_yes (i := 6) (d := 127) (v := ?_) rfl rfl (by kernel_rfl) (by kernel_rfl) (by kernel_rfl) (fun _ _ _ h => h) (by rfl) ?_ (by assumption) ?_
       rotate_left 1
       ·intro w hSw
        obtain ⟨z0, z1, z2, z3, z4⟩ := hSw
        go_simp
        with_reducible rfl
       try simp only [Act.put, List.setIfInBounds_toArray, List.set_cons_zero, List.set_cons_succ]
       refine take_yes (i := 7) (d := 128) (v := ?_) rfl rfl (by kernel_rfl) (by kernel_rfl) (by kernel_rfl) (fun _ _ _ h => h) (by rfl) ?_ (by assumption) ?_
       rotate_left 1
       ·intro w hSw
        obtain ⟨z0, z1, z2, z3, z4⟩ := hSw
        go_simp
        with_reducible rfl
       try simp only [Act.put, List.setIfInBounds_toArray, List.set_cons_zero, List.set_cons_succ]
       refine take_yes (i := 8) (d := 129) (v := ?_) rfl rfl (by kernel_rfl) (by kernel_rfl) (by kernel_rfl) (fun _ _ _ h => h) (by rfl) ?_ (by assumption) ?_
       rotate_left 1
       ·intro w hSw
        obtain ⟨z0, z1, z2, z3, z4⟩ := hSw
        go_simp
        with_reducible rfl
       try simp only [Act.put, List.setIfInBounds_toArray, List.set_cons_zero, List.set_cons_succ]
       refine take_yes (i := 9) (d := 130) (v := .bool true) rfl rfl (by kernel_rfl) (by kernel_rfl) (by kernel_rfl) (fun _ _ _ h => h) (by rfl) ?_ (by assumption) ?_
       ·intro w hSw
        obtain ⟨z0, z1, z2, z3, z4⟩ := hSw
        go_simp
        try simp
        try omega
       try simp only [Act.put, List.setIfInBounds_toArray, List.set_cons_zero, List.set_cons_succ]
       refine take_yes (i := 10) (d := 131) (v := ?_) rfl rfl (by kernel_rfl) (by kernel_rfl) (by kernel_rfl) (fun _ _ _ h => h) (by rfl) ?_ (by assumption) ?_
       rotate_left 1
       ·intro w hSw
        obtain ⟨z0, z1, z2, z3, z4⟩ := hSw
        go_simp
        with_reducible rfl
       try simp only [Act.put, List.setIfInBounds_toArray, List.set_cons_zero, List.set_cons_succ]
       refine take_yes (i := 11) (d := 132) (v := ?_) rfl rfl (by kernel_rfl) (by kernel_rfl) (by kernel_rfl) (fun _ _ _ h => h) (by rfl) ?_ (by assumption) ?_
       rotate_left 1
       ·intro w hSw
        obtain ⟨z0, z1, z2, z3, z4⟩ := hSw
        go_simp
        with_reducible rfl
       try simp only [Act.put, List.setIfInBounds_toArray, List.set_cons_zero, List.set_cons_succ]
       refine take_yes (i := 12) (d := 133) (v := ?_) rfl rfl (by kernel_rfl) (by kernel_rfl) (by kernel_rfl) (fun _ _ _ h => h) (by rfl) ?_ (by assumption) ?_
       rotate_left 1
       ·intro w hSw
        obtain ⟨z0, z1, z2, z3, z4⟩ := hSw
        go_simp
        with_reducible rfl
       try simp only [Act.put, List.setIfInBounds_toArray, List.set_cons_zero, List.set_cons_succ]
       refine take_yes (i := 13) (d := 134) (v := ?_) rfl rfl (by kernel_rfl) (by kernel_rfl) (by kernel_rfl) (fun _ _ _ h => h) (by rfl) ?_ (by assumption) ?_
       rotate_left 1
       ·intro w hSw
        obtain ⟨z0, z1, z2, z3, z4⟩ := hSw
        go_simp
        with_reducible rfl
       try simp only [Act.put, List.setIfInBounds_toArray, List.set_cons_zero, List.set_cons_succ]
       refine take_yes (i := 14) (d := 135) (v := ?_) rfl rfl (by kernel_rfl) (by kernel_rfl) (by kernel_rfl) (fun _ _ _ h => h) (by rfl) ?_ (by assumption) ?_
       rotate_left 1
       ·intro w hSw
        obtain ⟨z0, z1, z2, z3, z4⟩ := hSw
        go_simp
        with_reducible rfl
       try simp only [Act.put, List.setIfInBounds_toArray, List.set_cons_zero, List.set_cons_succ]
       refine take_yes (i := 15) (d := 136) (v := ?_) rfl rfl (by kernel_rfl) (by kernel_rfl) (by kernel_rfl) (fun _ _ _ h => h) (by rfl) ?_ (by assumption) ?_
       rotate_left 1
       ·intro w hSw
        obtain ⟨z0, z1, z2, z3, z4⟩ := hSw
        go_simp
        with_reducible rfl
       try simp only [Act.put, List.setIfInBounds_toArray, List.set_cons_zero, List.set_cons_succ]
       refine take_yes (i := 16) (d := 137) (v := ?_) rfl rfl (by kernel_rfl) (by kernel_rfl) (by kernel_rfl) (fun _ _ _ h => h) (by rfl) ?_ (by assumption) ?_
       rotate_left 1
       ·intro w hSw
        obtain ⟨z0, z1, z2, z3, z4⟩ := hSw
        go_simp
        with_reducible rfl
       try simp only [Act.put, List.setIfInBounds_toArray, List.set_cons_zero, List.set_cons_succ]
       refine take_yes (i := 17) (d := 138) (v := ?_) rfl rfl (by kernel_rfl) (by kernel_rfl) (by kernel_rfl) (fun _ _ _ h => h) (by rfl) ?_ (by assumption) ?_
       rotate_left 1
       ·intro w hSw
        obtain ⟨z0, z1, z2, z3, z4⟩ := hSw
        go_simp
        with_reducible rfl
       try simp only [Act.put, List.setIfInBounds_toArray, List.set_cons_zero, List.set_cons_succ]
       refine take_yes (i := 18) (d := 139) (v := ?_) rfl rfl (by kernel_rfl) (by kernel_rfl) (by kernel_rfl) (fun _ _ _ h => h) (by rfl) ?_ (by assumption) ?_
       rotate_left 1
       ·intro w hSw
        obtain ⟨z0, z1, z2, z3, z4⟩ := hSw
        go_simp
        with_reducible rfl
       try simp only [Act.put, List.setIfInBounds_toArray, List.set_cons_zero, List.set_cons_succ]
       refine take_yes (i := 19) (d := 140) (v := ?_) rfl rfl (by kernel_rfl) (by kernel_rfl) (by kernel_rfl) (fun _ _ _ h => h) (by rfl) ?_ (by assumption) ?_
       rotate_left 1
       ·intro w hSw
        obtain ⟨z0, z1, z2, z3, z4⟩ := hSw
        go_simp
        with_reducible rfl
       try simp only [Act.put, List.setIfInBounds_toArray, List.set_cons_zero, List.set_cons_succ]
       refine take_yes (i := 20) (d := 141) (v := ?_) rfl rfl (by kernel_rfl) (by kernel_rfl) (by kernel_rfl) (fun _ _ _ h => h) (by rfl) ?_ (by assumption) ?_
       rotate_left 1
       ·intro w hSw
        obtain ⟨z0, z1, z2, z3, z4⟩ := hSw
        go_simp
        with_reducible rfl
       try simp only [Act.put, List.setIfInBounds_toArray, List.set_cons_zero, List.set_cons_succ]
       refine take_yes (i := 21) (d := 142) (v := ?_) rfl rfl (by kernel_rfl) (by kernel_rfl) (by kernel_rfl) (fun _ _ _ h => h) (by rfl) ?_ (by assumption) ?_
       rotate_left 1
       ·intro w hSw
        obtain ⟨z0, z1, z2, z3, z4⟩ := hSw
        go_simp
        with_reducible rfl
       try simp only [Act.put, List.setIfInBounds_toArray, List.set_cons_zero, List.set_cons_succ]
       refine take_yes (i := 22) (d := 143) (v := ?_) rfl rfl (by kernel_rfl) (by kernel_rfl) (by kernel_rfl) (fun _ _ _ h => h) (by rfl) ?_ (by assumption) ?_
       rotate_left 1
       ·intro w hSw
        obtain ⟨z0, z1, z2, z3, z4⟩ := hSw
        go_simp
        with_reducible rfl
       try simp only [Act.put, List.setIfInBounds_toArray, List.set_cons_zero, List.set_cons_succ]
       refine take_yes (i := 23) (d := 144) (v := ?_) rfl rfl (by kernel_rfl) (by kernel_rfl) (by kernel_rfl) (fun _ _ _ h => h) (by rfl) ?_ (by assumption) ?_
       rotate_left 1
       ·intro w hSw
        obtain ⟨z0, z1, z2, z3, z4⟩ := hSw
        go_simp
        with_reducible rfl
       try simp only [Act.put, List.setIfInBounds_toArray, List.set_cons_zero, List.set_cons_succ]
       refine take_yes (i := 24) (d := 145) (v := ?_) rfl rfl (by kernel_rfl) (by kernel_rfl) (by kernel_rfl) (fun _ _ _ h => h) (by rfl) ?_ (by assumption) ?_
       rotate_left 1
       ·intro w hSw
        obtain ⟨z0, z1, z2, z3, z4⟩ := hSw
        go_simp
        with_reducible rfl
       try simp only [Act.put, List.setIfInBounds_toArray, List.set_cons_zero, List.set_cons_succ]
       refine wpAnyH_done (by kernel_rfl) ?_ _
       obtain ⟨a0, a1, a2, a3, a4⟩ := hH
       have G := a4
       go_wp2_with fail
       go_round
       case rel => exact ⟨j + 2, by go_num, by omega, hM2, Lib.hid (Bel.trans HBr.out G)⟩
       case measure => simp [intOf]; omega
   ·have hz : Hid (X = true) := Lib.hid (by
     have := HM.out
     rw [List.drop_eq_nil_of_le (by rw [HL.out]; exact hjn)] at this
     rw [← this]
     cases prevK ks j <;> rfl)
    obtain rfl : j = kn := by omega
    go_wp2_with fail
    go_ret
    exact ⟨by rw [hz.out]; simp, Bel.trans HB.out HBr.out⟩
end Syn
end Go.Proofs.YtmifookckpelaaaGreatDoor

/-
 Layer 8, the reference: strings (two lists of the same strings).
-/
namespace Go.Proofs.YtmifookckpelaaaGreatDoor
open Go.RowKit Go.ChangeShapes Go.WideShapes
namespace Syn
set_option maxRecDepth 100000 in
set_option maxHeartbeats 4000000 in
theorem reqS_any (o1 o2 : Option Addr) (n m c1 c2 : Nat) (l1 l2 : List Txt) (hn : n ≤ 4611686018427387904) (hm : m ≤ 4611686018427387904) (w : World) (hA : SArg w o1 n l1) (hB : SArg w o2 m l2) :
  Calls Tryz.prog 53 #[.slice o1 n c1, .slice o2 m c2] w fun e w' => e = .returned (.bool (decide (l1 = l2))) ∧ Bel w w' := by
 have k1 := hA.1
 have k2 := hB.1
 by_cases h0 : n = m
 ·subst h0
  by_cases hz : n = 0
  ·subst hz
   have e1 : l1 = [] := List.eq_nil_of_length_eq_zero k1
   have e2 : l2 = [] := List.eq_nil_of_length_eq_zero k2
   subst e1 e2
   clear hA hB
   go_enter Tryz.func53, Tryz.ntmps53
   go_wp2_with fail
   go_loopw [5] (fun iv wr => iv = .int .i64 0 ∧ wr = w) (fun _ _ => 0)
   case atStart => exact ⟨rfl, rfl⟩
   case round =>
    obtain ⟨rfl, rfl⟩ := hrel
    go_wp2
    go_ret
    exact ⟨rfl, Bel.refl _⟩
  ·obtain ⟨b, off, rfl, hc⟩ := hA.2 (by omega)
   obtain ⟨b2, off2, rfl, hc2⟩ := hB.2 (by omega)
   obtain ⟨X, hX⟩ : ∃ X, decide (l1 = l2) = X := ⟨_, rfl⟩
   have HX := Lib.hid hX
   rw [hX]
   have K1 := Lib.hid k1
   have K2 := Lib.hid k2
   have HC := Lib.hid hc
   have HC2 := Lib.hid hc2
   have hn0 : (0 : Int) < (n : Int) := by omega
   clear hA hB hc hc2 k1 k2 hX
   go_enter Tryz.func53, Tryz.ntmps53
   go_wp2_with fail
   go_loopw [5] (fun iv wr => ∃ k : Nat, iv = .int .i64 (k : Int) ∧ k ≤ n ∧ Hid (decide (l1.drop k = l2.drop k) = X) ∧ Hid (Bel w wr)) (fun iv _ => n - (intOf iv).toNat)
   case atStart => exact ⟨0, rfl, Nat.zero_le _, HX, Lib.hid (Bel.refl _)⟩
   case round =>
    obtain ⟨k, rfl, hk, HM, HB⟩ := hrel
    rename World => wr
    rcases Nat.lt_or_ge k n with hkn | hkn
    ·have q1 : k < l1.length := by rw [K1.out]; exact hkn
     have q2 : k < l2.length := by rw [K2.out]; exact hkn
     have c0 := HB.out.cell' (HC.out k q1)
     have c02 := HB.out.cell' (HC2.out k q2)
     have hM := HM.out
     rw [dropS_at q1 q2] at hM
     generalize l1[k] = u at *
     generalize l2[k] = v at *
     by_cases huv : u = v
     ·subst huv
      have hM2 : Hid (decide (l1.drop (k + 1) = l2.drop (k + 1)) = X) := Lib.hid (by rw [← hM]; simp)
      clear hM HM
      go_wp2_with fail
      go_quiet (fail)
      go_wp2_with fail
      go_round
      case rel => exact ⟨k + 1, by go_num, by omega, hM2, Lib.hid (Bel.drewN HB.out _)⟩
      case measure => simp [intOf]; omega
     ·have hz2 : Hid (X = false) := Lib.hid (by rw [← hM]; simp [huv])
      have buv : (u == v) = false := by simpa using huv
      have nuv : (u != v) = true := by simpa using huv
      clear hM HM
      go_wp2_with fail
      go_quiet (fail)
      go_wp2_with fail
      go_ret
      exact ⟨by rw [hz2.out]; rfl, Bel.drewN HB.out _⟩
    ·have hz2 : Hid (X = true) := Lib.hid (by
      have := HM.out
      rw [List.drop_eq_nil_of_le (by rw [K1.out]; exact hkn), List.drop_eq_nil_of_le (by rw [K2.out]; exact hkn)] at this
      rw [← this]
      rfl)
     obtain rfl : k = n := by omega
     go_wp2_with fail
     go_ret
     exact ⟨by rw [hz2.out]; rfl, HB.out⟩
 ·have hne : decide (l1 = l2) = false := by
   rw [decide_eq_false_iff_not]
   intro e
   rw [e] at k1
   omega
  rw [hne]
  have h0' : ((n : Int) != (m : Int)) = true := by simp; omega
  clear hA hB
  go_enter Tryz.func53, Tryz.ntmps53
  go_wp2_with fail
  go_ret
  exact ⟨rfl, Bel.refl _⟩
end Syn
end Go.Proofs.YtmifookckpelaaaGreatDoor

/-
 Layer 8, the reference: Find.
-/
namespace Go.Proofs.YtmifookckpelaaaGreatDoor
open Go.RowKit Go.ChangeShapes Go.WideShapes
namespace Syn
set_option maxRecDepth 100000 in
set_option maxHeartbeats 4000000 in
theorem rfind_any (no fo : Option Addr) (n nc k fc : Nat) (F : List Fw) (s : Txt) (hk : k ≤ 4611686018427387904) (w : World) (hF : FArg w fo k F) :
  Calls Tryz.prog 24 #[.agg #[.slice no n nc, .slice fo k fc], .string ⟨s.toArray⟩] w fun e w' => e = .returned (.int .i64 (fixI (fun f => decide (f.name = s)) 0 F)) ∧ Bel w w' := by
 obtain ⟨V, hV⟩ : ∃ V, w.alloc (.cells #[.slice no n nc, .slice fo k fc] 25) = V := ⟨_, rfl⟩
 have BV : Bel w V := by rw [← hV]; exact Bel.alloc (Bel.refl w) _
 have v1 : V.cell? ⟨w.heap.size, 1, none⟩ = some (.slice fo k fc) := by rw [← hV]; exact World.cell?_alloc_new ..
 obtain ⟨X, hX⟩ : ∃ X, fixI (fun f : Fw => decide (f.name = s)) 0 F = X := ⟨_, rfl⟩
 rw [hX]
 have HX : Hid (fixI (fun f : Fw => decide (f.name = s)) 0 (F.drop 0) = X) := Lib.hid hX
 have HV := Lib.hid hV
 have HB := Lib.hid BV
 have HL := Lib.hid hF.1
 by_cases h0 : k = 0
 ·have hz : Hid (X = -1) := Lib.hid (by
   have e : F = [] := List.eq_nil_of_length_eq_zero (hF.1.trans h0)
   rw [← hX, e]
   rfl)
  subst h0
  clear hF hX hV BV
  go_enter Tryz.func24, Tryz.ntmps24
  go_wp2_with fail
  go_loopw [5] (fun iv wr => iv = .int .i64 0 ∧ wr = V) (fun _ _ => 0)
  case atStart => exact ⟨rfl, HV.out⟩
  case round =>
   obtain ⟨rfl, rfl⟩ := hrel
   go_wp2
   go_ret
   exact ⟨by rw [hz.out]; rfl, HB.out⟩
 ·obtain ⟨b, off, rfl, hc⟩ := hF.2 (by omega)
  have hc' : ∀ i (h : i < F.length), V.cell? ⟨b, off + i * 3, none⟩ = some (.string ⟨F[i].name.toArray⟩) := fun i h => by
   obtain ⟨v, hv, hcell⟩ := hc i h
   rw [← hv.s]
   exact BV.cell' (hcell 0 _ rfl)
  have HC := Lib.hid hc'
  have hk0 : (0 : Int) < (k : Int) := by omega
  clear hF hX hV BV hc hc'
  go_enter Tryz.func24, Tryz.ntmps24
  go_wp2_with fail
  go_loopw [5] (fun iv wr => ∃ j : Nat, iv = .int .i64 (j : Int) ∧ j ≤ k ∧ Hid (fixI (fun f : Fw => decide (f.name = s)) j (F.drop j) = X) ∧ wr = V) (fun iv _ => k - (intOf iv).toNat)
  case atStart => exact ⟨0, rfl, Nat.zero_le _, HX, HV.out⟩
  case round =>
   obtain ⟨j, rfl, hj, HM, rfl⟩ := hrel
   rcases Nat.lt_or_ge j k with hjn | hjn
   ·have q1 : j < F.length := by rw [HL.out]; exact hjn
    have c0 := HC.out j q1
    have hM := HM.out
    rw [List.drop_eq_getElem_cons q1, fixI] at hM
    generalize hu : F[j].name = u at *
    by_cases huv : u = s
    ·have hz : Hid (X = (j : Int)) := Lib.hid (by rw [← hM, if_pos (by simpa using huv)])
     have buv : (u == s) = true := by simpa using huv
     clear hM HM hu
     go_wp2_with fail
     go_ret
     exact ⟨by rw [hz.out]; rfl, HB.out⟩
    ·rw [if_neg (by simpa using huv)] at hM
     have hM2 := Lib.hid hM
     have buv : (u == s) = false := by simpa using huv
     clear hM HM hu
     go_wp2_with fail
     go_round
     case rel => exact ⟨j + 1, by go_num, by omega, hM2, trivial⟩
     case measure => simp [intOf]; omega
   ·have hz : Hid (X = -1) := Lib.hid (by
     have := HM.out
     rw [List.drop_eq_nil_of_le (by rw [HL.out]; exact hjn)] at this
     rw [← this]
     rfl)
    obtain rfl : j = k := by omega
    go_wp2_with fail
    go_ret
    exact ⟨by rw [hz.out]; rfl, HB.out⟩
end Syn
end Go.Proofs.YtmifookckpelaaaGreatDoor
