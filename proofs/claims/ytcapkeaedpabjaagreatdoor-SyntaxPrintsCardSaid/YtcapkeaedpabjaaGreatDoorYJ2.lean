/-
  Layer 8, texts merged: SqD. For every argument within the bounds that each theorem names.
-/
import Derived.Test.YtcapkeaedpabjaaGreatDoorYJ1
import Derived.Test.YtcapkeaedpabjaaGreatDoorYG3
set_option maxRecDepth 100000
set_option maxHeartbeats 16000000

/-
 Layer 8, the reference: fields, at a map.
-/
namespace Go.Proofs.YtcapkeaedpabjaaGreatDoor
open Go.RowKit Go.ChangeShapes Go.WideShapes
namespace Syn
theorem rfld_7 (s : Txt) (i : Int) (ko jo : Option Addr) (kn kc jn jc : Nat) (ks : List Txt) (hkn : kn ≤ 4611686018427387904) (hks : ∀ t ∈ ks,t.length ≤ 140737488355328) (w : World) (hA : KArg w ko kn ks) :
  Calls Tryz.prog 90 #[.agg #[.int .i64 7,.string ⟨s.toArray⟩,.int .i64 i,.slice ko kn kc,.slice jo jn jc]] w fun e w' => e = .returned (.bool (intF 7 i && (textB 7 s && keysB 7 ks jn))) ∧ Bel w w' := by
 have hl : ks.length = kn := by have := hA.1; rw [List.length_map] at this; exact this
 have HB0 := Lib.hid (Bel.alloc (Bel.refl w) (.cells #[.int .i64 7,.string ⟨s.toArray⟩,.int .i64 i,.slice ko kn kc,.slice jo jn jc] 65))
 by_cases hi0 : i ≠ 0
 ·have hib : (i != 0) = true := by simpa using hi0
  rw [show intF 7 i = false by unfold intF; rw [if_neg (by decide),if_neg (by decide)]; simpa using hi0,Bool.false_and]
  clear hA
  go_enter Tryz.func90,Tryz.ntmps90
  go_wp2_with fail
  go_ret
  exact ⟨rfl,HB0.out⟩
 obtain rfl : i = 0 := by omega
 rw [show intF 7 0 = true from rfl,Bool.true_and]
 by_cases he : s ≠ []
 ·have heb : (s != []) = true := by simpa using he
  have heb2 : (s == []) = false := by simpa using he
  have heb3 : s.isEmpty = false := by cases s with | nil => exact absurd rfl he | cons => rfl
  rw [show textB 7 s = s.isEmpty from rfl,heb3,Bool.false_and]
  clear hA
  go_enter Tryz.func90,Tryz.ntmps90
  go_wp2_with fail
  go_ret
  exact ⟨rfl,HB0.out⟩
 obtain rfl : s = [] := by simpa using he
 rw [show textB 7 [] = true from rfl,Bool.true_and]
 clear he
 obtain ⟨X,hX⟩ : ∃ X,ascB none ks = X := ⟨_,rfl⟩
 rw [show keysB 7 ks jn = (((kn : Int) == (jn : Int)) && X) by unfold keysB; rw [if_pos rfl,hl,hX,Bool.eq_iff_iff]; simp; intro _; omega]
 obtain ⟨W,hW⟩ : ∃ W,w.alloc (.cells #[.int .i64 7,.string ⟨([] : Txt).toArray⟩,.int .i64 0,.slice ko kn kc,.slice jo jn jc] 65) = W := ⟨_,rfl⟩
 have B : Bel w W := by rw [← hW]; exact Bel.alloc (Bel.refl w) _
 have y3 : W.cell? ⟨w.heap.size,3,none⟩ = some (.slice ko kn kc) := by rw [← hW]; exact (box5 w _ _ _ _ _ _).2.2.2.1
 have y4 : W.cell? ⟨w.heap.size,4,none⟩ = some (.slice jo jn jc) := by rw [← hW]; exact (box5 w _ _ _ _ _ _).2.2.2.2
 have HW := Lib.hid hW
 have HY := Lib.hid y3
 have HY4 := Lib.hid y4
 have HB := Lib.hid B
 have HX := Lib.hid hX
 have HL := Lib.hid hl
 clear hW
 by_cases h0 : kn = 0
 ·have hz : Hid (X = true) := Lib.hid (by
   have e : ks = [] := List.eq_nil_of_length_eq_zero (by omega)
   rw [← HX.out,e]
   rfl)
  subst h0
  clear hA hX hl B
  go_enter Tryz.func90,Tryz.ntmps90
  go_wp2_with fail
  go_loopw [5] (fun iv wr => iv = .int .i64 0 ∧ wr = W) (fun _ _ => 0)
  case atStart => exact ⟨rfl,HW.out⟩
  case round =>
   obtain ⟨rfl,rfl⟩ := hrel
   go_wp2
   go_ret
   exact ⟨by rw [hz.out]; simp,HB.out⟩
 ·obtain ⟨b,off,rfl,hc⟩ := sl_addr hA (by omega)
  have hc' : ∀ j (h : j < ks.length),w.cell? ⟨b,off + j,none⟩ = some (.string ⟨ks[j].toArray⟩) := fun j h => by
   rw [hc j (by rw [List.length_map]; exact h)]
   simp [bz,List.getElem?_eq_getElem h]
  have HC := Lib.hid hc'
  have HK := Lib.hid hks
  have hn0 : (0 : Int) < (kn : Int) := by omega
  clear hA hX hl B hc hc' hks
  go_enter Tryz.func90,Tryz.ntmps90
  go_wp2_with fail
  go_loopw [5] (fun iv wr => ∃ j : Nat,iv = .int .i64 (j : Int) ∧ j ≤ kn ∧ Hid (ascB (prevK ks j) (ks.drop j) = X) ∧ Hid (Bel W wr)) (fun iv _ => kn - (intOf iv).toNat)
  case atStart => exact ⟨0,rfl,Nat.zero_le _,HX,Lib.hid (by rw [HW.out]; exact Bel.refl _)⟩
  case round =>
   obtain ⟨j,rfl,hj,HM,HBr⟩ := hrel
   rename World => wr
   have y3 := HBr.out.cell' HY.out
   have y4 := HBr.out.cell' HY4.out
   rcases Nat.lt_or_ge j kn with hjn | hjn
   ·have hjl : j < ks.length := by rw [HL.out]; exact hjn
    have c0 := (Bel.trans HB.out HBr.out).cell' (HC.out j hjl)
    have HSj := Lib.hid (fun V => rstr_any ks[j] (HK.out _ (List.getElem_mem hjl)) V)
    cases hs : strB ks[j] with
    | false =>
     rw [hs] at HSj
     have hz := Lib.hid (asc_no hjl HM.out hs)
     generalize ks[j] = t at *
     clear hs
     go_wp2_with fail
     have HSj2 := Lib.hid (show ∀ W,W.cell? ⟨w.heap.size,3,none⟩ = some (.slice (some ⟨b,off,none⟩) kn kc) ∧ W.cell? ⟨w.heap.size,4,none⟩ = some (.slice jo jn jc) ∧ W.cell? ⟨b,off + j,none⟩ = some (.string ⟨t.toArray⟩) ∧ Bel wr W → Calls Tryz.prog 146 #[.string ⟨t.toArray⟩] W fun e w' => e = .returned (.bool false) ∧ w'.cell? ⟨w.heap.size,3,none⟩ = some (.slice (some ⟨b,off,none⟩) kn kc) ∧ w'.cell? ⟨w.heap.size,4,none⟩ = some (.slice jo jn jc) ∧ w'.cell? ⟨b,off + j,none⟩ = some (.string ⟨t.toArray⟩) ∧ Bel wr w' from fun W hS => (HSj.out W).mono fun e w' k => ⟨k.1,k.2.cell' hS.1,k.2.cell' hS.2.1,k.2.cell' hS.2.2.1,Bel.trans hS.2.2.2 k.2⟩)
     refine wp_region_held_drew (S := fun W => W.cell? ⟨w.heap.size,3,none⟩ = some (.slice (some ⟨b,off,none⟩) kn kc) ∧ W.cell? ⟨w.heap.size,4,none⟩ = some (.slice jo jn jc) ∧ W.cell? ⟨b,off + j,none⟩ = some (.string ⟨t.toArray⟩) ∧ Bel wr W) (by kernel_rfl) ⟨y3,y4,c0,Below.drew (Bel.refl _)⟩ (fun hH => ?_)
     refine tk1 (i := 0) (d := 121) (v := ?_) rfl rfl ?_ ?_
     rotate_left 1
     ·rintro w ⟨z0,z1,z2,z3⟩
      go_simp
      with_reducible rfl
     try simp only [Act.put,List.setIfInBounds_toArray,List.set_cons_zero,List.set_cons_succ]
     refine tk1 (i := 1) (d := 122) (v := ?_) rfl rfl ?_ ?_
     rotate_left 1
     ·rintro w ⟨z0,z1,z2,z3⟩
      go_simp
      with_reducible rfl
     try simp only [Act.put,List.setIfInBounds_toArray,List.set_cons_zero,List.set_cons_succ]
     refine tk1 (i := 2) (d := 123) (v := ?_) rfl rfl ?_ ?_
     rotate_left 1
     ·rintro w ⟨z0,z1,z2,z3⟩
      go_simp
      with_reducible rfl
     try simp only [Act.put,List.setIfInBounds_toArray,List.set_cons_zero,List.set_cons_succ]
     refine tk1 (i := 3) (d := 124) (v := ?_) rfl rfl ?_ ?_
     rotate_left 1
     ·rintro w ⟨z0,z1,z2,z3⟩
      go_simp
      with_reducible rfl
     try simp only [Act.put,List.setIfInBounds_toArray,List.set_cons_zero,List.set_cons_succ]
     refine tk1 (i := 4) (d := 125) (v := ?_) rfl rfl ?_ ?_
     rotate_left 1
     ·rintro w ⟨z0,z1,z2,z3⟩
      go_simp
      with_reducible rfl
     try simp only [Act.put,List.setIfInBounds_toArray,List.set_cons_zero,List.set_cons_succ]
     refine wpAnyH_ready (rs := [5]) (by kernel_rfl) (by simp) ?_
     refine AllReadyH.cons rfl (fun K hK => ?_) AllReadyH.nil
     go_simp
     refine (HSj2.out _ hH).mono ?_
     rintro e w8 ⟨rfl,hG⟩
     clear hH
     refine hK.out _ _ hG (fun hH => ?_)
     clear hK K hG
     try simp only [Act.put,List.setIfInBounds_toArray,List.set_cons_zero,List.set_cons_succ]
     refine tk1 (i := 6) (d := 127) (v := ?_) rfl rfl ?_ ?_
     rotate_left 1
     ·rintro w ⟨z0,z1,z2,z3⟩
      go_simp
      with_reducible rfl
     try simp only [Act.put,List.setIfInBounds_toArray,List.set_cons_zero,List.set_cons_succ]
     refine tk1 (i := 7) (d := 128) (v := ?_) rfl rfl ?_ ?_
     rotate_left 1
     ·rintro w ⟨z0,z1,z2,z3⟩
      go_simp
      with_reducible rfl
     try simp only [Act.put,List.setIfInBounds_toArray,List.set_cons_zero,List.set_cons_succ]
     refine tk0 (i := 8) (d := 129) rfl rfl ?_
     try simp only [Act.put,List.setIfInBounds_toArray,List.set_cons_zero,List.set_cons_succ]
     refine tk0 (i := 9) (d := 130) rfl rfl ?_
     try simp only [Act.put,List.setIfInBounds_toArray,List.set_cons_zero,List.set_cons_succ]
     refine tk0 (i := 10) (d := 131) rfl rfl ?_
     try simp only [Act.put,List.setIfInBounds_toArray,List.set_cons_zero,List.set_cons_succ]
     refine tk0 (i := 11) (d := 132) rfl rfl ?_
     try simp only [Act.put,List.setIfInBounds_toArray,List.set_cons_zero,List.set_cons_succ]
     refine tk0 (i := 12) (d := 133) rfl rfl ?_
     try simp only [Act.put,List.setIfInBounds_toArray,List.set_cons_zero,List.set_cons_succ]
     refine tk0 (i := 13) (d := 134) rfl rfl ?_
     try simp only [Act.put,List.setIfInBounds_toArray,List.set_cons_zero,List.set_cons_succ]
     refine tk0 (i := 14) (d := 135) rfl rfl ?_
     try simp only [Act.put,List.setIfInBounds_toArray,List.set_cons_zero,List.set_cons_succ]
     refine tk0 (i := 15) (d := 136) rfl rfl ?_
     try simp only [Act.put,List.setIfInBounds_toArray,List.set_cons_zero,List.set_cons_succ]
     refine tk0 (i := 16) (d := 137) rfl rfl ?_
     try simp only [Act.put,List.setIfInBounds_toArray,List.set_cons_zero,List.set_cons_succ]
     refine tk0 (i := 17) (d := 138) rfl rfl ?_
     try simp only [Act.put,List.setIfInBounds_toArray,List.set_cons_zero,List.set_cons_succ]
     refine tk0 (i := 18) (d := 139) rfl rfl ?_
     try simp only [Act.put,List.setIfInBounds_toArray,List.set_cons_zero,List.set_cons_succ]
     refine tk0 (i := 19) (d := 140) rfl rfl ?_
     try simp only [Act.put,List.setIfInBounds_toArray,List.set_cons_zero,List.set_cons_succ]
     refine tk0 (i := 20) (d := 141) rfl rfl ?_
     try simp only [Act.put,List.setIfInBounds_toArray,List.set_cons_zero,List.set_cons_succ]
     refine tk0 (i := 21) (d := 142) rfl rfl ?_
     try simp only [Act.put,List.setIfInBounds_toArray,List.set_cons_zero,List.set_cons_succ]
     refine tk0 (i := 22) (d := 143) rfl rfl ?_
     try simp only [Act.put,List.setIfInBounds_toArray,List.set_cons_zero,List.set_cons_succ]
     refine tk0 (i := 23) (d := 144) rfl rfl ?_
     try simp only [Act.put,List.setIfInBounds_toArray,List.set_cons_zero,List.set_cons_succ]
     refine tk1 (i := 24) (d := 145) (v := ?_) rfl rfl ?_ ?_
     rotate_left 1
     ·rintro w ⟨z0,z1,z2,z3⟩
      go_simp
      with_reducible rfl
     try simp only [Act.put,List.setIfInBounds_toArray,List.set_cons_zero,List.set_cons_succ]
     refine wpAnyH_done (by kernel_rfl) ?_ _
     obtain ⟨a0,a1,a2,a3⟩ := hH
     have G := a3
     go_wp2_with fail
     go_ret
     exact ⟨by rw [hz.out]; simp,Bel.trans HB.out (Bel.trans HBr.out G)⟩
    | true =>
     rw [hs] at HSj
     cases j with
     | zero =>
      have hM2 := Lib.hid (asc_first hjl HM.out hs)
      rw [Nat.add_zero] at c0
      generalize ks[0] = t at *
      clear hs
      go_wp2_with fail
      have HSj2 := Lib.hid (show ∀ W,W.cell? ⟨w.heap.size,3,none⟩ = some (.slice (some ⟨b,off,none⟩) kn kc) ∧ W.cell? ⟨w.heap.size,4,none⟩ = some (.slice jo jn jc) ∧ W.cell? ⟨b,off,none⟩ = some (.string ⟨t.toArray⟩) ∧ Bel wr W → Calls Tryz.prog 146 #[.string ⟨t.toArray⟩] W fun e w' => e = .returned (.bool true) ∧ w'.cell? ⟨w.heap.size,3,none⟩ = some (.slice (some ⟨b,off,none⟩) kn kc) ∧ w'.cell? ⟨w.heap.size,4,none⟩ = some (.slice jo jn jc) ∧ w'.cell? ⟨b,off,none⟩ = some (.string ⟨t.toArray⟩) ∧ Bel wr w' from fun W hS => (HSj.out W).mono fun e w' k => ⟨k.1,k.2.cell' hS.1,k.2.cell' hS.2.1,k.2.cell' hS.2.2.1,Bel.trans hS.2.2.2 k.2⟩)
      refine wp_region_held_drew (S := fun W => W.cell? ⟨w.heap.size,3,none⟩ = some (.slice (some ⟨b,off,none⟩) kn kc) ∧ W.cell? ⟨w.heap.size,4,none⟩ = some (.slice jo jn jc) ∧ W.cell? ⟨b,off,none⟩ = some (.string ⟨t.toArray⟩) ∧ Bel wr W) (by kernel_rfl) ⟨y3,y4,c0,Below.drew (Bel.refl _)⟩ (fun hH => ?_)
      refine tk1 (i := 0) (d := 121) (v := ?_) rfl rfl ?_ ?_
      rotate_left 1
      ·rintro w ⟨z0,z1,z2,z3⟩
       go_simp
       with_reducible rfl
      try simp only [Act.put,List.setIfInBounds_toArray,List.set_cons_zero,List.set_cons_succ]
      refine tk1 (i := 1) (d := 122) (v := ?_) rfl rfl ?_ ?_
      rotate_left 1
      ·rintro w ⟨z0,z1,z2,z3⟩
       go_simp
       with_reducible rfl
      try simp only [Act.put,List.setIfInBounds_toArray,List.set_cons_zero,List.set_cons_succ]
      refine tk1 (i := 2) (d := 123) (v := ?_) rfl rfl ?_ ?_
      rotate_left 1
      ·rintro w ⟨z0,z1,z2,z3⟩
       go_simp
       with_reducible rfl
      try simp only [Act.put,List.setIfInBounds_toArray,List.set_cons_zero,List.set_cons_succ]
      refine tk1 (i := 3) (d := 124) (v := ?_) rfl rfl ?_ ?_
      rotate_left 1
      ·rintro w ⟨z0,z1,z2,z3⟩
       go_simp
       with_reducible rfl
      try simp only [Act.put,List.setIfInBounds_toArray,List.set_cons_zero,List.set_cons_succ]
      refine tk1 (i := 4) (d := 125) (v := ?_) rfl rfl ?_ ?_
      rotate_left 1
      ·rintro w ⟨z0,z1,z2,z3⟩
       go_simp
       with_reducible rfl
      try simp only [Act.put,List.setIfInBounds_toArray,List.set_cons_zero,List.set_cons_succ]
      refine wpAnyH_ready (rs := [5]) (by kernel_rfl) (by simp) ?_
      refine AllReadyH.cons rfl (fun K hK => ?_) AllReadyH.nil
      go_simp
      refine (HSj2.out _ hH).mono ?_
      rintro e w8 ⟨rfl,hG⟩
      clear hH
      refine hK.out _ _ hG (fun hH => ?_)
      clear hK K hG
      try simp only [Act.put,List.setIfInBounds_toArray,List.set_cons_zero,List.set_cons_succ]
      refine tk1 (i := 6) (d := 127) (v := ?_) rfl rfl ?_ ?_
      rotate_left 1
      ·rintro w ⟨z0,z1,z2,z3⟩
       go_simp
       with_reducible rfl
      try simp only [Act.put,List.setIfInBounds_toArray,List.set_cons_zero,List.set_cons_succ]
      refine tk1 (i := 7) (d := 128) (v := ?_) rfl rfl ?_ ?_
      rotate_left 1
      ·rintro w ⟨z0,z1,z2,z3⟩
       go_simp
       with_reducible rfl
      try simp only [Act.put,List.setIfInBounds_toArray,List.set_cons_zero,List.set_cons_succ]
      refine tk1 (i := 8) (d := 129) (v := ?_) rfl rfl ?_ ?_
      rotate_left 1
      ·rintro w ⟨z0,z1,z2,z3⟩
       go_simp
       with_reducible rfl
      try simp only [Act.put,List.setIfInBounds_toArray,List.set_cons_zero,List.set_cons_succ]
      refine tk1 (i := 9) (d := 130) (v := ?_) rfl rfl ?_ ?_
      rotate_left 1
      ·rintro w ⟨z0,z1,z2,z3⟩
       go_simp
       with_reducible rfl
      try simp only [Act.put,List.setIfInBounds_toArray,List.set_cons_zero,List.set_cons_succ]
      refine tk1 (i := 10) (d := 131) (v := ?_) rfl rfl ?_ ?_
      rotate_left 1
      ·rintro w ⟨z0,z1,z2,z3⟩
       go_simp
       with_reducible rfl
      try simp only [Act.put,List.setIfInBounds_toArray,List.set_cons_zero,List.set_cons_succ]
      refine tk0 (i := 11) (d := 132) rfl rfl ?_
      try simp only [Act.put,List.setIfInBounds_toArray,List.set_cons_zero,List.set_cons_succ]
      refine tk0 (i := 12) (d := 133) rfl rfl ?_
      try simp only [Act.put,List.setIfInBounds_toArray,List.set_cons_zero,List.set_cons_succ]
      refine tk0 (i := 13) (d := 134) rfl rfl ?_
      try simp only [Act.put,List.setIfInBounds_toArray,List.set_cons_zero,List.set_cons_succ]
      refine tk0 (i := 14) (d := 135) rfl rfl ?_
      try simp only [Act.put,List.setIfInBounds_toArray,List.set_cons_zero,List.set_cons_succ]
      refine tk0 (i := 15) (d := 136) rfl rfl ?_
      try simp only [Act.put,List.setIfInBounds_toArray,List.set_cons_zero,List.set_cons_succ]
      refine tk0 (i := 16) (d := 137) rfl rfl ?_
      try simp only [Act.put,List.setIfInBounds_toArray,List.set_cons_zero,List.set_cons_succ]
      refine tk0 (i := 17) (d := 138) rfl rfl ?_
      try simp only [Act.put,List.setIfInBounds_toArray,List.set_cons_zero,List.set_cons_succ]
      refine tk0 (i := 18) (d := 139) rfl rfl ?_
      try simp only [Act.put,List.setIfInBounds_toArray,List.set_cons_zero,List.set_cons_succ]
      refine tk0 (i := 19) (d := 140) rfl rfl ?_
      try simp only [Act.put,List.setIfInBounds_toArray,List.set_cons_zero,List.set_cons_succ]
      refine tk0 (i := 20) (d := 141) rfl rfl ?_
      try simp only [Act.put,List.setIfInBounds_toArray,List.set_cons_zero,List.set_cons_succ]
      refine tk0 (i := 21) (d := 142) rfl rfl ?_
      try simp only [Act.put,List.setIfInBounds_toArray,List.set_cons_zero,List.set_cons_succ]
      refine tk0 (i := 22) (d := 143) rfl rfl ?_
      try simp only [Act.put,List.setIfInBounds_toArray,List.set_cons_zero,List.set_cons_succ]
      refine tk1 (i := 23) (d := 144) (v := ?_) rfl rfl ?_ ?_
      rotate_left 1
      ·rintro w ⟨z0,z1,z2,z3⟩
       go_simp
       with_reducible rfl
      try simp only [Act.put,List.setIfInBounds_toArray,List.set_cons_zero,List.set_cons_succ]
      refine tk1 (i := 24) (d := 145) (v := ?_) rfl rfl ?_ ?_
      rotate_left 1
      ·rintro w ⟨z0,z1,z2,z3⟩
       go_simp
       with_reducible rfl
      try simp only [Act.put,List.setIfInBounds_toArray,List.set_cons_zero,List.set_cons_succ]
      refine wpAnyH_done (by kernel_rfl) ?_ _
      obtain ⟨a0,a1,a2,a3⟩ := hH
      have G := a3
      go_wp2_with fail
      go_round
      case rel => exact ⟨1,rfl,by omega,hM2,Lib.hid (Bel.trans HBr.out G)⟩
      case measure => simp [intOf]; omega
     | succ j =>
      have hjl1 : j < ks.length := by omega
      have c1 := (Bel.trans HB.out HBr.out).cell' (HC.out j hjl1)
      cases hle : leqT ks[j + 1] ks[j] with
      | true =>
       have hz := Lib.hid (asc_leq hjl HM.out hs hle)
       unfold leqT at hle
       generalize ks[j + 1] = t at *
       generalize ks[j] = u at *
       clear hs
       go_wp2_with fail
       have hj1 : (0 : Int) ≤ (j : Int) + 1 := by omega
       have hj2 : (0 : Int) ≤ (j : Int) := by omega
       have hj3 : (j : Int) < (kn : Int) := by omega
       have hj4 : IntKind.i64.wrap (j : Int) = (j : Int) := by rw [IntKind.wrap_i64]; omega
       have HSj2 := Lib.hid (show ∀ W,W.cell? ⟨w.heap.size,3,none⟩ = some (.slice (some ⟨b,off,none⟩) kn kc) ∧ W.cell? ⟨w.heap.size,4,none⟩ = some (.slice jo jn jc) ∧ W.cell? ⟨b,off + (j + 1),none⟩ = some (.string ⟨t.toArray⟩) ∧ W.cell? ⟨b,off + j,none⟩ = some (.string ⟨u.toArray⟩) ∧ Bel wr W → Calls Tryz.prog 146 #[.string ⟨t.toArray⟩] W fun e w' => e = .returned (.bool true) ∧ w'.cell? ⟨w.heap.size,3,none⟩ = some (.slice (some ⟨b,off,none⟩) kn kc) ∧ w'.cell? ⟨w.heap.size,4,none⟩ = some (.slice jo jn jc) ∧ w'.cell? ⟨b,off + (j + 1),none⟩ = some (.string ⟨t.toArray⟩) ∧ w'.cell? ⟨b,off + j,none⟩ = some (.string ⟨u.toArray⟩) ∧ Bel wr w' from fun W hS => (HSj.out W).mono fun e w' k => ⟨k.1,k.2.cell' hS.1,k.2.cell' hS.2.1,k.2.cell' hS.2.2.1,k.2.cell' hS.2.2.2.1,Bel.trans hS.2.2.2.2 k.2⟩)
       refine wp_region_held_drew (S := fun W => W.cell? ⟨w.heap.size,3,none⟩ = some (.slice (some ⟨b,off,none⟩) kn kc) ∧ W.cell? ⟨w.heap.size,4,none⟩ = some (.slice jo jn jc) ∧ W.cell? ⟨b,off + (j + 1),none⟩ = some (.string ⟨t.toArray⟩) ∧ W.cell? ⟨b,off + j,none⟩ = some (.string ⟨u.toArray⟩) ∧ Bel wr W) (by kernel_rfl) ⟨y3,y4,c0,c1,Below.drew (Bel.refl _)⟩ (fun hH => ?_)
       refine tk1 (i := 0) (d := 121) (v := ?_) rfl rfl ?_ ?_
       rotate_left 1
       ·rintro w ⟨z0,z1,z2,z3,z4⟩
        go_simp
        with_reducible rfl
       try simp only [Act.put,List.setIfInBounds_toArray,List.set_cons_zero,List.set_cons_succ]
       refine tk1 (i := 1) (d := 122) (v := ?_) rfl rfl ?_ ?_
       rotate_left 1
       ·rintro w ⟨z0,z1,z2,z3,z4⟩
        go_simp
        with_reducible rfl
       try simp only [Act.put,List.setIfInBounds_toArray,List.set_cons_zero,List.set_cons_succ]
       refine tk1 (i := 2) (d := 123) (v := ?_) rfl rfl ?_ ?_
       rotate_left 1
       ·rintro w ⟨z0,z1,z2,z3,z4⟩
        go_simp
        with_reducible rfl
       try simp only [Act.put,List.setIfInBounds_toArray,List.set_cons_zero,List.set_cons_succ]
       refine tk1 (i := 3) (d := 124) (v := ?_) rfl rfl ?_ ?_
       rotate_left 1
       ·rintro w ⟨z0,z1,z2,z3,z4⟩
        go_simp
        with_reducible rfl
       try simp only [Act.put,List.setIfInBounds_toArray,List.set_cons_zero,List.set_cons_succ]
       refine tk1 (i := 4) (d := 125) (v := ?_) rfl rfl ?_ ?_
       rotate_left 1
       ·rintro w ⟨z0,z1,z2,z3,z4⟩
        go_simp
        with_reducible rfl
       try simp only [Act.put,List.setIfInBounds_toArray,List.set_cons_zero,List.set_cons_succ]
       refine wpAnyH_ready (rs := [5]) (by kernel_rfl) (by simp) ?_
       refine AllReadyH.cons rfl (fun K hK => ?_) AllReadyH.nil
       go_simp
       refine (HSj2.out _ hH).mono ?_
       rintro e w8 ⟨rfl,hG⟩
       clear hH
       refine hK.out _ _ hG (fun hH => ?_)
       clear hK K hG
       try simp only [Act.put,List.setIfInBounds_toArray,List.set_cons_zero,List.set_cons_succ]
       refine tk1 (i := 6) (d := 127) (v := ?_) rfl rfl ?_ ?_
       rotate_left 1
       ·rintro w ⟨z0,z1,z2,z3,z4⟩
        go_simp
        with_reducible rfl
       try simp only [Act.put,List.setIfInBounds_toArray,List.set_cons_zero,List.set_cons_succ]
       refine tk1 (i := 7) (d := 128) (v := ?_) rfl rfl ?_ ?_
       rotate_left 1
       ·rintro w ⟨z0,z1,z2,z3,z4⟩
        go_simp
        with_reducible rfl
       try simp only [Act.put,List.setIfInBounds_toArray,List.set_cons_zero,List.set_cons_succ]
       refine tk1 (i := 8) (d := 129) (v := ?_) rfl rfl ?_ ?_
       rotate_left 1
       ·rintro w ⟨z0,z1,z2,z3,z4⟩
        go_simp
        with_reducible rfl
       try simp only [Act.put,List.setIfInBounds_toArray,List.set_cons_zero,List.set_cons_succ]
       refine tk1 (i := 9) (d := 130) (v := .bool true) rfl rfl ?_ ?_
       ·rintro w ⟨z0,z1,z2,z3,z4⟩
        go_simp
        try simp
        try omega
       try simp only [Act.put,List.setIfInBounds_toArray,List.set_cons_zero,List.set_cons_succ]
       refine tk1 (i := 10) (d := 131) (v := ?_) rfl rfl ?_ ?_
       rotate_left 1
       ·rintro w ⟨z0,z1,z2,z3,z4⟩
        go_simp
        with_reducible rfl
       try simp only [Act.put,List.setIfInBounds_toArray,List.set_cons_zero,List.set_cons_succ]
       refine tk1 (i := 11) (d := 132) (v := ?_) rfl rfl ?_ ?_
       rotate_left 1
       ·rintro w ⟨z0,z1,z2,z3,z4⟩
        go_simp
        with_reducible rfl
       try simp only [Act.put,List.setIfInBounds_toArray,List.set_cons_zero,List.set_cons_succ]
       refine tk1 (i := 12) (d := 133) (v := ?_) rfl rfl ?_ ?_
       rotate_left 1
       ·rintro w ⟨z0,z1,z2,z3,z4⟩
        go_simp
        with_reducible rfl
       try simp only [Act.put,List.setIfInBounds_toArray,List.set_cons_zero,List.set_cons_succ]
       refine tk1 (i := 13) (d := 134) (v := ?_) rfl rfl ?_ ?_
       rotate_left 1
       ·rintro w ⟨z0,z1,z2,z3,z4⟩
        go_simp
        with_reducible rfl
       try simp only [Act.put,List.setIfInBounds_toArray,List.set_cons_zero,List.set_cons_succ]
       refine tk1 (i := 14) (d := 135) (v := ?_) rfl rfl ?_ ?_
       rotate_left 1
       ·rintro w ⟨z0,z1,z2,z3,z4⟩
        go_simp
        with_reducible rfl
       try simp only [Act.put,List.setIfInBounds_toArray,List.set_cons_zero,List.set_cons_succ]
       refine tk1 (i := 15) (d := 136) (v := ?_) rfl rfl ?_ ?_
       rotate_left 1
       ·rintro w ⟨z0,z1,z2,z3,z4⟩
        go_simp
        with_reducible rfl
       try simp only [Act.put,List.setIfInBounds_toArray,List.set_cons_zero,List.set_cons_succ]
       refine tk1 (i := 16) (d := 137) (v := ?_) rfl rfl ?_ ?_
       rotate_left 1
       ·rintro w ⟨z0,z1,z2,z3,z4⟩
        go_simp
        with_reducible rfl
       try simp only [Act.put,List.setIfInBounds_toArray,List.set_cons_zero,List.set_cons_succ]
       refine tk1 (i := 17) (d := 138) (v := ?_) rfl rfl ?_ ?_
       rotate_left 1
       ·rintro w ⟨z0,z1,z2,z3,z4⟩
        go_simp
        with_reducible rfl
       try simp only [Act.put,List.setIfInBounds_toArray,List.set_cons_zero,List.set_cons_succ]
       refine tk1 (i := 18) (d := 139) (v := ?_) rfl rfl ?_ ?_
       rotate_left 1
       ·rintro w ⟨z0,z1,z2,z3,z4⟩
        go_simp
        with_reducible rfl
       try simp only [Act.put,List.setIfInBounds_toArray,List.set_cons_zero,List.set_cons_succ]
       refine tk1 (i := 19) (d := 140) (v := ?_) rfl rfl ?_ ?_
       rotate_left 1
       ·rintro w ⟨z0,z1,z2,z3,z4⟩
        go_simp
        with_reducible rfl
       try simp only [Act.put,List.setIfInBounds_toArray,List.set_cons_zero,List.set_cons_succ]
       refine tk1 (i := 20) (d := 141) (v := ?_) rfl rfl ?_ ?_
       rotate_left 1
       ·rintro w ⟨z0,z1,z2,z3,z4⟩
        go_simp
        with_reducible rfl
       try simp only [Act.put,List.setIfInBounds_toArray,List.set_cons_zero,List.set_cons_succ]
       refine tk1 (i := 21) (d := 142) (v := ?_) rfl rfl ?_ ?_
       rotate_left 1
       ·rintro w ⟨z0,z1,z2,z3,z4⟩
        go_simp
        with_reducible rfl
       try simp only [Act.put,List.setIfInBounds_toArray,List.set_cons_zero,List.set_cons_succ]
       refine tk1 (i := 22) (d := 143) (v := ?_) rfl rfl ?_ ?_
       rotate_left 1
       ·rintro w ⟨z0,z1,z2,z3,z4⟩
        go_simp
        with_reducible rfl
       try simp only [Act.put,List.setIfInBounds_toArray,List.set_cons_zero,List.set_cons_succ]
       refine tk1 (i := 23) (d := 144) (v := ?_) rfl rfl ?_ ?_
       rotate_left 1
       ·rintro w ⟨z0,z1,z2,z3,z4⟩
        go_simp
        with_reducible rfl
       try simp only [Act.put,List.setIfInBounds_toArray,List.set_cons_zero,List.set_cons_succ]
       refine tk1 (i := 24) (d := 145) (v := ?_) rfl rfl ?_ ?_
       rotate_left 1
       ·rintro w ⟨z0,z1,z2,z3,z4⟩
        go_simp
        with_reducible rfl
       try simp only [Act.put,List.setIfInBounds_toArray,List.set_cons_zero,List.set_cons_succ]
       refine wpAnyH_done (by kernel_rfl) ?_ _
       obtain ⟨a0,a1,a2,a3,a4⟩ := hH
       have G := a4
       go_wp2_with fail
       go_ret
       exact ⟨by rw [hz.out]; simp,Bel.trans HB.out (Bel.trans HBr.out G)⟩
      | false =>
       have hM2 := Lib.hid (asc_go hjl HM.out hs hle)
       unfold leqT at hle
       generalize ks[j + 1] = t at *
       generalize ks[j] = u at *
       clear hs
       go_wp2_with fail
       have hj1 : (0 : Int) ≤ (j : Int) + 1 := by omega
       have hj2 : (0 : Int) ≤ (j : Int) := by omega
       have hj3 : (j : Int) < (kn : Int) := by omega
       have hj4 : IntKind.i64.wrap (j : Int) = (j : Int) := by rw [IntKind.wrap_i64]; omega
       have HSj2 := Lib.hid (show ∀ W,W.cell? ⟨w.heap.size,3,none⟩ = some (.slice (some ⟨b,off,none⟩) kn kc) ∧ W.cell? ⟨w.heap.size,4,none⟩ = some (.slice jo jn jc) ∧ W.cell? ⟨b,off + (j + 1),none⟩ = some (.string ⟨t.toArray⟩) ∧ W.cell? ⟨b,off + j,none⟩ = some (.string ⟨u.toArray⟩) ∧ Bel wr W → Calls Tryz.prog 146 #[.string ⟨t.toArray⟩] W fun e w' => e = .returned (.bool true) ∧ w'.cell? ⟨w.heap.size,3,none⟩ = some (.slice (some ⟨b,off,none⟩) kn kc) ∧ w'.cell? ⟨w.heap.size,4,none⟩ = some (.slice jo jn jc) ∧ w'.cell? ⟨b,off + (j + 1),none⟩ = some (.string ⟨t.toArray⟩) ∧ w'.cell? ⟨b,off + j,none⟩ = some (.string ⟨u.toArray⟩) ∧ Bel wr w' from fun W hS => (HSj.out W).mono fun e w' k => ⟨k.1,k.2.cell' hS.1,k.2.cell' hS.2.1,k.2.cell' hS.2.2.1,k.2.cell' hS.2.2.2.1,Bel.trans hS.2.2.2.2 k.2⟩)
       refine wp_region_held_drew (S := fun W => W.cell? ⟨w.heap.size,3,none⟩ = some (.slice (some ⟨b,off,none⟩) kn kc) ∧ W.cell? ⟨w.heap.size,4,none⟩ = some (.slice jo jn jc) ∧ W.cell? ⟨b,off + (j + 1),none⟩ = some (.string ⟨t.toArray⟩) ∧ W.cell? ⟨b,off + j,none⟩ = some (.string ⟨u.toArray⟩) ∧ Bel wr W) (by kernel_rfl) ⟨y3,y4,c0,c1,Below.drew (Bel.refl _)⟩ (fun hH => ?_)
       refine tk1 (i := 0) (d := 121) (v := ?_) rfl rfl ?_ ?_
       rotate_left 1
       ·rintro w ⟨z0,z1,z2,z3,z4⟩
        go_simp
        with_reducible rfl
       try simp only [Act.put,List.setIfInBounds_toArray,List.set_cons_zero,List.set_cons_succ]
       refine tk1 (i := 1) (d := 122) (v := ?_) rfl rfl ?_ ?_
       rotate_left 1
       ·rintro w ⟨z0,z1,z2,z3,z4⟩
        go_simp
        with_reducible rfl
       try simp only [Act.put,List.setIfInBounds_toArray,List.set_cons_zero,List.set_cons_succ]
       refine tk1 (i := 2) (d := 123) (v := ?_) rfl rfl ?_ ?_
       rotate_left 1
       ·rintro w ⟨z0,z1,z2,z3,z4⟩
        go_simp
        with_reducible rfl
       try simp only [Act.put,List.setIfInBounds_toArray,List.set_cons_zero,List.set_cons_succ]
       refine tk1 (i := 3) (d := 124) (v := ?_) rfl rfl ?_ ?_
       rotate_left 1
       ·rintro w ⟨z0,z1,z2,z3,z4⟩
        go_simp
        with_reducible rfl
       try simp only [Act.put,List.setIfInBounds_toArray,List.set_cons_zero,List.set_cons_succ]
       refine tk1 (i := 4) (d := 125) (v := ?_) rfl rfl ?_ ?_
       rotate_left 1
       ·rintro w ⟨z0,z1,z2,z3,z4⟩
        go_simp
        with_reducible rfl
       try simp only [Act.put,List.setIfInBounds_toArray,List.set_cons_zero,List.set_cons_succ]
       refine wpAnyH_ready (rs := [5]) (by kernel_rfl) (by simp) ?_
       refine AllReadyH.cons rfl (fun K hK => ?_) AllReadyH.nil
       go_simp
       refine (HSj2.out _ hH).mono ?_
       rintro e w8 ⟨rfl,hG⟩
       clear hH
       refine hK.out _ _ hG (fun hH => ?_)
       clear hK K hG
       try simp only [Act.put,List.setIfInBounds_toArray,List.set_cons_zero,List.set_cons_succ]
       refine tk1 (i := 6) (d := 127) (v := ?_) rfl rfl ?_ ?_
       rotate_left 1
       ·rintro w ⟨z0,z1,z2,z3,z4⟩
        go_simp
        with_reducible rfl
       try simp only [Act.put,List.setIfInBounds_toArray,List.set_cons_zero,List.set_cons_succ]
       refine tk1 (i := 7) (d := 128) (v := ?_) rfl rfl ?_ ?_
       rotate_left 1
       ·rintro w ⟨z0,z1,z2,z3,z4⟩
        go_simp
        with_reducible rfl
       try simp only [Act.put,List.setIfInBounds_toArray,List.set_cons_zero,List.set_cons_succ]
       refine tk1 (i := 8) (d := 129) (v := ?_) rfl rfl ?_ ?_
       rotate_left 1
       ·rintro w ⟨z0,z1,z2,z3,z4⟩
        go_simp
        with_reducible rfl
       try simp only [Act.put,List.setIfInBounds_toArray,List.set_cons_zero,List.set_cons_succ]
       refine tk1 (i := 9) (d := 130) (v := .bool true) rfl rfl ?_ ?_
       ·rintro w ⟨z0,z1,z2,z3,z4⟩
        go_simp
        try simp
        try omega
       try simp only [Act.put,List.setIfInBounds_toArray,List.set_cons_zero,List.set_cons_succ]
       refine tk1 (i := 10) (d := 131) (v := ?_) rfl rfl ?_ ?_
       rotate_left 1
       ·rintro w ⟨z0,z1,z2,z3,z4⟩
        go_simp
        with_reducible rfl
       try simp only [Act.put,List.setIfInBounds_toArray,List.set_cons_zero,List.set_cons_succ]
       refine tk1 (i := 11) (d := 132) (v := ?_) rfl rfl ?_ ?_
       rotate_left 1
       ·rintro w ⟨z0,z1,z2,z3,z4⟩
        go_simp
        with_reducible rfl
       try simp only [Act.put,List.setIfInBounds_toArray,List.set_cons_zero,List.set_cons_succ]
       refine tk1 (i := 12) (d := 133) (v := ?_) rfl rfl ?_ ?_
       rotate_left 1
       ·rintro w ⟨z0,z1,z2,z3,z4⟩
        go_simp
        with_reducible rfl
       try simp only [Act.put,List.setIfInBounds_toArray,List.set_cons_zero,List.set_cons_succ]
       refine tk1 (i := 13) (d := 134) (v := ?_) rfl rfl ?_ ?_
       rotate_left 1
       ·rintro w ⟨z0,z1,z2,z3,z4⟩
        go_simp
        with_reducible rfl
       try simp only [Act.put,List.setIfInBounds_toArray,List.set_cons_zero,List.set_cons_succ]
       refine tk1 (i := 14) (d := 135) (v := ?_) rfl rfl ?_ ?_
       rotate_left 1
       ·rintro w ⟨z0,z1,z2,z3,z4⟩
        go_simp
        with_reducible rfl
       try simp only [Act.put,List.setIfInBounds_toArray,List.set_cons_zero,List.set_cons_succ]
       refine tk1 (i := 15) (d := 136) (v := ?_) rfl rfl ?_ ?_
       rotate_left 1
       ·rintro w ⟨z0,z1,z2,z3,z4⟩
        go_simp
        with_reducible rfl
       try simp only [Act.put,List.setIfInBounds_toArray,List.set_cons_zero,List.set_cons_succ]
       refine tk1 (i := 16) (d := 137) (v := ?_) rfl rfl ?_ ?_
       rotate_left 1
       ·rintro w ⟨z0,z1,z2,z3,z4⟩
        go_simp
        with_reducible rfl
       try simp only [Act.put,List.setIfInBounds_toArray,List.set_cons_zero,List.set_cons_succ]
       refine tk1 (i := 17) (d := 138) (v := ?_) rfl rfl ?_ ?_
       rotate_left 1
       ·rintro w ⟨z0,z1,z2,z3,z4⟩
        go_simp
        with_reducible rfl
       try simp only [Act.put,List.setIfInBounds_toArray,List.set_cons_zero,List.set_cons_succ]
       refine tk1 (i := 18) (d := 139) (v := ?_) rfl rfl ?_ ?_
       rotate_left 1
       ·rintro w ⟨z0,z1,z2,z3,z4⟩
        go_simp
        with_reducible rfl
       try simp only [Act.put,List.setIfInBounds_toArray,List.set_cons_zero,List.set_cons_succ]
       refine tk1 (i := 19) (d := 140) (v := ?_) rfl rfl ?_ ?_
       rotate_left 1
       ·rintro w ⟨z0,z1,z2,z3,z4⟩
        go_simp
        with_reducible rfl
       try simp only [Act.put,List.setIfInBounds_toArray,List.set_cons_zero,List.set_cons_succ]
       refine tk1 (i := 20) (d := 141) (v := ?_) rfl rfl ?_ ?_
       rotate_left 1
       ·rintro w ⟨z0,z1,z2,z3,z4⟩
        go_simp
        with_reducible rfl
       try simp only [Act.put,List.setIfInBounds_toArray,List.set_cons_zero,List.set_cons_succ]
       refine tk1 (i := 21) (d := 142) (v := ?_) rfl rfl ?_ ?_
       rotate_left 1
       ·rintro w ⟨z0,z1,z2,z3,z4⟩
        go_simp
        with_reducible rfl
       try simp only [Act.put,List.setIfInBounds_toArray,List.set_cons_zero,List.set_cons_succ]
       refine tk1 (i := 22) (d := 143) (v := ?_) rfl rfl ?_ ?_
       rotate_left 1
       ·rintro w ⟨z0,z1,z2,z3,z4⟩
        go_simp
        with_reducible rfl
       try simp only [Act.put,List.setIfInBounds_toArray,List.set_cons_zero,List.set_cons_succ]
       refine tk1 (i := 23) (d := 144) (v := ?_) rfl rfl ?_ ?_
       rotate_left 1
       ·rintro w ⟨z0,z1,z2,z3,z4⟩
        go_simp
        with_reducible rfl
       try simp only [Act.put,List.setIfInBounds_toArray,List.set_cons_zero,List.set_cons_succ]
       refine tk1 (i := 24) (d := 145) (v := ?_) rfl rfl ?_ ?_
       rotate_left 1
       ·rintro w ⟨z0,z1,z2,z3,z4⟩
        go_simp
        with_reducible rfl
       try simp only [Act.put,List.setIfInBounds_toArray,List.set_cons_zero,List.set_cons_succ]
       refine wpAnyH_done (by kernel_rfl) ?_ _
       obtain ⟨a0,a1,a2,a3,a4⟩ := hH
       have G := a4
       go_wp2_with fail
       go_round
       case rel => exact ⟨j + 2,by go_num,by omega,hM2,Lib.hid (Bel.trans HBr.out G)⟩
       case measure => simp [intOf]; omega
   ·have hz : Hid (X = true) := Lib.hid (by
     have := HM.out
     rw [List.drop_eq_nil_of_le (by rw [HL.out]; exact hjn)] at this
     rw [← this]
     cases prevK ks j <;> rfl)
    obtain rfl : j = kn := by omega
    go_wp2_with fail
    go_ret
    exact ⟨by rw [hz.out]; simp,Bel.trans HB.out HBr.out⟩
end Syn
end Go.Proofs.YtcapkeaedpabjaaGreatDoor
