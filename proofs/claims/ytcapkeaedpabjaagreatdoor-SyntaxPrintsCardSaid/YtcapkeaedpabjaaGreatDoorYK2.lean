/-
  Layer 8, texts merged: SrD, SrE. For every argument within the bounds that each theorem names.
-/
import Derived.Test.YtcapkeaedpabjaaGreatDoorYK1
import Derived.Test.YtcapkeaedpabjaaGreatDoorYJ1
import Derived.Deep.DeepCutAuto
import Derived.Test.YtcapkeaedpabjaaGreatDoorYJ2
import Derived.Deep.Quiet
set_option maxRecDepth 100000
set_option maxHeartbeats 16000000

/-
 Layer 8, the reference: parts.
-/
namespace Go.Proofs.YtcapkeaedpabjaaGreatDoor
open Go.RowKit Go.ChangeShapes Go.WideShapes
namespace Syn
theorem loop_no {k : Int} {j : Nat} {Z : List Int} {X : Bool} (hj : j < Z.length) (h : loopG k j (Z.drop j) = X) (hb : kidG k j Z[j] = false) : X = false := by
 rw [List.drop_eq_getElem_cons hj,loopG,hb,Bool.false_and] at h
 exact h.symm
theorem loop_go {k : Int} {j : Nat} {Z : List Int} {X : Bool} (hj : j < Z.length) (h : loopG k j (Z.drop j) = X) (hb : kidG k j Z[j] = true) : loopG k (j + 1) (Z.drop (j + 1)) = X := by
 rw [List.drop_eq_getElem_cons hj,loopG,hb,Bool.true_and] at h
 exact h
theorem loop_end {k : Int} {j : Nat} {Z : List Int} {X : Bool} (hj : Z.length ≤ j) (h : loopG k j (Z.drop j) = X) : X = true := by
 rw [List.drop_eq_nil_of_le hj,loopG] at h
 exact h.symm
theorem kind_at {L : List Nd} {z : Nat} (h : z < L.length) : kindAt L (z : Int) = L[z].k := by
 unfold kindAt
 rw [Int.toNat_natCast,List.getElem?_eq_getElem h]
theorem rprt_no (k : Int) (no jo : Option Addr) (n nc m jc : Nat) (s : ByteArray) (i : Int) (ko : Option Addr) (kn kc : Nat) (hm : m ≤ 4611686018427387904) (har : arG k m = false) (w : World) :
  Calls Tryz.prog 91 #[.slice no n nc,.agg #[.int .i64 k,.string s,.int .i64 i,.slice ko kn kc,.slice jo m jc]] w fun e w' => e = .returned (.bool false) ∧ Bel w w' := by
 unfold arG at har
 have HB := Lib.hid (Bel.alloc (Bel.refl w) (.cells #[.int .i64 k,.string s,.int .i64 i,.slice ko kn kc,.slice jo m jc] 65))
 by_cases c0 : k < 1
 ·clear har
  go_enter Tryz.func91,Tryz.ntmps91
  go_wp2_with fail
  go_ret
  exact ⟨rfl,HB.out⟩
 by_cases c1 : 19 < k
 ·clear har
  go_enter Tryz.func91,Tryz.ntmps91
  go_wp2_with fail
  go_ret
  exact ⟨rfl,HB.out⟩
 rcases (show k = 1 ∨ k = 2 ∨ k = 3 ∨ k = 4 ∨ k = 5 ∨ k = 6 ∨ k = 7 ∨ k = 8 ∨ k = 9 ∨ k = 10 ∨ k = 11 ∨ k = 12 ∨ k = 13 ∨ k = 14 ∨ k = 15 ∨ k = 16 ∨ k = 17 ∨ k = 18 ∨ k = 19 by omega) with rfl | rfl | rfl | rfl | rfl | rfl | rfl | rfl | rfl | rfl | rfl | rfl | rfl | rfl | rfl | rfl | rfl | rfl | rfl
 ·have hn0 : m ≠ 0 := by rintro rfl; simp at har
  have hb0 : ((m : Int) == 0) = false := by simp; omega
  have hc0 : ((m : Int) != 0) = true := by simp; omega
  clear har
  go_enter Tryz.func91,Tryz.ntmps91
  go_wp2_with fail
  go_ret
  exact ⟨rfl,HB.out⟩
 ·have hn0 : m ≠ 0 := by rintro rfl; simp at har
  have hb0 : ((m : Int) == 0) = false := by simp; omega
  have hc0 : ((m : Int) != 0) = true := by simp; omega
  clear har
  go_enter Tryz.func91,Tryz.ntmps91
  go_wp2_with fail
  go_ret
  exact ⟨rfl,HB.out⟩
 ·have hn0 : m ≠ 0 := by rintro rfl; simp at har
  have hb0 : ((m : Int) == 0) = false := by simp; omega
  have hc0 : ((m : Int) != 0) = true := by simp; omega
  clear har
  go_enter Tryz.func91,Tryz.ntmps91
  go_wp2_with fail
  go_ret
  exact ⟨rfl,HB.out⟩
 ·have hn0 : m ≠ 0 := by rintro rfl; simp at har
  have hb0 : ((m : Int) == 0) = false := by simp; omega
  have hc0 : ((m : Int) != 0) = true := by simp; omega
  clear har
  go_enter Tryz.func91,Tryz.ntmps91
  go_wp2_with fail
  go_ret
  exact ⟨rfl,HB.out⟩
 ·have hn0 : m ≠ 0 := by rintro rfl; simp at har
  have hb0 : ((m : Int) == 0) = false := by simp; omega
  have hc0 : ((m : Int) != 0) = true := by simp; omega
  clear har
  go_enter Tryz.func91,Tryz.ntmps91
  go_wp2_with fail
  go_ret
  exact ⟨rfl,HB.out⟩
 ·simp at har
 ·simp at har
 ·have hn1 : m ≠ 1 := by rintro rfl; simp at har
  have hb1 : ((m : Int) == 1) = false := by simp; omega
  have hc1 : ((m : Int) != 1) = true := by simp; omega
  clear har
  go_enter Tryz.func91,Tryz.ntmps91
  go_wp2_with fail
  go_ret
  exact ⟨rfl,HB.out⟩
 ·have hn2 : m ≠ 2 := by rintro rfl; simp at har
  have hb2 : ((m : Int) == 2) = false := by simp; omega
  have hc2 : ((m : Int) != 2) = true := by simp; omega
  clear har
  go_enter Tryz.func91,Tryz.ntmps91
  go_wp2_with fail
  go_ret
  exact ⟨rfl,HB.out⟩
 ·have hn2 : m ≠ 2 := by rintro rfl; simp at har
  have hb2 : ((m : Int) == 2) = false := by simp; omega
  have hc2 : ((m : Int) != 2) = true := by simp; omega
  clear har
  go_enter Tryz.func91,Tryz.ntmps91
  go_wp2_with fail
  go_ret
  exact ⟨rfl,HB.out⟩
 ·simp at har
 ·simp at har
 ·have hn1 : m ≠ 1 := by rintro rfl; simp at har
  have hb1 : ((m : Int) == 1) = false := by simp; omega
  have hc1 : ((m : Int) != 1) = true := by simp; omega
  clear har
  go_enter Tryz.func91,Tryz.ntmps91
  go_wp2_with fail
  go_ret
  exact ⟨rfl,HB.out⟩
 ·have hn1 : m ≠ 1 := by rintro rfl; simp at har
  have hb1 : ((m : Int) == 1) = false := by simp; omega
  have hc1 : ((m : Int) != 1) = true := by simp; omega
  clear har
  go_enter Tryz.func91,Tryz.ntmps91
  go_wp2_with fail
  go_ret
  exact ⟨rfl,HB.out⟩
 ·have hn2 : m ≠ 2 := by rintro rfl; simp at har
  have hb2 : ((m : Int) == 2) = false := by simp; omega
  have hc2 : ((m : Int) != 2) = true := by simp; omega
  have hn3 : m ≠ 3 := by rintro rfl; simp at har
  have hb3 : ((m : Int) == 3) = false := by simp; omega
  have hc3 : ((m : Int) != 3) = true := by simp; omega
  clear har
  go_enter Tryz.func91,Tryz.ntmps91
  go_wp2_with fail
  go_ret
  exact ⟨rfl,HB.out⟩
 ·have hn2 : m ≠ 2 := by rintro rfl; simp at har
  have hb2 : ((m : Int) == 2) = false := by simp; omega
  have hc2 : ((m : Int) != 2) = true := by simp; omega
  clear har
  go_enter Tryz.func91,Tryz.ntmps91
  go_wp2_with fail
  go_ret
  exact ⟨rfl,HB.out⟩
 ·have hn1 : m ≠ 1 := by rintro rfl; simp at har
  have hb1 : ((m : Int) == 1) = false := by simp; omega
  have hc1 : ((m : Int) != 1) = true := by simp; omega
  clear har
  go_enter Tryz.func91,Tryz.ntmps91
  go_wp2_with fail
  go_ret
  exact ⟨rfl,HB.out⟩
 ·have hn1 : m ≠ 1 := by rintro rfl; simp at har
  have hb1 : ((m : Int) == 1) = false := by simp; omega
  have hc1 : ((m : Int) != 1) = true := by simp; omega
  clear har
  go_enter Tryz.func91,Tryz.ntmps91
  go_wp2_with fail
  go_ret
  exact ⟨rfl,HB.out⟩
 ·simp at har
theorem rprt_go (k : Int) (no jo : Option Addr) (n nc m jc : Nat) (s : ByteArray) (i : Int) (ko : Option Addr) (kn kc : Nat) (L : List Nd) (kids : List Int) (hm : m ≤ 4611686018427387904) (hk : ∀ z ∈ kids,0 ≤ z ∧ z < (n : Int)) (har : arG k m = true) (w : World) (hA : NArg w no n L) (hK : ZArg w jo m kids) :
  Calls Tryz.prog 91 #[.slice no n nc,.agg #[.int .i64 k,.string s,.int .i64 i,.slice ko kn kc,.slice jo m jc]] w fun e w' => e = .returned (.bool (loopG k 0 (kids.map (kindAt L)))) ∧ Bel w w' := by
 obtain ⟨X,hX⟩ : ∃ X,loopG k 0 (kids.map (kindAt L)) = X := ⟨_,rfl⟩
 have HX := Lib.hid hX
 have HA := Lib.hid hA
 have HK := Lib.hid hK
 have Hk := Lib.hid hk
 have hlen : kids.length = m := hK.1
 have HL := Lib.hid hlen
 rw [hX]
 unfold arG at har
 have hk1 : 1 ≤ k ∧ k ≤ 19 := by
  refine ⟨?_,?_⟩
  ·by_cases q : 1 ≤ k
   ·exact q
   ·rw [if_pos (by omega)] at har; cases har
  ·by_cases q : k ≤ 19
   ·exact q
   ·rw [if_pos (by omega)] at har; cases har
 have Har := Lib.hid har
 obtain ⟨V,hV⟩ : ∃ V,w.alloc (.cells #[.int .i64 k,.string s,.int .i64 i,.slice ko kn kc,.slice jo m jc] 65) = V := ⟨_,rfl⟩
 have HBV := Lib.hid (show Bel w V by rw [← hV]; exact Bel.alloc (Bel.refl w) _)
 have HV4 := Lib.hid (show V.cell? ⟨w.heap.size,4,none⟩ = some (.slice jo m jc) by rw [← hV]; exact (box5 w _ _ _ _ _ _).2.2.2.2)
 have HV := Lib.hid hV
 clear hX hA hK hk hlen hV har
 go_enter Tryz.func91,Tryz.ntmps91
 go_upto_region 3 with (fail)
 go_cut [27] (fun s wx => s = .bool false ∧ wx = V)
 case first =>
  have har := Har.out
  rcases (show k = 1 ∨ k = 2 ∨ k = 3 ∨ k = 4 ∨ k = 5 ∨ 6 ≤ k by omega) with rfl | rfl | rfl | rfl | rfl | h6
  iterate 5
   ·have hm0 : m = 0 := by simpa using har
    subst hm0
    clear har Har
    go_wp2_with fail
    go_meet
    exact ⟨rfl,HV.out⟩
  ·have a1 : ¬ k < 1 := by omega
   have a2 : ¬ 19 < k := by omega
   have a3 : ¬ k ≤ 5 := by omega
   clear har
   go_wp2_with fail
   go_meet
   exact ⟨rfl,HV.out⟩
 case rest =>
  obtain ⟨rfl,hw⟩ := hcut
  obtain rfl := hw.symm
  go_upto_region 5 with (fail)
  go_cut [77] (fun s wx => s = .bool false ∧ wx = V)
  case first =>
   have har := Har.out
   rcases (show k = 1 ∨ k = 2 ∨ k = 3 ∨ k = 4 ∨ k = 5 ∨ k = 6 ∨ k = 7 ∨ k = 8 ∨ k = 9 ∨ k = 10 ∨ k = 11 ∨ k = 12 ∨ k = 13 ∨ k = 14 ∨ k = 15 ∨ k = 16 ∨ k = 17 ∨ k = 18 ∨ k = 19 by omega) with rfl | rfl | rfl | rfl | rfl | rfl | rfl | rfl | rfl | rfl | rfl | rfl | rfl | rfl | rfl | rfl | rfl | rfl | rfl
   ·clear har Har
    go_wp2_with fail
    go_meet
    exact ⟨rfl,rfl⟩
   ·clear har Har
    go_wp2_with fail
    go_meet
    exact ⟨rfl,rfl⟩
   ·clear har Har
    go_wp2_with fail
    go_meet
    exact ⟨rfl,rfl⟩
   ·clear har Har
    go_wp2_with fail
    go_meet
    exact ⟨rfl,rfl⟩
   ·clear har Har
    go_wp2_with fail
    go_meet
    exact ⟨rfl,rfl⟩
   ·clear har Har
    go_wp2_with fail
    go_meet
    exact ⟨rfl,rfl⟩
   ·clear har Har
    go_wp2_with fail
    go_meet
    exact ⟨rfl,rfl⟩
   ·have hm1 : m = 1 := by simpa using har
    subst hm1
    clear har Har
    go_wp2_with fail
    go_meet
    exact ⟨rfl,rfl⟩
   ·have hm1 : m = 2 := by simpa using har
    subst hm1
    clear har Har
    go_wp2_with fail
    go_meet
    exact ⟨rfl,rfl⟩
   ·have hm1 : m = 2 := by simpa using har
    subst hm1
    clear har Har
    go_wp2_with fail
    go_meet
    exact ⟨rfl,rfl⟩
   ·clear har Har
    go_wp2_with fail
    go_meet
    exact ⟨rfl,rfl⟩
   ·clear har Har
    go_wp2_with fail
    go_meet
    exact ⟨rfl,rfl⟩
   ·have hm1 : m = 1 := by simpa using har
    subst hm1
    clear har Har
    go_wp2_with fail
    go_meet
    exact ⟨rfl,rfl⟩
   ·have hm1 : m = 1 := by simpa using har
    subst hm1
    clear har Har
    go_wp2_with fail
    go_meet
    exact ⟨rfl,rfl⟩
   ·have hm1 : m = 2 ∨ m = 3 := by simpa using har
    rcases hm1 with rfl | rfl
    ·clear har Har
     go_wp2_with fail
     go_meet
     exact ⟨rfl,rfl⟩
    ·clear har Har
     go_wp2_with fail
     go_meet
     exact ⟨rfl,rfl⟩
   ·have hm1 : m = 2 := by simpa using har
    subst hm1
    clear har Har
    go_wp2_with fail
    go_meet
    exact ⟨rfl,rfl⟩
   ·have hm1 : m = 1 := by simpa using har
    subst hm1
    clear har Har
    go_wp2_with fail
    go_meet
    exact ⟨rfl,rfl⟩
   ·have hm1 : m = 1 := by simpa using har
    subst hm1
    clear har Har
    go_wp2_with fail
    go_meet
    exact ⟨rfl,rfl⟩
   ·clear har Har
    go_wp2_with fail
    go_meet
    exact ⟨rfl,rfl⟩
  case rest =>
   obtain ⟨rfl,hw⟩ := hcut
   obtain rfl := hw.symm
   clear Har
   go_wp2_with fail
   go_loopw [7] (fun iv wr => ∃ j : Nat,iv = .int .i64 (j : Int) ∧ j ≤ m ∧ Hid (loopG k j ((kids.map (kindAt L)).drop j) = X) ∧ Hid (Bel V wr)) (fun iv _ => m - (intOf iv).toNat)
   case atStart => exact ⟨0,rfl,Nat.zero_le _,HX,Lib.hid (Bel.refl _)⟩
   case round =>
    obtain ⟨j,rfl,hj,HM,HB⟩ := hrel
    rename World => wr
    have y4 := HB.out.cell' HV4.out
    rcases Nat.lt_or_ge j m with hjm | hjm
    ·have hjl : j < kids.length := by rw [HL.out]; exact hjm
     have hjz : j < (kids.map (kindAt L)).length := by rw [List.length_map]; exact hjl
     obtain ⟨b2,off2,rfl,hck⟩ := za_addr HK.out (by omega)
     have cK := (Bel.trans HBV.out HB.out).cell' (hck j hjl)
     obtain ⟨hz0,hzn⟩ := Hk.out kids[j] (List.getElem_mem hjl)
     obtain ⟨zn,hzk⟩ : ∃ zn : Nat,kids[j] = (zn : Int) := ⟨kids[j].toNat,by omega⟩
     rw [hzk] at cK hzn
     have hznL : zn < L.length := by rw [HA.out.1]; omega
     obtain ⟨b,off,rfl,hcs⟩ := HA.out.2 (by omega)
     obtain ⟨v,hv,hcc⟩ := hcs zn hznL
     have hbw := Bel.trans HBV.out HB.out
     have c0 : wr.cell? ⟨b,off + zn * 5,none⟩ = some (.int .i64 v.k) := hbw.cell' (by simpa using hcc 0 _ rfl)
     have c1 : wr.cell? ⟨b,off + zn * 5 + 1,none⟩ = some (.string ⟨v.s.toArray⟩) := hbw.cell' (by simpa using hcc 1 _ rfl)
     have c2 : wr.cell? ⟨b,off + zn * 5 + 2,none⟩ = some (.int .i64 v.i) := hbw.cell' (by simpa using hcc 2 _ rfl)
     have c3 : wr.cell? ⟨b,off + zn * 5 + 3,none⟩ = some (.slice v.ko v.kn v.kc) := hbw.cell' (by simpa using hcc 3 _ rfl)
     have c4 : wr.cell? ⟨b,off + zn * 5 + 4,none⟩ = some (.slice v.jo v.jn v.jc) := hbw.cell' (by simpa using hcc 4 _ rfl)
     have hZj : (kids.map (kindAt L))[j] = v.k := by rw [List.getElem_map,hzk,kind_at hznL,hv.k]
     have hmi : (j : Int) < (m : Int) := by omega
     have Hno := Lib.hid (fun h : kidG k j v.k = false => loop_no hjz HM.out (by rw [hZj]; exact h))
     have Hgo := Lib.hid (fun h : kidG k j v.k = true => loop_go hjz HM.out (by rw [hZj]; exact h))
     obtain ⟨vk,vs,vi,vko,vkn,vkc,vjo,vjn,vjc⟩ := v
     dsimp only at c0 c1 c2 c3 c4 Hno Hgo
     clear hv hcc hcs hck hbw hzk hznL hZj hz0 hjz hjl
     by_cases g19 : k = 19
     ·subst g19
      have HE := Lib.hid (fun W => rstmt_any vk ⟨vs.toArray⟩ vi vko vjo vkn vkc vjn vjc W)
      cases hb : decide (13 ≤ vk ∧ vk ≤ 18) with
      | false =>
       rw [hb] at HE
       have hz := Lib.hid (Hno.out (by unfold kidG; rw [if_pos rfl]; exact hb))
       clear hb Hno Hgo
       go_wp2_with fail
       refine (HE.out _).mono ?_
       rintro e w2 ⟨rfl,g⟩
       go_wp2_with fail
       go_ret
       exact ⟨by rw [hz.out]; rfl,Bel.trans HBV.out (Bel.trans HB.out (Bel.trans (Bel.alloc (Bel.refl _) _) g))⟩
      | true =>
       rw [hb] at HE
       have hM2 := Lib.hid (Hgo.out (by unfold kidG; rw [if_pos rfl]; exact hb))
       clear hb Hno Hgo
       go_wp2_with fail
       refine (HE.out _).mono ?_
       rintro e w2 ⟨rfl,g⟩
       go_wp2_with fail
       go_round
       case rel => exact ⟨j + 1,by go_num,by omega,hM2,Lib.hid (Bel.trans HB.out (Bel.trans (Bel.alloc (Bel.refl _) _) g))⟩
       case measure => first | (simp [intOf]; done) | (simp [intOf]; omega)
     by_cases g15 : k = 15 ∨ k = 16
     ·have b19 : (k == 19) = false := by simpa using g19
      cases j with
      | zero =>
       rw [Nat.add_zero] at cK
       rcases g15 with rfl | rfl
       ·have HE := Lib.hid (fun W => rexpr_any vk ⟨vs.toArray⟩ vi vko vjo vkn vkc vjn vjc W)
        cases hb : decide (1 ≤ vk ∧ vk ≤ 12) with
        | false =>
         rw [hb] at HE
         have hz := Lib.hid (Hno.out (by unfold kidG; rw [if_neg (by decide),if_neg (by omega)]; exact hb))
         clear hb Hno Hgo
         go_wp2_with fail
         refine (HE.out _).mono ?_
         rintro e w2 ⟨rfl,g⟩
         go_wp2_with fail
         go_ret
         exact ⟨by rw [hz.out]; rfl,Bel.trans HBV.out (Bel.trans HB.out (Bel.trans (Bel.alloc (Bel.refl _) _) g))⟩
        | true =>
         rw [hb] at HE
         have hM2 := Lib.hid (Hgo.out (by unfold kidG; rw [if_neg (by decide),if_neg (by omega)]; exact hb))
         clear hb Hno Hgo
         go_wp2_with fail
         refine (HE.out _).mono ?_
         rintro e w2 ⟨rfl,g⟩
         go_wp2_with fail
         go_round
         case rel => exact ⟨1,rfl,by omega,hM2,Lib.hid (Bel.trans HB.out (Bel.trans (Bel.alloc (Bel.refl _) _) g))⟩
         case measure => first | (simp [intOf]; done) | (simp [intOf]; omega)
       ·have HE := Lib.hid (fun W => rexpr_any vk ⟨vs.toArray⟩ vi vko vjo vkn vkc vjn vjc W)
        cases hb : decide (1 ≤ vk ∧ vk ≤ 12) with
        | false =>
         rw [hb] at HE
         have hz := Lib.hid (Hno.out (by unfold kidG; rw [if_neg (by decide),if_neg (by omega)]; exact hb))
         clear hb Hno Hgo
         go_wp2_with fail
         refine (HE.out _).mono ?_
         rintro e w2 ⟨rfl,g⟩
         go_wp2_with fail
         go_ret
         exact ⟨by rw [hz.out]; rfl,Bel.trans HBV.out (Bel.trans HB.out (Bel.trans (Bel.alloc (Bel.refl _) _) g))⟩
        | true =>
         rw [hb] at HE
         have hM2 := Lib.hid (Hgo.out (by unfold kidG; rw [if_neg (by decide),if_neg (by omega)]; exact hb))
         clear hb Hno Hgo
         go_wp2_with fail
         refine (HE.out _).mono ?_
         rintro e w2 ⟨rfl,g⟩
         go_wp2_with fail
         go_round
         case rel => exact ⟨1,rfl,by omega,hM2,Lib.hid (Bel.trans HB.out (Bel.trans (Bel.alloc (Bel.refl _) _) g))⟩
         case measure => first | (simp [intOf]; done) | (simp [intOf]; omega)
      | succ j =>
       rcases g15 with rfl | rfl
       ·have hj1 : (0 : Int) < ((j + 1 : Nat) : Int) := by omega
        by_cases hb : vk = 19
        ·have hM2 := Lib.hid (Hgo.out (by unfold kidG; rw [if_neg (by omega),if_pos (by omega)]; exact decide_eq_true hb))
         subst hb
         clear Hno Hgo
         go_wp2_with fail
         go_round
         case rel => exact ⟨j + 2,by go_num,by omega,hM2,Lib.hid (Bel.trans HB.out (Bel.alloc (Bel.refl _) _))⟩
         case measure => first | (simp [intOf]; done) | (simp [intOf]; omega)
        ·have hz := Lib.hid (Hno.out (by unfold kidG; rw [if_neg (by omega),if_pos (by omega)]; exact decide_eq_false hb))
         have hb2 : (vk == 19) = false := by simpa using hb
         clear Hno Hgo
         go_wp2_with fail
         go_ret
         exact ⟨by rw [hz.out]; rfl,Bel.trans HBV.out (Bel.trans HB.out (Bel.alloc (Bel.refl _) _))⟩
       ·have hj1 : (0 : Int) < ((j + 1 : Nat) : Int) := by omega
        by_cases hb : vk = 19
        ·have hM2 := Lib.hid (Hgo.out (by unfold kidG; rw [if_neg (by omega),if_pos (by omega)]; exact decide_eq_true hb))
         subst hb
         clear Hno Hgo
         go_wp2_with fail
         go_round
         case rel => exact ⟨j + 2,by go_num,by omega,hM2,Lib.hid (Bel.trans HB.out (Bel.alloc (Bel.refl _) _))⟩
         case measure => first | (simp [intOf]; done) | (simp [intOf]; omega)
        ·have hz := Lib.hid (Hno.out (by unfold kidG; rw [if_neg (by omega),if_pos (by omega)]; exact decide_eq_false hb))
         have hb2 : (vk == 19) = false := by simpa using hb
         clear Hno Hgo
         go_wp2_with fail
         go_ret
         exact ⟨by rw [hz.out]; rfl,Bel.trans HBV.out (Bel.trans HB.out (Bel.alloc (Bel.refl _) _))⟩
     have b19 : (k == 19) = false := by simpa using g19
     have b15 : (k == 15) = false := by simp; omega
     have b16 : (k == 16) = false := by simp; omega
     have HE := Lib.hid (fun W => rexpr_any vk ⟨vs.toArray⟩ vi vko vjo vkn vkc vjn vjc W)
     cases hb : decide (1 ≤ vk ∧ vk ≤ 12) with
     | false =>
      rw [hb] at HE
      have hz := Lib.hid (Hno.out (by unfold kidG; rw [if_neg g19,if_neg (by omega)]; exact hb))
      clear hb Hno Hgo
      go_wp2_with fail
      refine (HE.out _).mono ?_
      rintro e w2 ⟨rfl,g⟩
      go_wp2_with fail
      go_ret
      exact ⟨by rw [hz.out]; rfl,Bel.trans HBV.out (Bel.trans HB.out (Bel.trans (Bel.alloc (Bel.refl _) _) g))⟩
     | true =>
      rw [hb] at HE
      have hM2 := Lib.hid (Hgo.out (by unfold kidG; rw [if_neg g19,if_neg (by omega)]; exact hb))
      clear hb Hno Hgo
      go_wp2_with fail
      refine (HE.out _).mono ?_
      rintro e w2 ⟨rfl,g⟩
      go_wp2_with fail
      go_round
      case rel => exact ⟨j + 1,by go_num,by omega,hM2,Lib.hid (Bel.trans HB.out (Bel.trans (Bel.alloc (Bel.refl _) _) g))⟩
      case measure => first | (simp [intOf]; done) | (simp [intOf]; omega)
    ·have hz := Lib.hid (loop_end (by rw [List.length_map,HL.out]; exact hjm) HM.out)
     obtain rfl : j = m := by omega
     go_wp2_with fail
     go_ret
     exact ⟨by rw [hz.out]; rfl,Bel.trans HBV.out HB.out⟩
theorem rprt_any (k : Int) (no jo : Option Addr) (n nc m jc : Nat) (s : ByteArray) (i : Int) (ko : Option Addr) (kn kc : Nat) (L : List Nd) (kids : List Int) (hm : m ≤ 4611686018427387904) (hk : ∀ z ∈ kids,0 ≤ z ∧ z < (n : Int)) (w : World) (hA : NArg w no n L) (hK : ZArg w jo m kids) :
  Calls Tryz.prog 91 #[.slice no n nc,.agg #[.int .i64 k,.string s,.int .i64 i,.slice ko kn kc,.slice jo m jc]] w fun e w' => e = .returned (.bool (partB k (rolesL L kids))) ∧ Bel w w' := by
 rw [rolesL_map,part_is,List.length_map,hK.1]
 cases har : arG k m with
 | false => exact rprt_no k no jo n nc m jc s i ko kn kc hm har w
 | true => exact rprt_go k no jo n nc m jc s i ko kn kc L kids hm hk har w hA hK
theorem rfld_all (k : Int) (s : Txt) (hs : s.length ≤ 140737488355328) (i : Int) (ko jo : Option Addr) (kn kc jn jc : Nat) (ks : List Txt) (hkn : kn ≤ 4611686018427387904) (hks : ∀ t ∈ ks,t.length ≤ 140737488355328) (w : World) (hA : KArg w ko kn ks) :
  Calls Tryz.prog 90 #[.agg #[.int .i64 k,.string ⟨s.toArray⟩,.int .i64 i,.slice ko kn kc,.slice jo jn jc]] w fun e w' => e = .returned (.bool (intF k i && (textB k s && keysB k ks jn))) ∧ Bel w w' := by
 by_cases h : k = 7
 ·subst h
  exact rfld_7 s i ko jo kn kc jn jc ks hkn hks w hA
 ·exact rfld_any k h s hs i ko jo kn kc jn jc ks (by have := hA.1; rw [List.length_map] at this; exact this) w
theorem alloc_sz (w : World) (o : Obj) : (w.alloc o).heap.size = w.heap.size + 1 := by show (w.heap.push o).size = _; simp
def Rwb (S : Nat → Prop) (base : Nat) (w : World) (a1 : Option Addr) (m1 c1 : Nat) (p1 : List Int) (a2 : Option Addr) (m2 c2 : Nat) (p2 : List Int) : Prop :=
 w.ownsRow base 3 1 (.slice a1 m1 c1) m1 (encZ p1) ∧ w.ownsRow base 3 1 (.slice a2 m2 c2) m2 (encZ p2) ∧
 (∀ b,(Value.slice a1 m1 c1).ownBlock = some b → (Value.slice a2 m2 c2).ownBlock ≠ some b ∧ ¬ S b) ∧ ∀ b,(Value.slice a2 m2 c2).ownBlock = some b → ¬ S b
theorem Rwb.nil (S : Nat → Prop) (base : Nat) (w : World) : Rwb S base w none 0 0 [] none 0 0 [] := ⟨World.ownsRow_nil _ _ _ _,World.ownsRow_nil _ _ _ _,(fun b e => by cases e),(fun b e => by cases e)⟩
theorem Rwb.kept {S : Nat → Prop} {base : Nat} {F : Nat → Prop} {w w' : World} {a1 a2 : Option Addr} {m1 c1 m2 c2 : Nat} {p1 p2 : List Int} (h : Rwb S base w a1 m1 c1 p1 a2 m2 c2 p2) (g : Mod F w w') (hF : ∀ b,base ≤ b → F b → S b) : Rwb S base w' a1 m1 c1 p1 a2 m2 c2 p2 :=
 ⟨own_kept h.1 g (fun b e q => (h.2.2.1 b e).2 (hF b (h.1.lt b e).1 q)),own_kept h.2.1 g (fun b e q => h.2.2.2 b e (hF b (h.2.1.lt b e).1 q)),h.2.2⟩
theorem Rwb.on {S : Nat → Prop} {base : Nat} {w w' : World} {a1 a2 : Option Addr} {m1 c1 m2 c2 : Nat} {p1 p2 : List Int} (h : Rwb S base w a1 m1 c1 p1 a2 m2 c2 p2) (b : Bel w w') : Rwb S base w' a1 m1 c1 p1 a2 m2 c2 p2 :=
 h.kept (F := fun _ => False) (Mod.of_bel b) (fun _ _ h => h.elim)
theorem Rwb.swap {S : Nat → Prop} {base : Nat} {w : World} {a1 a2 : Option Addr} {m1 c1 m2 c2 : Nat} {p1 p2 : List Int} (h : Rwb S base w a1 m1 c1 p1 a2 m2 c2 p2) : Rwb S base w a2 m2 c2 p2 a1 m1 c1 p1 :=
 ⟨h.2.1,h.1,fun b e => ⟨fun q => (h.2.2.1 b q).1 e,h.2.2.2 b e⟩,fun b e => (h.2.2.1 b e).2⟩
theorem Rwb.weak {S T : Nat → Prop} {base : Nat} {w : World} {a1 a2 : Option Addr} {m1 c1 m2 c2 : Nat} {p1 p2 : List Int} (h : Rwb S base w a1 m1 c1 p1 a2 m2 c2 p2) (hT : ∀ b,T b → S b) : Rwb T base w a1 m1 c1 p1 a2 m2 c2 p2 :=
 ⟨h.1,h.2.1,fun b e => ⟨(h.2.2.1 b e).1,fun q => (h.2.2.1 b e).2 (hT b q)⟩,fun b e q => h.2.2.2 b e (hT b q)⟩
theorem list_app1 {S : Nat → Prop} {base : Nat} {Y : World} {m1 c1 m2 c2 : Nat} {a1 a2 : Option Addr} {p1 p2 : List Int} {x : Int} {b : Nat} {ops : Array Oper} {rest : List Oper} {o : Oper} {a : Act} {Q : Exit → Act → World → Prop} (s y : Operand)
  (ho : o.op = .call { callee := .builtin .append,args := #[s,y],argTypes := #[38,38] }) (hgd : o.guard = none) (hs : a.eval s = .slice a1 m1 c1) (hx : a.eval y = .slice (some ⟨b,0,none⟩) 1 1)
  (hR : Rwb S base Y a1 m1 c1 p1 a2 m2 c2 p2) (hbase : base ≤ Y.heap.size) (hS : ∀ i,Y.heap.size ≤ i → ¬ S i) (h2 : ∀ j u,[Value.int .i64 x][j]? = some u → Y.cell? ((⟨b,0,none⟩ : Addr).add j) = some u) (hm : m1 + 1 ≤ 1099511627776)
  (h : ∀ o3 c3 w',Hid (Rwb S base w' o3 (m1 + 1) c3 (p1 ++ [x]) a2 m2 c2 p2) → Hid (Mod (fun b => base ≤ b ∧ ¬ S b) Y w') → wpList Tryz.prog ops Q rest (a.put o.dst (.slice o3 (m1 + 1) c3)) w') : wpList Tryz.prog ops Q (o :: rest) a Y := by
 obtain ⟨i0,hi,hz0,hz1,hz2⟩ := info_parts info_int
 obtain ⟨h1,hV,hd,hd2⟩ := hR
 refine wpList_append_own_at _ hgd s y 38 ho base 3 i0 _ 1 8 Tryz.underlying38 hi hz0 hz1 hz2 rfl (by decide) _ m1 _ hs h1 ⟨b,0,none⟩ 1 1 [.int .i64 x] hx rfl h2 (fun u hu => by simp at hu; subst hu; rfl) (by unfold maxLen; omega) (by omega) hbase ?_
 intro v' w' ho' hg _ hat
 obtain ⟨o3,c3,rfl⟩ := own_shape ho'
 have hne : (Value.slice a2 m2 c2).ownBlock = none ∨ (Value.slice a2 m2 c2).ownBlock ≠ (Value.slice a1 m1 c1).ownBlock := by
  cases hv : (Value.slice a1 m1 c1).ownBlock with
  | none =>
   cases hw : (Value.slice a2 m2 c2).ownBlock with
   | none => exact .inl rfl
   | some q => exact .inr (by simp)
  | some q => exact .inr (hd q hv).1
 refine h o3 c3 w' (Lib.hid ⟨by rw [show encZ (p1 ++ [x]) = encZ p1 ++ [.int .i64 x] by simp [encZ]]; exact ho',hV.kept hg hne,fun q e => ?_,hd2⟩) (Lib.hid (Mod.grown hg (fun i e => ⟨(h1.lt i e).1,(hd i e).2⟩)))
 rcases hat with hat | hat
 ·rw [hat] at e
  exact hd q e
 ·rw [hat] at e
  cases e
  exact ⟨fun hv => by have := (hV.lt _ hv).2; omega,hS _ (Nat.le_refl _)⟩
theorem list_app2 {S : Nat → Prop} {base : Nat} {Y : World} {m1 c1 m2 c2 : Nat} {a1 a2 : Option Addr} {p1 p2 : List Int} {x : Int} {b : Nat} {ops : Array Oper} {rest : List Oper} {o : Oper} {a : Act} {Q : Exit → Act → World → Prop} (s y : Operand)
  (ho : o.op = .call { callee := .builtin .append,args := #[s,y],argTypes := #[38,38] }) (hgd : o.guard = none) (hs : a.eval s = .slice a2 m2 c2) (hx : a.eval y = .slice (some ⟨b,0,none⟩) 1 1)
  (hR : Rwb S base Y a1 m1 c1 p1 a2 m2 c2 p2) (hbase : base ≤ Y.heap.size) (hS : ∀ i,Y.heap.size ≤ i → ¬ S i) (h2 : ∀ j u,[Value.int .i64 x][j]? = some u → Y.cell? ((⟨b,0,none⟩ : Addr).add j) = some u) (hm : m2 + 1 ≤ 1099511627776)
  (h : ∀ o3 c3 w',Hid (Rwb S base w' a1 m1 c1 p1 o3 (m2 + 1) c3 (p2 ++ [x])) → Hid (Mod (fun b => base ≤ b ∧ ¬ S b) Y w') → wpList Tryz.prog ops Q rest (a.put o.dst (.slice o3 (m2 + 1) c3)) w') : wpList Tryz.prog ops Q (o :: rest) a Y :=
 list_app1 s y ho hgd hs hx hR.swap hbase hS h2 hm fun o3 c3 w' k => h o3 c3 w' (Lib.hid k.out.swap)
theorem Rwb.arg1 {S : Nat → Prop} {base : Nat} {w : World} {a1 a2 : Option Addr} {m1 c1 m2 c2 : Nat} {p1 p2 : List Int} (h : Rwb S base w a1 m1 c1 p1 a2 m2 c2 p2) : RArg w a1 m1 p1 := (own_zarg h.1).rarg
theorem Rwb.arg2 {S : Nat → Prop} {base : Nat} {w : World} {a1 a2 : Option Addr} {m1 c1 m2 c2 : Nat} {p1 p2 : List Int} (h : Rwb S base w a1 m1 c1 p1 a2 m2 c2 p2) : RArg w a2 m2 p2 := (own_zarg h.2.1).rarg
theorem Rwb.nums {S : Nat → Prop} {base : Nat} {w : World} {a1 a2 : Option Addr} {m1 c1 m2 c2 : Nat} {p1 p2 : List Int} (h : Rwb S base w a1 m1 c1 p1 a2 m2 c2 p2) : p1.length = m1 ∧ p2.length = m2 := ⟨h.arg1.1,h.arg2.1⟩
end Syn
end Go.Proofs.YtcapkeaedpabjaaGreatDoor
