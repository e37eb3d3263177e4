/-
  Layer 8, texts merged: SvQ. For every argument within the bounds that each theorem names.
-/
import Derived.Test.YtcapkeaedpabjaaGreatDoorWO5
import Derived.Test.YtcapkeaedpabjaaGreatDoorWP1
import Derived.Test.YtcapkeaedpabjaaGreatDoorWG3

/-
 Layer 9, the reference: Calls.
-/
namespace Go.Proofs.YtcapkeaedpabjaaGreatDoor
open Go.RowKit Go.ChangeShapes Go.WideShapes
namespace Syn
theorem callsE_ref {L : List Nd} {F : List Fw} (k : Nat) (hk : F.length = k) (f : Int) : callsE (resG L F) L F k f = if (resG L F).er ≠ 0 then [] else if 0 ≤ f ∧ f < (k : Int) then callsR L F f else [] := by
 unfold callsE
 split
 ·rfl
 ·rename_i he
  split
  ·rename_i hq
   obtain ⟨-, -, -, hc, -, -⟩ := res_ok (L := L) (F := F) (by simpa using he)
   have := calls_same (asc_chk hc) (q := f.toNat) (by omega)
   rw [Int.toNat_of_nonneg hq.1] at this
   exact this.symm
  ·rfl
theorem cs_nil (w w' : World) (g : Bel w w') : CsPost w [] (.returned (.slice none 0 0)) w' := ⟨none, 0, 0, rfl, rarg_nil _, g, fun h => absurd h (Nat.lt_irrefl 0)⟩
theorem upto_len (p : Nat → Bool) : ∀ n, (upto p n).length ≤ n
 | 0 => Nat.le_refl _
 | n + 1 => by
  rw [upto, List.length_append]
  have := upto_len p n
  split
  ·simp; omega
  ·simp; omega
theorem upto_yes {p : Nat → Bool} {n : Nat} (h : p n = true) : upto p (n + 1) = upto p n ++ [(n : Int)] := by rw [upto, if_pos h]
theorem upto_no {p : Nat → Bool} {n : Nat} (h : p n = false) : upto p (n + 1) = upto p n := by rw [upto, if_neg (by rw [h]; decide), List.append_nil]
set_option maxRecDepth 100000 in
set_option maxHeartbeats 16000000 in
theorem rcalls_any (no fo : Option Addr) (n nc k fc : Nat) (L : List Nd) (F : List Fw) (hf : Fit9 n k L F) (hr : Rch L F) (f : Int) (w : World) (hA : NArg w no n L) (hF : FArg w fo k F) :
  Calls Tryz.prog 29 #[.agg #[.slice no n nc, .slice fo k fc], .int .i64 f] w (CsPost w (callsE (resG L F) L F k f)) := by
 obtain ⟨V, hV⟩ : ∃ V, w.alloc (.cells #[.slice no n nc, .slice fo k fc] 25) = V := ⟨_, rfl⟩
 have BV : Bel w V := by rw [← hV]; exact Bel.alloc (Bel.refl _) _
 obtain ⟨v0, v1⟩ : V.cell? ⟨w.heap.size, 0, none⟩ = some (.slice no n nc) ∧ V.cell? ⟨w.heap.size, 1, none⟩ = some (.slice fo k fc) := by
  rw [← hV]
  exact ⟨World.cell?_alloc_new .., World.cell?_alloc_new ..⟩
 have HBV := Lib.hid BV
 have HVe := Lib.hid hV
 have HP := Lib.hid (show ∀ W, Bel V W → W.cell? ⟨w.heap.size, 0, none⟩ = some (.slice no n nc) ∧ W.cell? ⟨w.heap.size, 1, none⟩ = some (.slice fo k fc) from fun W g => ⟨g.cell' v0, g.cell' v1⟩)
 have HLn := Lib.hid hA.1
 have HFk := Lib.hid hF.1
 have hn := hf.hn
 have hk := hf.hk
 have HA := Lib.hid (hA.on BV)
 have HF := Lib.hid (hF.on BV)
 have HC := Lib.hid (rscheck_any no fo n nc k fc L F hf hr V (hA.on BV) (hF.on BV))
 unfold RcPost at HC
 rw [callsE_ref k hF.1 f]
 generalize resG L F = R at *
 obtain ⟨Xs, Xl, Xp, er⟩ := R
 dsimp only at HC ⊢
 clear hf hr hA hF BV hV
 by_cases he : er = 0
 rotate_left
 ·rw [if_pos he]
  have h1 : (er == 0) = false := by simpa using he
  have h2 : (er != 0) = true := by simpa using he
  clear he
  go_enter Tryz.func29, Tryz.ntmps29
  go_wp2_with fail
  rw [HVe.out]
  refine HC.out.mono ?_
  rintro e w2 ⟨rfl, g⟩
  have G := Lib.hid g
  clear g v0 v1
  go_wp2_with fail
  go_ret
  exact cs_nil _ _ (Bel.trans HBV.out G.out)
 rw [if_neg (by simpa using he)]
 subst he
 by_cases hq : 0 ≤ f ∧ f < (k : Int)
 rotate_left
 ·rw [if_neg hq]
  go_enter Tryz.func29, Tryz.ntmps29
  go_wp2_with fail
  rw [HVe.out]
  refine HC.out.mono ?_
  rintro e w2 ⟨rfl, g⟩
  have G := Lib.hid g
  obtain ⟨x0, x1⟩ := HP.out w2 g
  clear g v0 v1
  by_cases hq0 : f < 0
  ·clear hq
   go_wp2_with fail
   go_ret
   exact cs_nil _ _ (Bel.trans HBV.out G.out)
  ·have hq1 : ¬ f < (k : Int) := fun h => hq ⟨by omega, h⟩
   have hq2 : (k : Int) ≤ f := by omega
   clear hq
   go_wp2_with fail
   go_ret
   exact cs_nil _ _ (Bel.trans HBV.out G.out)
 rw [if_pos hq]
 obtain ⟨hq0, hq1⟩ := hq
 obtain ⟨p, hp⟩ : ∃ p : Nat → Bool, (fun g : Nat => fndN F f (g : Int) 0 L) = p := ⟨_, rfl⟩
 have Hp := Lib.hid (show ∀ g : Nat, fndN F f (g : Int) 0 L = p g from fun g => congrFun hp g)
 have hcr : callsR L F f = upto p k := by unfold callsR; rw [hp, HFk.out]
 rw [hcr]
 clear hcr hp
 go_enter Tryz.func29, Tryz.ntmps29
 go_wp2_with fail
 rw [HVe.out]
 refine HC.out.mono ?_
 rintro e w2 ⟨rfl, g⟩
 have G2 := Lib.hid g
 have hR0 := Lib.hid (Rwb.nil (fun _ => False) V.heap.size w2)
 obtain ⟨x0, x1⟩ := HP.out w2 g
 clear g v0 v1
 go_wp2_with fail
 go_loopw [5, 8] (fun av iv wr => ∃ (g m c : Nat) (a : Option Addr), av = .slice a m c ∧ iv = .int .i64 (g : Int) ∧ g ≤ k ∧ Hid (Rwb (fun _ => False) V.heap.size wr a m c (upto p g) none 0 0 []) ∧ Hid (Bel V wr)) (fun _ iv _ => k - (intOf iv).toNat)
 case atStart => exact ⟨0, 0, 0, none, rfl, rfl, Nat.zero_le _, hR0, G2⟩
 case round =>
  obtain ⟨g, m, c, a, rfl, rfl, hg, HR, HB⟩ := hrel
  rename World => wr
  clear x0 x1
  obtain ⟨v0, v1⟩ := HP.out wr HB.out
  rcases Nat.lt_or_ge g k with hgk | hgk
  ·have hg1 : (g : Int) < (k : Int) := by omega
   have hM0 := Lib.hid (show (false || fndN F f (g : Int) 0 (L.drop 0)) = p g by rw [Bool.false_or]; exact Hp.out g)
   have HmL := Lib.hid (show m ≤ g by
    have h1 := HR.out.nums.1
    have h2 := upto_len p g
    omega)
   go_wp2_with fail
   go_loopw [9, 10] (fun bv iv w5 => ∃ (i : Nat) (fb : Bool), bv = .bool fb ∧ iv = .int .i64 (i : Int) ∧ i ≤ n ∧ Hid (Rwb (fun _ => False) V.heap.size w5 a m c (upto p g) none 0 0 []) ∧ Hid (Bel V w5) ∧ Hid ((fb || fndN F f (g : Int) i (L.drop i)) = p g)) (fun _ iv _ => n - (intOf iv).toNat)
   case atStart => exact ⟨0, false, rfl, rfl, Nat.zero_le _, HR, HB, hM0⟩
   case round =>
    obtain ⟨i, fb, rfl, rfl, hi, HR5, HB5, HM5⟩ := hrel
    rename World => w5
    clear v0 v1
    obtain ⟨v0, v1⟩ := HP.out w5 HB5.out
    rcases Nat.lt_or_ge i n with hin | hin
    ·have hil : i < L.length := by rw [HLn.out]; exact hin
     obtain ⟨nb, nf, rfl, hcs⟩ := HA.out.2 (by omega)
     obtain ⟨v, hv, hcc⟩ := hcs i hil
     have hM := HM5.out
     rw [List.drop_eq_getElem_cons hil, fndN] at hM
     obtain ⟨x, hx⟩ : ∃ x, L[i] = x := ⟨_, rfl⟩
     rw [hx] at hv hM
     have hvk := hv.k
     have hvs := hv.s
     obtain ⟨vk, vs, vi, ko, kn, kc, jo, jn, jc⟩ := v
     dsimp only at hvk hvs
     subst hvk hvs
     have c0 : w5.cell? ⟨nb, nf + i * 5, none⟩ = some (.int .i64 x.k) := HB5.out.cell' (by simpa using hcc 0 _ rfl)
     have c1 : w5.cell? ⟨nb, nf + i * 5 + 1, none⟩ = some (.string ⟨x.s.toArray⟩) := HB5.out.cell' (by simpa using hcc 1 _ rfl)
     have hi1 : (i : Int) < (n : Int) := by omega
     have hi0 : (0 : Int) ≤ (i : Int) := by omega
     have HOw := Lib.hid (show ∀ W, (W.cell? ⟨w.heap.size, 0, none⟩ = some (.slice (some ⟨nb, nf, none⟩) n nc) ∧ W.cell? ⟨w.heap.size, 1, none⟩ = some (.slice fo k fc) ∧ W.cell? ⟨nb, nf + i * 5, none⟩ = some (.int .i64 x.k) ∧ W.cell? ⟨nb, nf + i * 5 + 1, none⟩ = some (.string ⟨x.s.toArray⟩) ∧ Bel w5 W) → Calls Tryz.prog 62 #[.agg #[.slice (some ⟨nb, nf, none⟩) n nc, .slice fo k fc], .int .i64 (i : Int)] W fun e w' => e = .returned (.int .i64 (ownF (i : Int) 0 F)) ∧ w'.cell? ⟨w.heap.size, 0, none⟩ = some (.slice (some ⟨nb, nf, none⟩) n nc) ∧ w'.cell? ⟨w.heap.size, 1, none⟩ = some (.slice fo k fc) ∧ w'.cell? ⟨nb, nf + i * 5, none⟩ = some (.int .i64 x.k) ∧ w'.cell? ⟨nb, nf + i * 5 + 1, none⟩ = some (.string ⟨x.s.toArray⟩) ∧ Bel w5 w' from fun W hS => (rowner_any (some ⟨nb, nf, none⟩) fo n nc k fc F i (by omega) W (HF.out.on (Bel.trans HB5.out hS.2.2.2.2))).mono fun e w' q => ⟨q.1, q.2.cell' hS.1, q.2.cell' hS.2.1, q.2.cell' hS.2.2.1, q.2.cell' hS.2.2.2.1, Bel.trans hS.2.2.2.2 q.2⟩)
     have HFi := Lib.hid (show ∀ W, (W.cell? ⟨w.heap.size, 0, none⟩ = some (.slice (some ⟨nb, nf, none⟩) n nc) ∧ W.cell? ⟨w.heap.size, 1, none⟩ = some (.slice fo k fc) ∧ W.cell? ⟨nb, nf + i * 5, none⟩ = some (.int .i64 x.k) ∧ W.cell? ⟨nb, nf + i * 5 + 1, none⟩ = some (.string ⟨x.s.toArray⟩) ∧ Bel w5 W) → Calls Tryz.prog 53 #[.agg #[.slice (some ⟨nb, nf, none⟩) n nc, .slice fo k fc], .string ⟨x.s.toArray⟩] W fun e w' => e = .returned (.int .i64 (findI F x.s)) ∧ w'.cell? ⟨w.heap.size, 0, none⟩ = some (.slice (some ⟨nb, nf, none⟩) n nc) ∧ w'.cell? ⟨w.heap.size, 1, none⟩ = some (.slice fo k fc) ∧ w'.cell? ⟨nb, nf + i * 5, none⟩ = some (.int .i64 x.k) ∧ w'.cell? ⟨nb, nf + i * 5 + 1, none⟩ = some (.string ⟨x.s.toArray⟩) ∧ Bel w5 w' from fun W hS => (rfun_any (some ⟨nb, nf, none⟩) fo n nc k fc F x.s (by omega) W (HF.out.on (Bel.trans HB5.out hS.2.2.2.2))).mono fun e w' q => ⟨q.1, q.2.cell' hS.1, q.2.cell' hS.2.1, q.2.cell' hS.2.2.1, q.2.cell' hS.2.2.2.1, Bel.trans hS.2.2.2.2 q.2⟩)
     unfold fndB at hM
     clear hv hcc hcs hx
     generalize ownF (i : Int) 0 F = ow at *
     generalize findI F x.s = fi at *
     by_cases how : ow = f
     rotate_left
     ·have HM6 := Lib.hid (show (fb || fndN F f (g : Int) (i + 1) (L.drop (i + 1))) = p g by rw [← hM, decide_eq_false how, Bool.false_and, Bool.false_or])
      clear hM
      go_wp2_with fail
      refine wp_region_held_drew (S := fun W => W.cell? ⟨w.heap.size, 0, none⟩ = some (.slice (some ⟨nb, nf, none⟩) n nc) ∧ W.cell? ⟨w.heap.size, 1, none⟩ = some (.slice fo k fc) ∧ W.cell? ⟨nb, nf + i * 5, none⟩ = some (.int .i64 x.k) ∧ W.cell? ⟨nb, nf + i * 5 + 1, none⟩ = some (.string ⟨x.s.toArray⟩) ∧ Bel w5 W) (by kernel_rfl) ⟨v0, v1, c0, c1, Below.drew (Bel.refl _)⟩ (fun hH => ?_)
      refine take_yes (i := 0) (d := 44) (v := ?_) rfl rfl (by kernel_rfl) (by kernel_rfl) (by kernel_rfl) (fun _ _ _ h => h) (by rfl) ?_ (by assumption) ?_
      rotate_left 1
      ·intro w hSw
       obtain ⟨z0, z1, z2, z3, z4⟩ := hSw
       go_simp
       with_reducible rfl
      try simp only [Act.put, List.setIfInBounds_toArray, List.set_cons_zero, List.set_cons_succ]
      refine take_yes (i := 1) (d := 45) (v := ?_) rfl rfl (by kernel_rfl) (by kernel_rfl) (by kernel_rfl) (fun _ _ _ h => h) (by rfl) ?_ (by assumption) ?_
      rotate_left 1
      ·intro w hSw
       obtain ⟨z0, z1, z2, z3, z4⟩ := hSw
       go_simp
       with_reducible rfl
      try simp only [Act.put, List.setIfInBounds_toArray, List.set_cons_zero, List.set_cons_succ]
      refine take_yes (i := 3) (d := 47) (v := ?_) rfl rfl (by kernel_rfl) (by kernel_rfl) (by kernel_rfl) (fun _ _ _ h => h) (by rfl) ?_ (by assumption) ?_
      rotate_left 1
      ·intro w hSw
       obtain ⟨z0, z1, z2, z3, z4⟩ := hSw
       go_simp
       with_reducible rfl
      try simp only [Act.put, List.setIfInBounds_toArray, List.set_cons_zero, List.set_cons_succ]
      refine wpAnyH_ready (rs := [2]) (by kernel_rfl) (by simp) ?_
      refine AllReadyH.cons rfl (fun K hK => ?_) AllReadyH.nil
      go_simp
      refine (HOw.out _ hH).mono ?_
      rintro e w8 ⟨rfl, hG⟩
      clear hH
      refine hK.out _ _ hG (fun hH => ?_)
      clear hK K hG
      try simp only [Act.put, List.setIfInBounds_toArray, List.set_cons_zero, List.set_cons_succ]
      refine take_yes (i := 4) (d := 48) (v := .bool false) rfl rfl (by kernel_rfl) (by kernel_rfl) (by kernel_rfl) (fun _ _ _ h => h) (by rfl) ?_ (by assumption) ?_
      ·intro w hSw
       obtain ⟨z0, z1, z2, z3, z4⟩ := hSw
       go_simp
       try simp
       try omega
      try simp only [Act.put, List.setIfInBounds_toArray, List.set_cons_zero, List.set_cons_succ]
      refine take_yes (i := 5) (d := 49) (v := ?_) rfl rfl (by kernel_rfl) (by kernel_rfl) (by kernel_rfl) (fun _ _ _ h => h) (by rfl) ?_ (by assumption) ?_
      rotate_left 1
      ·intro w hSw
       obtain ⟨z0, z1, z2, z3, z4⟩ := hSw
       go_simp
       with_reducible rfl
      try simp only [Act.put, List.setIfInBounds_toArray, List.set_cons_zero, List.set_cons_succ]
      refine take_not (i := 6) (d := 50) rfl rfl (by kernel_rfl) (by kernel_rfl) (by kernel_rfl) (fun _ _ _ h => h) (by rfl) (by assumption) ?_
      try simp only [Act.put, List.setIfInBounds_toArray, List.set_cons_zero, List.set_cons_succ]
      refine take_not (i := 7) (d := 51) rfl rfl (by kernel_rfl) (by kernel_rfl) (by kernel_rfl) (fun _ _ _ h => h) (by rfl) (by assumption) ?_
      try simp only [Act.put, List.setIfInBounds_toArray, List.set_cons_zero, List.set_cons_succ]
      refine take_not (i := 8) (d := 52) rfl rfl (by kernel_rfl) (by kernel_rfl) (by kernel_rfl) (fun _ _ _ h => h) (by rfl) (by assumption) ?_
      try simp only [Act.put, List.setIfInBounds_toArray, List.set_cons_zero, List.set_cons_succ]
      refine take_not (i := 9) (d := 53) rfl rfl (by kernel_rfl) (by kernel_rfl) (by kernel_rfl) (fun _ _ _ h => h) (by rfl) (by assumption) ?_
      try simp only [Act.put, List.setIfInBounds_toArray, List.set_cons_zero, List.set_cons_succ]
      refine take_not (i := 10) (d := 54) rfl rfl (by kernel_rfl) (by kernel_rfl) (by kernel_rfl) (fun _ _ _ h => h) (by rfl) (by assumption) ?_
      try simp only [Act.put, List.setIfInBounds_toArray, List.set_cons_zero, List.set_cons_succ]
      refine take_not (i := 11) (d := 55) rfl rfl (by kernel_rfl) (by kernel_rfl) (by kernel_rfl) (fun _ _ _ h => h) (by rfl) (by assumption) ?_
      try simp only [Act.put, List.setIfInBounds_toArray, List.set_cons_zero, List.set_cons_succ]
      refine take_not (i := 12) (d := 56) rfl rfl (by kernel_rfl) (by kernel_rfl) (by kernel_rfl) (fun _ _ _ h => h) (by rfl) (by assumption) ?_
      try simp only [Act.put, List.setIfInBounds_toArray, List.set_cons_zero, List.set_cons_succ]
      refine take_yes (i := 13) (d := 57) (v := ?_) rfl rfl (by kernel_rfl) (by kernel_rfl) (by kernel_rfl) (fun _ _ _ h => h) (by rfl) ?_ (by assumption) ?_
      rotate_left 1
      ·intro w hSw
       obtain ⟨z0, z1, z2, z3, z4⟩ := hSw
       go_simp
       with_reducible rfl
      try simp only [Act.put, List.setIfInBounds_toArray, List.set_cons_zero, List.set_cons_succ]
      refine take_yes (i := 14) (d := 58) (v := ?_) rfl rfl (by kernel_rfl) (by kernel_rfl) (by kernel_rfl) (fun _ _ _ h => h) (by rfl) ?_ (by assumption) ?_
      rotate_left 1
      ·intro w hSw
       obtain ⟨z0, z1, z2, z3, z4⟩ := hSw
       go_simp
       with_reducible rfl
      try simp only [Act.put, List.setIfInBounds_toArray, List.set_cons_zero, List.set_cons_succ]
      refine take_not (i := 15) (d := 59) rfl rfl (by kernel_rfl) (by kernel_rfl) (by kernel_rfl) (fun _ _ _ h => h) (by rfl) (by assumption) ?_
      try simp only [Act.put, List.setIfInBounds_toArray, List.set_cons_zero, List.set_cons_succ]
      refine take_not (i := 16) (d := 60) rfl rfl (by kernel_rfl) (by kernel_rfl) (by kernel_rfl) (fun _ _ _ h => h) (by rfl) (by assumption) ?_
      try simp only [Act.put, List.setIfInBounds_toArray, List.set_cons_zero, List.set_cons_succ]
      refine take_not (i := 17) (d := 61) rfl rfl (by kernel_rfl) (by kernel_rfl) (by kernel_rfl) (fun _ _ _ h => h) (by rfl) (by assumption) ?_
      try simp only [Act.put, List.setIfInBounds_toArray, List.set_cons_zero, List.set_cons_succ]
      refine take_not (i := 18) (d := 62) rfl rfl (by kernel_rfl) (by kernel_rfl) (by kernel_rfl) (fun _ _ _ h => h) (by rfl) (by assumption) ?_
      try simp only [Act.put, List.setIfInBounds_toArray, List.set_cons_zero, List.set_cons_succ]
      refine take_not (i := 19) (d := 63) rfl rfl (by kernel_rfl) (by kernel_rfl) (by kernel_rfl) (fun _ _ _ h => h) (by rfl) (by assumption) ?_
      try simp only [Act.put, List.setIfInBounds_toArray, List.set_cons_zero, List.set_cons_succ]
      refine take_not (i := 20) (d := 64) rfl rfl (by kernel_rfl) (by kernel_rfl) (by kernel_rfl) (fun _ _ _ h => h) (by rfl) (by assumption) ?_
      try simp only [Act.put, List.setIfInBounds_toArray, List.set_cons_zero, List.set_cons_succ]
      refine take_not (i := 21) (d := 65) rfl rfl (by kernel_rfl) (by kernel_rfl) (by kernel_rfl) (fun _ _ _ h => h) (by rfl) (by assumption) ?_
      try simp only [Act.put, List.setIfInBounds_toArray, List.set_cons_zero, List.set_cons_succ]
      refine take_not (i := 22) (d := 66) rfl rfl (by kernel_rfl) (by kernel_rfl) (by kernel_rfl) (fun _ _ _ h => h) (by rfl) (by assumption) ?_
      try simp only [Act.put, List.setIfInBounds_toArray, List.set_cons_zero, List.set_cons_succ]
      refine take_not (i := 23) (d := 67) rfl rfl (by kernel_rfl) (by kernel_rfl) (by kernel_rfl) (fun _ _ _ h => h) (by rfl) (by assumption) ?_
      try simp only [Act.put, List.setIfInBounds_toArray, List.set_cons_zero, List.set_cons_succ]
      refine take_not (i := 24) (d := 68) rfl rfl (by kernel_rfl) (by kernel_rfl) (by kernel_rfl) (fun _ _ _ h => h) (by rfl) (by assumption) ?_
      try simp only [Act.put, List.setIfInBounds_toArray, List.set_cons_zero, List.set_cons_succ]
      refine take_yes (i := 25) (d := 69) (v := ?_) rfl rfl (by kernel_rfl) (by kernel_rfl) (by kernel_rfl) (fun _ _ _ h => h) (by rfl) ?_ (by assumption) ?_
      rotate_left 1
      ·intro w hSw
       obtain ⟨z0, z1, z2, z3, z4⟩ := hSw
       go_simp
       with_reducible rfl
      try simp only [Act.put, List.setIfInBounds_toArray, List.set_cons_zero, List.set_cons_succ]
      refine wpAnyH_done (by kernel_rfl) ?_ _
      obtain ⟨a0, a1, a2, a3, G⟩ := hH
      have HB6 := Lib.hid (Bel.trans HB5.out G)
      have HR6 := Lib.hid (HR5.out.on G)
      clear G a0 a1 a2 a3 c0 c1
      go_wp2_with fail
      go_round
      case rel => exact ⟨i + 1, fb, rfl, by go_num, by omega, HR6, HB6, HM6⟩
      case measure => first | (simp [intOf]; done) | (simp [intOf]; omega)
     ·subst how
      by_cases h11 : x.k = 11
      rotate_left
      ·have HM6 := Lib.hid (show (fb || fndN F ow (g : Int) (i + 1) (L.drop (i + 1))) = p g by rw [← hM, decide_eq_false h11, Bool.false_and, Bool.and_false, Bool.false_or])
       clear hM
       generalize x.k = xk at *
       go_wp2_with fail
       refine wp_region_held_drew (S := fun W => W.cell? ⟨w.heap.size, 0, none⟩ = some (.slice (some ⟨nb, nf, none⟩) n nc) ∧ W.cell? ⟨w.heap.size, 1, none⟩ = some (.slice fo k fc) ∧ W.cell? ⟨nb, nf + i * 5, none⟩ = some (.int .i64 xk) ∧ W.cell? ⟨nb, nf + i * 5 + 1, none⟩ = some (.string ⟨x.s.toArray⟩) ∧ Bel w5 W) (by kernel_rfl) ⟨v0, v1, c0, c1, Below.drew (Bel.refl _)⟩ (fun hH => ?_)
       refine take_yes (i := 0) (d := 44) (v := ?_) rfl rfl (by kernel_rfl) (by kernel_rfl) (by kernel_rfl) (fun _ _ _ h => h) (by rfl) ?_ (by assumption) ?_
       rotate_left 1
       ·intro w hSw
        obtain ⟨z0, z1, z2, z3, z4⟩ := hSw
        go_simp
        with_reducible rfl
       try simp only [Act.put, List.setIfInBounds_toArray, List.set_cons_zero, List.set_cons_succ]
       refine take_yes (i := 1) (d := 45) (v := ?_) rfl rfl (by kernel_rfl) (by kernel_rfl) (by kernel_rfl) (fun _ _ _ h => h) (by rfl) ?_ (by assumption) ?_
       rotate_left 1
       ·intro w hSw
        obtain ⟨z0, z1, z2, z3, z4⟩ := hSw
        go_simp
        with_reducible rfl
       try simp only [Act.put, List.setIfInBounds_toArray, List.set_cons_zero, List.set_cons_succ]
       refine take_yes (i := 3) (d := 47) (v := ?_) rfl rfl (by kernel_rfl) (by kernel_rfl) (by kernel_rfl) (fun _ _ _ h => h) (by rfl) ?_ (by assumption) ?_
       rotate_left 1
       ·intro w hSw
        obtain ⟨z0, z1, z2, z3, z4⟩ := hSw
        go_simp
        with_reducible rfl
       try simp only [Act.put, List.setIfInBounds_toArray, List.set_cons_zero, List.set_cons_succ]
       refine wpAnyH_ready (rs := [2]) (by kernel_rfl) (by simp) ?_
       refine AllReadyH.cons rfl (fun K hK => ?_) AllReadyH.nil
       go_simp
       refine (HOw.out _ hH).mono ?_
       rintro e w8 ⟨rfl, hG⟩
       clear hH
       refine hK.out _ _ hG (fun hH => ?_)
       clear hK K hG
       try simp only [Act.put, List.setIfInBounds_toArray, List.set_cons_zero, List.set_cons_succ]
       refine take_yes (i := 4) (d := 48) (v := .bool true) rfl rfl (by kernel_rfl) (by kernel_rfl) (by kernel_rfl) (fun _ _ _ h => h) (by rfl) ?_ (by assumption) ?_
       ·intro w hSw
        obtain ⟨z0, z1, z2, z3, z4⟩ := hSw
        go_simp
        try simp
        try omega
       try simp only [Act.put, List.setIfInBounds_toArray, List.set_cons_zero, List.set_cons_succ]
       refine take_yes (i := 5) (d := 49) (v := ?_) rfl rfl (by kernel_rfl) (by kernel_rfl) (by kernel_rfl) (fun _ _ _ h => h) (by rfl) ?_ (by assumption) ?_
       rotate_left 1
       ·intro w hSw
        obtain ⟨z0, z1, z2, z3, z4⟩ := hSw
        go_simp
        with_reducible rfl
       try simp only [Act.put, List.setIfInBounds_toArray, List.set_cons_zero, List.set_cons_succ]
       refine take_yes (i := 6) (d := 50) (v := ?_) rfl rfl (by kernel_rfl) (by kernel_rfl) (by kernel_rfl) (fun _ _ _ h => h) (by rfl) ?_ (by assumption) ?_
       rotate_left 1
       ·intro w hSw
        obtain ⟨z0, z1, z2, z3, z4⟩ := hSw
        go_simp
        with_reducible rfl
       try simp only [Act.put, List.setIfInBounds_toArray, List.set_cons_zero, List.set_cons_succ]
       refine take_yes (i := 7) (d := 51) (v := ?_) rfl rfl (by kernel_rfl) (by kernel_rfl) (by kernel_rfl) (fun _ _ _ h => h) (by rfl) ?_ (by assumption) ?_
       rotate_left 1
       ·intro w hSw
        obtain ⟨z0, z1, z2, z3, z4⟩ := hSw
        go_simp
        with_reducible rfl
       try simp only [Act.put, List.setIfInBounds_toArray, List.set_cons_zero, List.set_cons_succ]
       refine take_yes (i := 8) (d := 52) (v := ?_) rfl rfl (by kernel_rfl) (by kernel_rfl) (by kernel_rfl) (fun _ _ _ h => h) (by rfl) ?_ (by assumption) ?_
       rotate_left 1
       ·intro w hSw
        obtain ⟨z0, z1, z2, z3, z4⟩ := hSw
        go_simp
        with_reducible rfl
       try simp only [Act.put, List.setIfInBounds_toArray, List.set_cons_zero, List.set_cons_succ]
       refine take_yes (i := 9) (d := 53) (v := ?_) rfl rfl (by kernel_rfl) (by kernel_rfl) (by kernel_rfl) (fun _ _ _ h => h) (by rfl) ?_ (by assumption) ?_
       rotate_left 1
       ·intro w hSw
        obtain ⟨z0, z1, z2, z3, z4⟩ := hSw
        go_simp
        with_reducible rfl
       try simp only [Act.put, List.setIfInBounds_toArray, List.set_cons_zero, List.set_cons_succ]
       refine take_yes (i := 10) (d := 54) (v := ?_) rfl rfl (by kernel_rfl) (by kernel_rfl) (by kernel_rfl) (fun _ _ _ h => h) (by rfl) ?_ (by assumption) ?_
       rotate_left 1
       ·intro w hSw
        obtain ⟨z0, z1, z2, z3, z4⟩ := hSw
        go_simp
        with_reducible rfl
       try simp only [Act.put, List.setIfInBounds_toArray, List.set_cons_zero, List.set_cons_succ]
       refine take_yes (i := 11) (d := 55) (v := ?_) rfl rfl (by kernel_rfl) (by kernel_rfl) (by kernel_rfl) (fun _ _ _ h => h) (by rfl) ?_ (by assumption) ?_
       rotate_left 1
       ·intro w hSw
        obtain ⟨z0, z1, z2, z3, z4⟩ := hSw
        go_simp
        with_reducible rfl
       try simp only [Act.put, List.setIfInBounds_toArray, List.set_cons_zero, List.set_cons_succ]
       refine take_yes (i := 12) (d := 56) (v := .bool false) rfl rfl (by kernel_rfl) (by kernel_rfl) (by kernel_rfl) (fun _ _ _ h => h) (by rfl) ?_ (by assumption) ?_
       ·intro w hSw
        obtain ⟨z0, z1, z2, z3, z4⟩ := hSw
        go_simp
        try simp
        try omega
       try simp only [Act.put, List.setIfInBounds_toArray, List.set_cons_zero, List.set_cons_succ]
       refine take_yes (i := 13) (d := 57) (v := ?_) rfl rfl (by kernel_rfl) (by kernel_rfl) (by kernel_rfl) (fun _ _ _ h => h) (by rfl) ?_ (by assumption) ?_
       rotate_left 1
       ·intro w hSw
        obtain ⟨z0, z1, z2, z3, z4⟩ := hSw
        go_simp
        with_reducible rfl
       try simp only [Act.put, List.setIfInBounds_toArray, List.set_cons_zero, List.set_cons_succ]
       refine take_yes (i := 14) (d := 58) (v := ?_) rfl rfl (by kernel_rfl) (by kernel_rfl) (by kernel_rfl) (fun _ _ _ h => h) (by rfl) ?_ (by assumption) ?_
       rotate_left 1
       ·intro w hSw
        obtain ⟨z0, z1, z2, z3, z4⟩ := hSw
        go_simp
        with_reducible rfl
       try simp only [Act.put, List.setIfInBounds_toArray, List.set_cons_zero, List.set_cons_succ]
       refine take_not (i := 15) (d := 59) rfl rfl (by kernel_rfl) (by kernel_rfl) (by kernel_rfl) (fun _ _ _ h => h) (by rfl) (by assumption) ?_
       try simp only [Act.put, List.setIfInBounds_toArray, List.set_cons_zero, List.set_cons_succ]
       refine take_not (i := 16) (d := 60) rfl rfl (by kernel_rfl) (by kernel_rfl) (by kernel_rfl) (fun _ _ _ h => h) (by rfl) (by assumption) ?_
       try simp only [Act.put, List.setIfInBounds_toArray, List.set_cons_zero, List.set_cons_succ]
       refine take_not (i := 17) (d := 61) rfl rfl (by kernel_rfl) (by kernel_rfl) (by kernel_rfl) (fun _ _ _ h => h) (by rfl) (by assumption) ?_
       try simp only [Act.put, List.setIfInBounds_toArray, List.set_cons_zero, List.set_cons_succ]
       refine take_not (i := 18) (d := 62) rfl rfl (by kernel_rfl) (by kernel_rfl) (by kernel_rfl) (fun _ _ _ h => h) (by rfl) (by assumption) ?_
       try simp only [Act.put, List.setIfInBounds_toArray, List.set_cons_zero, List.set_cons_succ]
       refine take_not (i := 19) (d := 63) rfl rfl (by kernel_rfl) (by kernel_rfl) (by kernel_rfl) (fun _ _ _ h => h) (by rfl) (by assumption) ?_
       try simp only [Act.put, List.setIfInBounds_toArray, List.set_cons_zero, List.set_cons_succ]
       refine take_not (i := 20) (d := 64) rfl rfl (by kernel_rfl) (by kernel_rfl) (by kernel_rfl) (fun _ _ _ h => h) (by rfl) (by assumption) ?_
       try simp only [Act.put, List.setIfInBounds_toArray, List.set_cons_zero, List.set_cons_succ]
       refine take_not (i := 21) (d := 65) rfl rfl (by kernel_rfl) (by kernel_rfl) (by kernel_rfl) (fun _ _ _ h => h) (by rfl) (by assumption) ?_
       try simp only [Act.put, List.setIfInBounds_toArray, List.set_cons_zero, List.set_cons_succ]
       refine take_not (i := 22) (d := 66) rfl rfl (by kernel_rfl) (by kernel_rfl) (by kernel_rfl) (fun _ _ _ h => h) (by rfl) (by assumption) ?_
       try simp only [Act.put, List.setIfInBounds_toArray, List.set_cons_zero, List.set_cons_succ]
       refine take_not (i := 23) (d := 67) rfl rfl (by kernel_rfl) (by kernel_rfl) (by kernel_rfl) (fun _ _ _ h => h) (by rfl) (by assumption) ?_
       try simp only [Act.put, List.setIfInBounds_toArray, List.set_cons_zero, List.set_cons_succ]
       refine take_not (i := 24) (d := 68) rfl rfl (by kernel_rfl) (by kernel_rfl) (by kernel_rfl) (fun _ _ _ h => h) (by rfl) (by assumption) ?_
       try simp only [Act.put, List.setIfInBounds_toArray, List.set_cons_zero, List.set_cons_succ]
       refine take_yes (i := 25) (d := 69) (v := ?_) rfl rfl (by kernel_rfl) (by kernel_rfl) (by kernel_rfl) (fun _ _ _ h => h) (by rfl) ?_ (by assumption) ?_
       rotate_left 1
       ·intro w hSw
        obtain ⟨z0, z1, z2, z3, z4⟩ := hSw
        go_simp
        with_reducible rfl
       try simp only [Act.put, List.setIfInBounds_toArray, List.set_cons_zero, List.set_cons_succ]
       refine wpAnyH_done (by kernel_rfl) ?_ _
       obtain ⟨a0, a1, a2, a3, G⟩ := hH
       have HB6 := Lib.hid (Bel.trans HB5.out G)
       have HR6 := Lib.hid (HR5.out.on G)
       clear G a0 a1 a2 a3 c0 c1
       go_wp2_with fail
       go_round
       case rel => exact ⟨i + 1, fb, rfl, by go_num, by omega, HR6, HB6, HM6⟩
       case measure => first | (simp [intOf]; done) | (simp [intOf]; omega)
      ·by_cases hfg : fi = (g : Int)
       rotate_left
       ·have HM6 := Lib.hid (show (fb || fndN F ow (g : Int) (i + 1) (L.drop (i + 1))) = p g by rw [← hM, decide_eq_false hfg, Bool.and_false, Bool.and_false, Bool.false_or])
        clear hM
        rw [h11] at c0 HOw HFi
        go_wp2_with fail
        refine wp_region_held_drew (S := fun W => W.cell? ⟨w.heap.size, 0, none⟩ = some (.slice (some ⟨nb, nf, none⟩) n nc) ∧ W.cell? ⟨w.heap.size, 1, none⟩ = some (.slice fo k fc) ∧ W.cell? ⟨nb, nf + i * 5, none⟩ = some (.int .i64 11) ∧ W.cell? ⟨nb, nf + i * 5 + 1, none⟩ = some (.string ⟨x.s.toArray⟩) ∧ Bel w5 W) (by kernel_rfl) ⟨v0, v1, c0, c1, Below.drew (Bel.refl _)⟩ (fun hH => ?_)
        refine take_yes (i := 0) (d := 44) (v := ?_) rfl rfl (by kernel_rfl) (by kernel_rfl) (by kernel_rfl) (fun _ _ _ h => h) (by rfl) ?_ (by assumption) ?_
        rotate_left 1
        ·intro w hSw
         obtain ⟨z0, z1, z2, z3, z4⟩ := hSw
         go_simp
         with_reducible rfl
        try simp only [Act.put, List.setIfInBounds_toArray, List.set_cons_zero, List.set_cons_succ]
        refine take_yes (i := 1) (d := 45) (v := ?_) rfl rfl (by kernel_rfl) (by kernel_rfl) (by kernel_rfl) (fun _ _ _ h => h) (by rfl) ?_ (by assumption) ?_
        rotate_left 1
        ·intro w hSw
         obtain ⟨z0, z1, z2, z3, z4⟩ := hSw
         go_simp
         with_reducible rfl
        try simp only [Act.put, List.setIfInBounds_toArray, List.set_cons_zero, List.set_cons_succ]
        refine take_yes (i := 3) (d := 47) (v := ?_) rfl rfl (by kernel_rfl) (by kernel_rfl) (by kernel_rfl) (fun _ _ _ h => h) (by rfl) ?_ (by assumption) ?_
        rotate_left 1
        ·intro w hSw
         obtain ⟨z0, z1, z2, z3, z4⟩ := hSw
         go_simp
         with_reducible rfl
        try simp only [Act.put, List.setIfInBounds_toArray, List.set_cons_zero, List.set_cons_succ]
        refine wpAnyH_ready (rs := [2]) (by kernel_rfl) (by simp) ?_
        refine AllReadyH.cons rfl (fun K hK => ?_) AllReadyH.nil
        go_simp
        refine (HOw.out _ hH).mono ?_
        rintro e w8 ⟨rfl, hG⟩
        clear hH
        refine hK.out _ _ hG (fun hH => ?_)
        clear hK K hG
        try simp only [Act.put, List.setIfInBounds_toArray, List.set_cons_zero, List.set_cons_succ]
        refine take_yes (i := 4) (d := 48) (v := .bool true) rfl rfl (by kernel_rfl) (by kernel_rfl) (by kernel_rfl) (fun _ _ _ h => h) (by rfl) ?_ (by assumption) ?_
        ·intro w hSw
         obtain ⟨z0, z1, z2, z3, z4⟩ := hSw
         go_simp
         try simp
         try omega
        try simp only [Act.put, List.setIfInBounds_toArray, List.set_cons_zero, List.set_cons_succ]
        refine take_yes (i := 5) (d := 49) (v := ?_) rfl rfl (by kernel_rfl) (by kernel_rfl) (by kernel_rfl) (fun _ _ _ h => h) (by rfl) ?_ (by assumption) ?_
        rotate_left 1
        ·intro w hSw
         obtain ⟨z0, z1, z2, z3, z4⟩ := hSw
         go_simp
         with_reducible rfl
        try simp only [Act.put, List.setIfInBounds_toArray, List.set_cons_zero, List.set_cons_succ]
        refine take_yes (i := 6) (d := 50) (v := ?_) rfl rfl (by kernel_rfl) (by kernel_rfl) (by kernel_rfl) (fun _ _ _ h => h) (by rfl) ?_ (by assumption) ?_
        rotate_left 1
        ·intro w hSw
         obtain ⟨z0, z1, z2, z3, z4⟩ := hSw
         go_simp
         with_reducible rfl
        try simp only [Act.put, List.setIfInBounds_toArray, List.set_cons_zero, List.set_cons_succ]
        refine take_yes (i := 7) (d := 51) (v := ?_) rfl rfl (by kernel_rfl) (by kernel_rfl) (by kernel_rfl) (fun _ _ _ h => h) (by rfl) ?_ (by assumption) ?_
        rotate_left 1
        ·intro w hSw
         obtain ⟨z0, z1, z2, z3, z4⟩ := hSw
         go_simp
         with_reducible rfl
        try simp only [Act.put, List.setIfInBounds_toArray, List.set_cons_zero, List.set_cons_succ]
        refine take_yes (i := 8) (d := 52) (v := ?_) rfl rfl (by kernel_rfl) (by kernel_rfl) (by kernel_rfl) (fun _ _ _ h => h) (by rfl) ?_ (by assumption) ?_
        rotate_left 1
        ·intro w hSw
         obtain ⟨z0, z1, z2, z3, z4⟩ := hSw
         go_simp
         with_reducible rfl
        try simp only [Act.put, List.setIfInBounds_toArray, List.set_cons_zero, List.set_cons_succ]
        refine take_yes (i := 9) (d := 53) (v := ?_) rfl rfl (by kernel_rfl) (by kernel_rfl) (by kernel_rfl) (fun _ _ _ h => h) (by rfl) ?_ (by assumption) ?_
        rotate_left 1
        ·intro w hSw
         obtain ⟨z0, z1, z2, z3, z4⟩ := hSw
         go_simp
         with_reducible rfl
        try simp only [Act.put, List.setIfInBounds_toArray, List.set_cons_zero, List.set_cons_succ]
        refine take_yes (i := 10) (d := 54) (v := ?_) rfl rfl (by kernel_rfl) (by kernel_rfl) (by kernel_rfl) (fun _ _ _ h => h) (by rfl) ?_ (by assumption) ?_
        rotate_left 1
        ·intro w hSw
         obtain ⟨z0, z1, z2, z3, z4⟩ := hSw
         go_simp
         with_reducible rfl
        try simp only [Act.put, List.setIfInBounds_toArray, List.set_cons_zero, List.set_cons_succ]
        refine take_yes (i := 11) (d := 55) (v := ?_) rfl rfl (by kernel_rfl) (by kernel_rfl) (by kernel_rfl) (fun _ _ _ h => h) (by rfl) ?_ (by assumption) ?_
        rotate_left 1
        ·intro w hSw
         obtain ⟨z0, z1, z2, z3, z4⟩ := hSw
         go_simp
         with_reducible rfl
        try simp only [Act.put, List.setIfInBounds_toArray, List.set_cons_zero, List.set_cons_succ]
        refine take_yes (i := 12) (d := 56) (v := .bool true) rfl rfl (by kernel_rfl) (by kernel_rfl) (by kernel_rfl) (fun _ _ _ h => h) (by rfl) ?_ (by assumption) ?_
        ·intro w hSw
         obtain ⟨z0, z1, z2, z3, z4⟩ := hSw
         go_simp
         try simp
         try omega
        try simp only [Act.put, List.setIfInBounds_toArray, List.set_cons_zero, List.set_cons_succ]
        refine take_yes (i := 13) (d := 57) (v := ?_) rfl rfl (by kernel_rfl) (by kernel_rfl) (by kernel_rfl) (fun _ _ _ h => h) (by rfl) ?_ (by assumption) ?_
        rotate_left 1
        ·intro w hSw
         obtain ⟨z0, z1, z2, z3, z4⟩ := hSw
         go_simp
         with_reducible rfl
        try simp only [Act.put, List.setIfInBounds_toArray, List.set_cons_zero, List.set_cons_succ]
        refine take_yes (i := 14) (d := 58) (v := ?_) rfl rfl (by kernel_rfl) (by kernel_rfl) (by kernel_rfl) (fun _ _ _ h => h) (by rfl) ?_ (by assumption) ?_
        rotate_left 1
        ·intro w hSw
         obtain ⟨z0, z1, z2, z3, z4⟩ := hSw
         go_simp
         with_reducible rfl
        try simp only [Act.put, List.setIfInBounds_toArray, List.set_cons_zero, List.set_cons_succ]
        refine take_yes (i := 15) (d := 59) (v := ?_) rfl rfl (by kernel_rfl) (by kernel_rfl) (by kernel_rfl) (fun _ _ _ h => h) (by rfl) ?_ (by assumption) ?_
        rotate_left 1
        ·intro w hSw
         obtain ⟨z0, z1, z2, z3, z4⟩ := hSw
         go_simp
         with_reducible rfl
        try simp only [Act.put, List.setIfInBounds_toArray, List.set_cons_zero, List.set_cons_succ]
        refine take_yes (i := 16) (d := 60) (v := ?_) rfl rfl (by kernel_rfl) (by kernel_rfl) (by kernel_rfl) (fun _ _ _ h => h) (by rfl) ?_ (by assumption) ?_
        rotate_left 1
        ·intro w hSw
         obtain ⟨z0, z1, z2, z3, z4⟩ := hSw
         go_simp
         with_reducible rfl
        try simp only [Act.put, List.setIfInBounds_toArray, List.set_cons_zero, List.set_cons_succ]
        refine take_yes (i := 17) (d := 61) (v := ?_) rfl rfl (by kernel_rfl) (by kernel_rfl) (by kernel_rfl) (fun _ _ _ h => h) (by rfl) ?_ (by assumption) ?_
        rotate_left 1
        ·intro w hSw
         obtain ⟨z0, z1, z2, z3, z4⟩ := hSw
         go_simp
         with_reducible rfl
        try simp only [Act.put, List.setIfInBounds_toArray, List.set_cons_zero, List.set_cons_succ]
        refine take_yes (i := 18) (d := 62) (v := ?_) rfl rfl (by kernel_rfl) (by kernel_rfl) (by kernel_rfl) (fun _ _ _ h => h) (by rfl) ?_ (by assumption) ?_
        rotate_left 1
        ·intro w hSw
         obtain ⟨z0, z1, z2, z3, z4⟩ := hSw
         go_simp
         with_reducible rfl
        try simp only [Act.put, List.setIfInBounds_toArray, List.set_cons_zero, List.set_cons_succ]
        refine take_yes (i := 19) (d := 63) (v := ?_) rfl rfl (by kernel_rfl) (by kernel_rfl) (by kernel_rfl) (fun _ _ _ h => h) (by rfl) ?_ (by assumption) ?_
        rotate_left 1
        ·intro w hSw
         obtain ⟨z0, z1, z2, z3, z4⟩ := hSw
         go_simp
         with_reducible rfl
        try simp only [Act.put, List.setIfInBounds_toArray, List.set_cons_zero, List.set_cons_succ]
        refine take_yes (i := 20) (d := 64) (v := ?_) rfl rfl (by kernel_rfl) (by kernel_rfl) (by kernel_rfl) (fun _ _ _ h => h) (by rfl) ?_ (by assumption) ?_
        rotate_left 1
        ·intro w hSw
         obtain ⟨z0, z1, z2, z3, z4⟩ := hSw
         go_simp
         with_reducible rfl
        try simp only [Act.put, List.setIfInBounds_toArray, List.set_cons_zero, List.set_cons_succ]
        refine take_yes (i := 21) (d := 65) (v := ?_) rfl rfl (by kernel_rfl) (by kernel_rfl) (by kernel_rfl) (fun _ _ _ h => h) (by rfl) ?_ (by assumption) ?_
        rotate_left 1
        ·intro w hSw
         obtain ⟨z0, z1, z2, z3, z4⟩ := hSw
         go_simp
         with_reducible rfl
        try simp only [Act.put, List.setIfInBounds_toArray, List.set_cons_zero, List.set_cons_succ]
        refine take_yes (i := 23) (d := 67) (v := ?_) rfl rfl (by kernel_rfl) (by kernel_rfl) (by kernel_rfl) (fun _ _ _ h => h) (by rfl) ?_ (by assumption) ?_
        rotate_left 1
        ·intro w hSw
         obtain ⟨z0, z1, z2, z3, z4⟩ := hSw
         go_simp
         with_reducible rfl
        try simp only [Act.put, List.setIfInBounds_toArray, List.set_cons_zero, List.set_cons_succ]
        refine wpAnyH_ready (rs := [22]) (by kernel_rfl) (by simp) ?_
        refine AllReadyH.cons rfl (fun K hK => ?_) AllReadyH.nil
        go_simp
        refine (HFi.out _ hH).mono ?_
        rintro e w8 ⟨rfl, hG⟩
        clear hH
        refine hK.out _ _ hG (fun hH => ?_)
        clear hK K hG
        try simp only [Act.put, List.setIfInBounds_toArray, List.set_cons_zero, List.set_cons_succ]
        refine take_yes (i := 24) (d := 68) (v := .bool false) rfl rfl (by kernel_rfl) (by kernel_rfl) (by kernel_rfl) (fun _ _ _ h => h) (by rfl) ?_ (by assumption) ?_
        ·intro w hSw
         obtain ⟨z0, z1, z2, z3, z4⟩ := hSw
         go_simp
         try simp
         try omega
        try simp only [Act.put, List.setIfInBounds_toArray, List.set_cons_zero, List.set_cons_succ]
        refine take_yes (i := 25) (d := 69) (v := ?_) rfl rfl (by kernel_rfl) (by kernel_rfl) (by kernel_rfl) (fun _ _ _ h => h) (by rfl) ?_ (by assumption) ?_
        rotate_left 1
        ·intro w hSw
         obtain ⟨z0, z1, z2, z3, z4⟩ := hSw
         go_simp
         with_reducible rfl
        try simp only [Act.put, List.setIfInBounds_toArray, List.set_cons_zero, List.set_cons_succ]
        refine wpAnyH_done (by kernel_rfl) ?_ _
        obtain ⟨a0, a1, a2, a3, G⟩ := hH
        have HB6 := Lib.hid (Bel.trans HB5.out G)
        have HR6 := Lib.hid (HR5.out.on G)
        clear G a0 a1 a2 a3 c0 c1
        go_wp2_with fail
        go_round
        case rel => exact ⟨i + 1, fb, rfl, by go_num, by omega, HR6, HB6, HM6⟩
        case measure => first | (simp [intOf]; done) | (simp [intOf]; omega)
       ·have HM6 := Lib.hid (show (true || fndN F ow (g : Int) (i + 1) (L.drop (i + 1))) = p g by rw [← hM, decide_eq_true rfl, decide_eq_true h11, decide_eq_true hfg]; simp)
        clear hM
        rw [h11] at c0 HOw HFi
        go_wp2_with fail
        refine wp_region_held_drew (S := fun W => W.cell? ⟨w.heap.size, 0, none⟩ = some (.slice (some ⟨nb, nf, none⟩) n nc) ∧ W.cell? ⟨w.heap.size, 1, none⟩ = some (.slice fo k fc) ∧ W.cell? ⟨nb, nf + i * 5, none⟩ = some (.int .i64 11) ∧ W.cell? ⟨nb, nf + i * 5 + 1, none⟩ = some (.string ⟨x.s.toArray⟩) ∧ Bel w5 W) (by kernel_rfl) ⟨v0, v1, c0, c1, Below.drew (Bel.refl _)⟩ (fun hH => ?_)
        refine take_yes (i := 0) (d := 44) (v := ?_) rfl rfl (by kernel_rfl) (by kernel_rfl) (by kernel_rfl) (fun _ _ _ h => h) (by rfl) ?_ (by assumption) ?_
        rotate_left 1
        ·intro w hSw
         obtain ⟨z0, z1, z2, z3, z4⟩ := hSw
         go_simp
         with_reducible rfl
        try simp only [Act.put, List.setIfInBounds_toArray, List.set_cons_zero, List.set_cons_succ]
        refine take_yes (i := 1) (d := 45) (v := ?_) rfl rfl (by kernel_rfl) (by kernel_rfl) (by kernel_rfl) (fun _ _ _ h => h) (by rfl) ?_ (by assumption) ?_
        rotate_left 1
        ·intro w hSw
         obtain ⟨z0, z1, z2, z3, z4⟩ := hSw
         go_simp
         with_reducible rfl
        try simp only [Act.put, List.setIfInBounds_toArray, List.set_cons_zero, List.set_cons_succ]
        refine take_yes (i := 3) (d := 47) (v := ?_) rfl rfl (by kernel_rfl) (by kernel_rfl) (by kernel_rfl) (fun _ _ _ h => h) (by rfl) ?_ (by assumption) ?_
        rotate_left 1
        ·intro w hSw
         obtain ⟨z0, z1, z2, z3, z4⟩ := hSw
         go_simp
         with_reducible rfl
        try simp only [Act.put, List.setIfInBounds_toArray, List.set_cons_zero, List.set_cons_succ]
        refine wpAnyH_ready (rs := [2]) (by kernel_rfl) (by simp) ?_
        refine AllReadyH.cons rfl (fun K hK => ?_) AllReadyH.nil
        go_simp
        refine (HOw.out _ hH).mono ?_
        rintro e w8 ⟨rfl, hG⟩
        clear hH
        refine hK.out _ _ hG (fun hH => ?_)
        clear hK K hG
        try simp only [Act.put, List.setIfInBounds_toArray, List.set_cons_zero, List.set_cons_succ]
        refine take_yes (i := 4) (d := 48) (v := .bool true) rfl rfl (by kernel_rfl) (by kernel_rfl) (by kernel_rfl) (fun _ _ _ h => h) (by rfl) ?_ (by assumption) ?_
        ·intro w hSw
         obtain ⟨z0, z1, z2, z3, z4⟩ := hSw
         go_simp
         try simp
         try omega
        try simp only [Act.put, List.setIfInBounds_toArray, List.set_cons_zero, List.set_cons_succ]
        refine take_yes (i := 5) (d := 49) (v := ?_) rfl rfl (by kernel_rfl) (by kernel_rfl) (by kernel_rfl) (fun _ _ _ h => h) (by rfl) ?_ (by assumption) ?_
        rotate_left 1
        ·intro w hSw
         obtain ⟨z0, z1, z2, z3, z4⟩ := hSw
         go_simp
         with_reducible rfl
        try simp only [Act.put, List.setIfInBounds_toArray, List.set_cons_zero, List.set_cons_succ]
        refine take_yes (i := 6) (d := 50) (v := ?_) rfl rfl (by kernel_rfl) (by kernel_rfl) (by kernel_rfl) (fun _ _ _ h => h) (by rfl) ?_ (by assumption) ?_
        rotate_left 1
        ·intro w hSw
         obtain ⟨z0, z1, z2, z3, z4⟩ := hSw
         go_simp
         with_reducible rfl
        try simp only [Act.put, List.setIfInBounds_toArray, List.set_cons_zero, List.set_cons_succ]
        refine take_yes (i := 7) (d := 51) (v := ?_) rfl rfl (by kernel_rfl) (by kernel_rfl) (by kernel_rfl) (fun _ _ _ h => h) (by rfl) ?_ (by assumption) ?_
        rotate_left 1
        ·intro w hSw
         obtain ⟨z0, z1, z2, z3, z4⟩ := hSw
         go_simp
         with_reducible rfl
        try simp only [Act.put, List.setIfInBounds_toArray, List.set_cons_zero, List.set_cons_succ]
        refine take_yes (i := 8) (d := 52) (v := ?_) rfl rfl (by kernel_rfl) (by kernel_rfl) (by kernel_rfl) (fun _ _ _ h => h) (by rfl) ?_ (by assumption) ?_
        rotate_left 1
        ·intro w hSw
         obtain ⟨z0, z1, z2, z3, z4⟩ := hSw
         go_simp
         with_reducible rfl
        try simp only [Act.put, List.setIfInBounds_toArray, List.set_cons_zero, List.set_cons_succ]
        refine take_yes (i := 9) (d := 53) (v := ?_) rfl rfl (by kernel_rfl) (by kernel_rfl) (by kernel_rfl) (fun _ _ _ h => h) (by rfl) ?_ (by assumption) ?_
        rotate_left 1
        ·intro w hSw
         obtain ⟨z0, z1, z2, z3, z4⟩ := hSw
         go_simp
         with_reducible rfl
        try simp only [Act.put, List.setIfInBounds_toArray, List.set_cons_zero, List.set_cons_succ]
        refine take_yes (i := 10) (d := 54) (v := ?_) rfl rfl (by kernel_rfl) (by kernel_rfl) (by kernel_rfl) (fun _ _ _ h => h) (by rfl) ?_ (by assumption) ?_
        rotate_left 1
        ·intro w hSw
         obtain ⟨z0, z1, z2, z3, z4⟩ := hSw
         go_simp
         with_reducible rfl
        try simp only [Act.put, List.setIfInBounds_toArray, List.set_cons_zero, List.set_cons_succ]
        refine take_yes (i := 11) (d := 55) (v := ?_) rfl rfl (by kernel_rfl) (by kernel_rfl) (by kernel_rfl) (fun _ _ _ h => h) (by rfl) ?_ (by assumption) ?_
        rotate_left 1
        ·intro w hSw
         obtain ⟨z0, z1, z2, z3, z4⟩ := hSw
         go_simp
         with_reducible rfl
        try simp only [Act.put, List.setIfInBounds_toArray, List.set_cons_zero, List.set_cons_succ]
        refine take_yes (i := 12) (d := 56) (v := .bool true) rfl rfl (by kernel_rfl) (by kernel_rfl) (by kernel_rfl) (fun _ _ _ h => h) (by rfl) ?_ (by assumption) ?_
        ·intro w hSw
         obtain ⟨z0, z1, z2, z3, z4⟩ := hSw
         go_simp
         try simp
         try omega
        try simp only [Act.put, List.setIfInBounds_toArray, List.set_cons_zero, List.set_cons_succ]
        refine take_yes (i := 13) (d := 57) (v := ?_) rfl rfl (by kernel_rfl) (by kernel_rfl) (by kernel_rfl) (fun _ _ _ h => h) (by rfl) ?_ (by assumption) ?_
        rotate_left 1
        ·intro w hSw
         obtain ⟨z0, z1, z2, z3, z4⟩ := hSw
         go_simp
         with_reducible rfl
        try simp only [Act.put, List.setIfInBounds_toArray, List.set_cons_zero, List.set_cons_succ]
        refine take_yes (i := 14) (d := 58) (v := ?_) rfl rfl (by kernel_rfl) (by kernel_rfl) (by kernel_rfl) (fun _ _ _ h => h) (by rfl) ?_ (by assumption) ?_
        rotate_left 1
        ·intro w hSw
         obtain ⟨z0, z1, z2, z3, z4⟩ := hSw
         go_simp
         with_reducible rfl
        try simp only [Act.put, List.setIfInBounds_toArray, List.set_cons_zero, List.set_cons_succ]
        refine take_yes (i := 15) (d := 59) (v := ?_) rfl rfl (by kernel_rfl) (by kernel_rfl) (by kernel_rfl) (fun _ _ _ h => h) (by rfl) ?_ (by assumption) ?_
        rotate_left 1
        ·intro w hSw
         obtain ⟨z0, z1, z2, z3, z4⟩ := hSw
         go_simp
         with_reducible rfl
        try simp only [Act.put, List.setIfInBounds_toArray, List.set_cons_zero, List.set_cons_succ]
        refine take_yes (i := 16) (d := 60) (v := ?_) rfl rfl (by kernel_rfl) (by kernel_rfl) (by kernel_rfl) (fun _ _ _ h => h) (by rfl) ?_ (by assumption) ?_
        rotate_left 1
        ·intro w hSw
         obtain ⟨z0, z1, z2, z3, z4⟩ := hSw
         go_simp
         with_reducible rfl
        try simp only [Act.put, List.setIfInBounds_toArray, List.set_cons_zero, List.set_cons_succ]
        refine take_yes (i := 17) (d := 61) (v := ?_) rfl rfl (by kernel_rfl) (by kernel_rfl) (by kernel_rfl) (fun _ _ _ h => h) (by rfl) ?_ (by assumption) ?_
        rotate_left 1
        ·intro w hSw
         obtain ⟨z0, z1, z2, z3, z4⟩ := hSw
         go_simp
         with_reducible rfl
        try simp only [Act.put, List.setIfInBounds_toArray, List.set_cons_zero, List.set_cons_succ]
        refine take_yes (i := 18) (d := 62) (v := ?_) rfl rfl (by kernel_rfl) (by kernel_rfl) (by kernel_rfl) (fun _ _ _ h => h) (by rfl) ?_ (by assumption) ?_
        rotate_left 1
        ·intro w hSw
         obtain ⟨z0, z1, z2, z3, z4⟩ := hSw
         go_simp
         with_reducible rfl
        try simp only [Act.put, List.setIfInBounds_toArray, List.set_cons_zero, List.set_cons_succ]
        refine take_yes (i := 19) (d := 63) (v := ?_) rfl rfl (by kernel_rfl) (by kernel_rfl) (by kernel_rfl) (fun _ _ _ h => h) (by rfl) ?_ (by assumption) ?_
        rotate_left 1
        ·intro w hSw
         obtain ⟨z0, z1, z2, z3, z4⟩ := hSw
         go_simp
         with_reducible rfl
        try simp only [Act.put, List.setIfInBounds_toArray, List.set_cons_zero, List.set_cons_succ]
        refine take_yes (i := 20) (d := 64) (v := ?_) rfl rfl (by kernel_rfl) (by kernel_rfl) (by kernel_rfl) (fun _ _ _ h => h) (by rfl) ?_ (by assumption) ?_
        rotate_left 1
        ·intro w hSw
         obtain ⟨z0, z1, z2, z3, z4⟩ := hSw
         go_simp
         with_reducible rfl
        try simp only [Act.put, List.setIfInBounds_toArray, List.set_cons_zero, List.set_cons_succ]
        refine take_yes (i := 21) (d := 65) (v := ?_) rfl rfl (by kernel_rfl) (by kernel_rfl) (by kernel_rfl) (fun _ _ _ h => h) (by rfl) ?_ (by assumption) ?_
        rotate_left 1
        ·intro w hSw
         obtain ⟨z0, z1, z2, z3, z4⟩ := hSw
         go_simp
         with_reducible rfl
        try simp only [Act.put, List.setIfInBounds_toArray, List.set_cons_zero, List.set_cons_succ]
        refine take_yes (i := 23) (d := 67) (v := ?_) rfl rfl (by kernel_rfl) (by kernel_rfl) (by kernel_rfl) (fun _ _ _ h => h) (by rfl) ?_ (by assumption) ?_
        rotate_left 1
        ·intro w hSw
         obtain ⟨z0, z1, z2, z3, z4⟩ := hSw
         go_simp
         with_reducible rfl
        try simp only [Act.put, List.setIfInBounds_toArray, List.set_cons_zero, List.set_cons_succ]
        refine wpAnyH_ready (rs := [22]) (by kernel_rfl) (by simp) ?_
        refine AllReadyH.cons rfl (fun K hK => ?_) AllReadyH.nil
        go_simp
        refine (HFi.out _ hH).mono ?_
        rintro e w8 ⟨rfl, hG⟩
        clear hH
        refine hK.out _ _ hG (fun hH => ?_)
        clear hK K hG
        try simp only [Act.put, List.setIfInBounds_toArray, List.set_cons_zero, List.set_cons_succ]
        refine take_yes (i := 24) (d := 68) (v := .bool true) rfl rfl (by kernel_rfl) (by kernel_rfl) (by kernel_rfl) (fun _ _ _ h => h) (by rfl) ?_ (by assumption) ?_
        ·intro w hSw
         obtain ⟨z0, z1, z2, z3, z4⟩ := hSw
         go_simp
         try simp
         try omega
        try simp only [Act.put, List.setIfInBounds_toArray, List.set_cons_zero, List.set_cons_succ]
        refine take_yes (i := 25) (d := 69) (v := ?_) rfl rfl (by kernel_rfl) (by kernel_rfl) (by kernel_rfl) (fun _ _ _ h => h) (by rfl) ?_ (by assumption) ?_
        rotate_left 1
        ·intro w hSw
         obtain ⟨z0, z1, z2, z3, z4⟩ := hSw
         go_simp
         with_reducible rfl
        try simp only [Act.put, List.setIfInBounds_toArray, List.set_cons_zero, List.set_cons_succ]
        refine wpAnyH_done (by kernel_rfl) ?_ _
        obtain ⟨a0, a1, a2, a3, G⟩ := hH
        have HB6 := Lib.hid (Bel.trans HB5.out G)
        have HR6 := Lib.hid (HR5.out.on G)
        clear G a0 a1 a2 a3 c0 c1
        go_wp2_with fail
        go_round
        case rel => exact ⟨i + 1, true, rfl, by go_num, by omega, HR6, HB6, HM6⟩
        case measure => first | (simp [intOf]; done) | (simp [intOf]; omega)
    ·obtain rfl : i = n := by omega
     have hpg : fb = p g := by
      have := HM5.out
      rw [List.drop_eq_nil_of_le (by rw [HLn.out]; exact Nat.le_refl _), fndN, Bool.or_false] at this
      exact this
     cases fb with
     | false =>
      have HR6 := Lib.hid (show Rwb (fun _ => False) V.heap.size w5 a m c (upto p (g + 1)) none 0 0 [] by rw [upto_no hpg.symm]; exact HR5.out)
      clear hpg
      go_wp2_with fail
      go_round
      case rel => exact ⟨g + 1, m, c, a, rfl, by go_num, by omega, HR6, HB5⟩
      case measure => first | (simp [intOf]; done) | (simp [intOf]; omega)
     | true =>
      have Hup := Lib.hid (show upto p g ++ [(g : Int)] = upto p (g + 1) from (upto_yes hpg.symm).symm)
      have HR2 := Lib.hid (HR5.out.on (Bel.alloc (Bel.refl w5) (.cells #[.int .i64 (g : Int)] 3)))
      have HB2 := Lib.hid (Bel.alloc HB5.out (.cells #[.int .i64 (g : Int)] 3))
      have hbs := HB2.out.size
      have Hnw : Hid (∀ j u, [Value.int .i64 (g : Int)][j]? = some u → (w5.alloc (.cells #[.int .i64 (g : Int)] 3)).cell? ((⟨w5.heap.size, 0, none⟩ : Addr).add j) = some u) := Lib.hid (World.news_of_block (cs := #[.int .i64 (g : Int)]) (t := 3) (fr := (0, 0)) (heap_new w5 _))
      have hi1 : m + 1 ≤ 1099511627776 := by have := HmL.out; omega
      clear hpg
      go_wp2_with (at_builtin; refine list_app1 _ _ rfl rfl rfl rfl HR2.out hbs (fun _ _ h => h) Hnw.out hi1 ?_; intro o9 c9 w9 k9 g9; refine Hid.out ?_)
      refine Lib.hid ?_
      have G9 := Lib.hid (Mod.bel_of HB2.out g9.out (fun x h => h.1))
      have K9 := Lib.hid (show Rwb (fun _ => False) V.heap.size w9 o9 (m + 1) c9 (upto p (g + 1)) none 0 0 [] by rw [← Hup.out]; exact k9.out)
      clear g9 k9
      go_wp2_with fail
      go_round
      case rel => exact ⟨g + 1, m + 1, c9, o9, rfl, by go_num, by omega, K9, G9⟩
      case measure => first | (simp [intOf]; done) | (simp [intOf]; omega)
  ·obtain rfl : g = k := by omega
   go_wp2_with fail
   go_ret
   exact ⟨a, m, c, rfl, HR.out.arg1, Bel.trans HBV.out HB.out, fun _ b off sp e => by
    subst e
    have h1 := (HR.out.1.lt b rfl).1
    have h2 := HBV.out.size
    omega⟩
end Syn
end Go.Proofs.YtcapkeaedpabjaaGreatDoor
