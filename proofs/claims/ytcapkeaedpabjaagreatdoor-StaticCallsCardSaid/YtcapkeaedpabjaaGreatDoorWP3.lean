/-
  Layer 8, texts merged: SvR, SvT. For every argument within the bounds that each theorem names.
-/
import Derived.Test.YtcapkeaedpabjaaGreatDoorWP2
import Derived.Test.YtcapkeaedpabjaaGreatDoorWP1
import Derived.Test.YtcapkeaedpabjaaGreatDoorWL6
import Derived.Test.YtcapkeaedpabjaaGreatDoorWL5

/-
 Layer 9, the reference: Reachable.
-/
namespace Go.Proofs.YtcapkeaedpabjaaGreatDoor
open Go.RowKit Go.ChangeShapes Go.WideShapes
namespace Syn
/-- A row of bools in a block of its own. -/
def SeenB (G : Nat) (s : List Bool) (w : World) : Prop := ∀ j (h : j < s.length), w.cell? ⟨G, j, none⟩ = some (.bool s[j]) ∧ w.frozen? ⟨G, j, none⟩ = false
theorem seenB0 (w : World) (n : Nat) (t : TypeId) : SeenB w.heap.size (List.replicate n false) (w.alloc (.cells (madeCells #[.bool false] n) t)) := fun j hj => ⟨by
 rw [List.length_replicate] at hj
 rw [World.cell?_alloc_new, List.getElem_replicate]
 have : (madeCells #[Value.bool false] n).toList[j]? = some (.bool false) := by rw [toList_madeCells_one, List.getElem?_replicate, if_pos hj]
 simpa using this, World.frozen?_alloc_new _ _ _ _⟩
theorem SeenB.set {G x : Nat} {s : List Bool} {w : World} (h : SeenB G s w) (_hx : x < s.length) : SeenB G (s.set x true) (w.setCell ⟨G, x, none⟩ (.bool true)) := fun j hj => by
 have hj' : j < s.length := by rw [List.length_set] at hj; exact hj
 refine ⟨?_, by rw [World.frozen?_setCell]; exact (h j hj').2⟩
 rw [List.getElem_set]
 by_cases e : x = j
 ·subst e
  rw [if_pos rfl]
  exact World.cell?_setCell_same _ _ _ (h x hj').1
 ·rw [if_neg e]
  exact (World.cell?_setCell_other _ _ _ _ (by intro q; exact e (congrArg Addr.off q))).trans (h j hj').1
theorem SeenB.on {G : Nat} {s : List Bool} {w w' : World} (h : SeenB G s w) (g : Bel w w') : SeenB G s w' := fun j hj => ⟨g.cell' (h j hj).1, (mod_froz (Mod.of_bel (F := fun _ => False) g) (h j hj).1 (fun h => h)).trans (h j hj).2⟩
theorem rounds_step {C : Nat → List Int} {k n : Nat} {s X : List Bool} (h : roundsR C k (k - n) s = X) (hn : n < k) : roundsR C k (k - (n + 1)) (roundR C 0 k s) = X := by
 rw [show k - n = (k - (n + 1)) + 1 by omega, roundsR] at h
 exact h
theorem round_step {C : Nat → List Int} {k f : Nat} {s Y : List Bool} (h : roundR C f (k - f) s = Y) (hf : f < k) : roundR C (f + 1) (k - (f + 1)) (if s[f]? = some true then seeL s (C f) else s) = Y := by
 rw [show k - f = (k - (f + 1)) + 1 by omega, roundR] at h
 exact h
set_option maxRecDepth 100000 in
set_option maxHeartbeats 16000000 in
theorem rreach_any (no fo : Option Addr) (n nc k fc : Nat) (L : List Nd) (F : List Fw) (hf : Fit9 n k L F) (hr : Rch L F) (w : World) (hA : NArg w no n L) (hF : FArg w fo k F) :
  Calls Tryz.prog 31 #[.agg #[.slice no n nc, .slice fo k fc]] w (CsPost w (reachE (resG L F) L F)) := by
 obtain ⟨V, hV⟩ : ∃ V, w.alloc (.cells #[.slice no n nc, .slice fo k fc] 25) = V := ⟨_, rfl⟩
 have BV : Bel w V := by rw [← hV]; exact Bel.alloc (Bel.refl _) _
 obtain ⟨v0, v1⟩ : V.cell? ⟨w.heap.size, 0, none⟩ = some (.slice no n nc) ∧ V.cell? ⟨w.heap.size, 1, none⟩ = some (.slice fo k fc) := by
  rw [← hV]
  exact ⟨World.cell?_alloc_new .., World.cell?_alloc_new ..⟩
 have HBV := Lib.hid BV
 have HVe := Lib.hid hV
 have HP := Lib.hid (show ∀ W, Bel V W → W.cell? ⟨w.heap.size, 0, none⟩ = some (.slice no n nc) ∧ W.cell? ⟨w.heap.size, 1, none⟩ = some (.slice fo k fc) from fun W g => ⟨g.cell' v0, g.cell' v1⟩)
 have HFk := Lib.hid hF.1
 have hk := hf.hk
 have hwz : w.heap.size < V.heap.size := by rw [← hV, alloc_szs]; omega
 have Hwz := Lib.hid hwz
 have HFm := Lib.hid (fun W (g : Bel V W) => rfun_any no fo n nc k fc F mainT (by omega) W ((hF.on BV).on g))
 have HC := Lib.hid (rscheck_any no fo n nc k fc L F hf hr V (hA.on BV) (hF.on BV))
 have HCa := Lib.hid (fun (f : Int) W (g : Bel V W) => rcalls_any no fo n nc k fc L F hf hr f W ((hA.on BV).on g) ((hF.on BV).on g))
 unfold RcPost at HC
 by_cases he : (resG L F).er = 0
 rotate_left
 ·have hre : reachE (resG L F) L F = [] := by unfold reachE; rw [if_pos he]
  rw [hre]
  have h1 : ((resG L F).er == 0) = false := by simpa using he
  have h2 : ((resG L F).er != 0) = true := by simpa using he
  generalize (resG L F).er = er at *
  generalize (resG L F).pos = pos at *
  clear hf hr hA hF BV hV hwz HCa hre he
  go_enter Tryz.func31, Tryz.ntmps31
  go_wp2_with fail
  rw [HVe.out]
  refine HC.out.mono ?_
  rintro e w2 ⟨rfl, g⟩
  have G := Lib.hid g
  clear g v0 v1
  go_wp2_with fail
  go_ret
  exact cs_nil _ _ (Bel.trans HBV.out G.out)
 obtain ⟨-, -, -, hch, -, hmn⟩ := res_ok he
 obtain ⟨hm1, hm2⟩ := main_in hmn
 obtain ⟨-, hk16⟩ := all_small hch
 rw [hF.1] at hm2 hk16
 obtain ⟨X, hX⟩ : ∃ X, roundsR (fun f => callsL L F f) k k ((List.replicate k false).set (findI F mainT).toNat true) = X := ⟨_, rfl⟩
 have hre : reachE (resG L F) L F = upto (fun g => decide (X[g]? = some true)) k := by rw [reachR_same he, reachR, hF.1, hX]
 rw [hre]
 have hce : ∀ q : Nat, q < k → callsE (resG L F) L F k (q : Int) = callsL L F q := fun q hq => by
  unfold callsE
  rw [if_neg (by simpa using he), if_pos (by omega), Int.toNat_natCast]
 obtain ⟨C, hC⟩ : ∃ C : Nat → List Int, (fun f => callsL L F f) = C := ⟨_, rfl⟩
 have HCl := Lib.hid (show ∀ q : Nat, q < k → ∀ W, Bel V W → Calls Tryz.prog 29 #[.agg #[.slice no n nc, .slice fo k fc], .int .i64 (q : Int)] W (CsPost W (C q)) from fun q hq W g => by
  have := HCa.out (q : Int) W g
  rw [hce q hq, show callsL L F q = C q from congrFun hC q] at this
  exact this)
 have HCi := Lib.hid (show ∀ q, ∀ x ∈ C q, 0 ≤ x ∧ x < (k : Int) from fun q x hx => by
  rw [← hC] at hx
  have := callsL_in hx
  rw [HFk.out] at this
  exact this)
 have HCn := Lib.hid (show ∀ q, (C q).length ≤ k from fun q => by
  rw [← hC, ← HFk.out]
  exact callsL_len L F q)
 rw [hC] at hX
 obtain ⟨p, hp⟩ : ∃ p : Nat → Bool, (fun g : Nat => decide (X[g]? = some true)) = p := ⟨_, rfl⟩
 rw [hp]
 have Hp := Lib.hid (show ∀ g (h : g < X.length), X[g] = p g from fun g h => by
  rw [← hp]
  simp only
  rw [List.getElem?_eq_getElem h]
  cases X[g] <;> rfl)
 clear hp
 obtain ⟨q, hq⟩ : ∃ q : Nat, findI F mainT = (q : Int) := ⟨(findI F mainT).toNat, by omega⟩
 rw [hq, Int.toNat_natCast] at hX
 have hX2 : fixI (fun g => decide (g.name = mainT)) 0 F = findI F mainT := rfl
 rw [hX2, hq] at HFm
 unfold mainT at HFm
 have HX := Lib.hid hX
 have hqk : q < k := by omega
 have hqk1 : (q : Int) < (k : Int) := by omega
 have hqk0 : (0 : Int) ≤ (q : Int) := by omega
 rw [he] at HC
 generalize (resG L F).pos = pos at *
 have hmk := make_boolz k (by omega)
 clear hf hr hA hF BV hV hwz HCa hre he hmn hm1 hm2 hch hce hC hX hX2 hq
 go_enter Tryz.func31, Tryz.ntmps31
 go_wp2_with fail
 rw [HVe.out]
 refine HC.out.mono ?_
 rintro e w2 ⟨rfl, g⟩
 have G2 := Lib.hid g
 clear v0 v1
 obtain ⟨v0, v1⟩ := HP.out w2 g
 obtain ⟨W5, hW5⟩ : ∃ W5, w2.alloc (.cells (madeCells #[.bool false] k) 4) = W5 := ⟨_, rfl⟩
 have HW5 := Lib.hid hW5
 have hS0 := seenB0 w2 k 4
 rw [hW5] at hS0
 have HS0 := Lib.hid hS0
 have HB5 := Lib.hid (show Bel V W5 by rw [← hW5]; exact Bel.alloc G2.out _)
 have HG := Lib.hid (show V.heap.size ≤ w2.heap.size from g.size)
 have HGl := Lib.hid (show w2.heap.size < W5.heap.size by rw [← hW5, alloc_szs]; omega)
 have hwz : w.heap.size < w2.heap.size := Nat.lt_of_lt_of_le Hwz.out g.size
 have HFm5 := Lib.hid (HFm.out W5 HB5.out)
 obtain ⟨z0, z1⟩ := HP.out W5 HB5.out
 rw [← hW5] at z0 z1
 clear hW5 g hS0
 go_wp2_with fail
 rw [HW5.out]
 refine HFm5.out.mono ?_
 rintro e w6 ⟨rfl, g⟩
 clear z0 z1 v0 v1
 have HB6 := Bel.trans HB5.out g
 have hS6 := HS0.out.on g
 obtain ⟨s0, s1⟩ := hS6 q (by rw [List.length_replicate]; exact hqk)
 rw [List.getElem_replicate] at s0
 obtain ⟨W7, hW7⟩ : ∃ W7, w6.setCell ⟨w2.heap.size, q, none⟩ (.bool true) = W7 := ⟨_, rfl⟩
 have HW7 := Lib.hid hW7
 have HS7 := Lib.hid (show SeenB w2.heap.size ((List.replicate k false).set q true) W7 by rw [← hW7]; exact hS6.set (by rw [List.length_replicate]; exact hqk))
 have HB7 := Lib.hid (show Bel V W7 from Mod.bel_of (F := fun b => b = w2.heap.size) HB6 (by rw [← hW7]; exact (Mod.refl (fun b => b = w2.heap.size) w6).setCell (p := ⟨w2.heap.size, q, none⟩) (Or.inl rfl) _) (fun x hx => by have := HG.out; omega))
 have HG7 := Lib.hid (show w2.heap.size < W7.heap.size by
  have h1 : w6.heap.size ≤ W7.heap.size := by rw [← hW7]; exact ((Mod.refl (fun b => b = w2.heap.size) w6).setCell (p := ⟨w2.heap.size, q, none⟩) (Or.inl rfl) (.bool true)).size
  have h2 := g.size
  have h3 := HGl.out
  omega)
 have HX0 := Lib.hid (show roundsR C k (k - 0) ((List.replicate k false).set q true) = X by rw [Nat.sub_zero]; exact HX.out)
 have HL0 := Lib.hid (show ((List.replicate k false).set q true).length = k by rw [List.length_set, List.length_replicate])
 generalize (List.replicate k false).set q true = s00 at *
 clear hW7 g HB6 hS6 hmk
 go_wp2_with fail
 rw [HW7.out]
 obtain ⟨gb, hgb⟩ : ∃ gb, w2.heap.size = gb := ⟨_, rfl⟩
 rw [hgb] at HS7 HG7 HG ⊢
 clear hgb s0 s1 hwz
 go_loopw [7] (fun iv wr => ∃ (nn : Nat) (s : List Bool), iv = .int .i64 (nn : Int) ∧ nn ≤ k ∧ Hid (s.length = k) ∧ Hid (SeenB gb s wr) ∧ Hid (Bel V wr) ∧ Hid (gb < wr.heap.size) ∧ Hid (roundsR C k (k - nn) s = X)) (fun iv _ => k - (intOf iv).toNat)
 case atStart => exact ⟨0, s00, rfl, Nat.zero_le _, HL0, HS7, HB7, HG7, HX0⟩
 case round =>
  obtain ⟨nn, s, rfl, hnn, HLs, HS, HB, HGs, HXs⟩ := hrel
  rename World => wr
  obtain ⟨v0, v1⟩ := HP.out wr HB.out
  rcases Nat.lt_or_ge nn k with hnk | hnk
  ·have hn1 : (nn : Int) < (k : Int) := by omega
   obtain ⟨Y, hY⟩ : ∃ Y, roundR C 0 k s = Y := ⟨_, rfl⟩
   have HXY := Lib.hid (show roundsR C k (k - (nn + 1)) Y = X by rw [← hY]; exact rounds_step HXs.out hnk)
   have HYl := Lib.hid (show Y.length = k by rw [← hY, roundR_len]; exact HLs.out)
   have HY0 := Lib.hid (show roundR C 0 (k - 0) s = Y from hY)
   clear hY
   go_wp2_with fail
   go_loopw [8] (fun iv w5 => ∃ (f : Nat) (t : List Bool), iv = .int .i64 (f : Int) ∧ f ≤ k ∧ Hid (t.length = k) ∧ Hid (SeenB gb t w5) ∧ Hid (Bel V w5) ∧ Hid (gb < w5.heap.size) ∧ Hid (roundR C f (k - f) t = Y)) (fun iv _ => k - (intOf iv).toNat)
   case atStart => exact ⟨0, s, rfl, Nat.zero_le _, HLs, HS, HB, HGs, HY0⟩
   case round =>
    obtain ⟨f, t, rfl, hfl, HLt, HSt, HBt, HGt, HYt⟩ := hrel
    rename World => w5
    clear v0 v1
    obtain ⟨v0, v1⟩ := HP.out w5 HBt.out
    rcases Nat.lt_or_ge f k with hfk | hfk
    ·have hf1 : (f : Int) < (k : Int) := by omega
     have hf0 : (0 : Int) ≤ (f : Int) := by omega
     have hft : f < t.length := by rw [HLt.out]; exact hfk
     have hst := round_step HYt.out hfk
     rw [List.getElem?_eq_getElem hft] at hst
     have HCf := Lib.hid (HCl.out f hfk w5 HBt.out)
     have HCb := Lib.hid (HCi.out f)
     obtain ⟨l, hl⟩ : ∃ l, C f = l := ⟨_, rfl⟩
     have hln := HCn.out f
     rw [hl] at HCf HCb hst hln
     obtain ⟨sf, hsf⟩ : ∃ sf, t[f] = sf := ⟨_, rfl⟩
     rw [hsf] at hst
     have Hst := Lib.hid hst
     have Hsf := Lib.hid (show t[f]? = some sf by rw [List.getElem?_eq_getElem hft, hsf])
     clear hst hl hsf hft
     go_wp2_with fail
     refine HCf.out.mono ?_
     rintro e w8 ⟨la, lm, lc, rfl, hrow, g, hfr⟩
     have HB8 := Lib.hid (Bel.trans HBt.out g)
     have HS8 := Lib.hid (HSt.out.on g)
     have HG8 := Lib.hid (show gb < w8.heap.size from Nat.lt_of_lt_of_le HGt.out g.size)
     have Hrow := Lib.hid hrow
     have Hfr := Lib.hid (show 0 < lm → ∀ b off sp, la = some ⟨b, off, sp⟩ → b ≠ gb from fun h b off sp e1 => by
      have h1 := hfr h b off sp e1
      have h2 := HGt.out
      omega)
     have hlm : lm ≤ 16 := by have := hrow.1; omega
     clear hrow g hfr v0 v1 hln
     go_wp2_with fail
     cases sf with
     | false =>
      have HY2 := Lib.hid (show roundR C (f + 1) (k - (f + 1)) t = Y by have := Hst.out; rw [if_neg (by decide)] at this; exact this)
      go_loopw [10] (fun jv w9 => jv = .int .i64 0 ∧ w9 = w8) (fun _ _ => 0)
      case atStart => exact ⟨rfl, rfl⟩
      case round =>
       obtain ⟨rfl, hw⟩ := hrel
       rename World => w9
       subst hw
       obtain ⟨y0, -⟩ := HS8.out f (by rw [HLt.out]; exact hfk)
       have hy : t[f]'(by rw [HLt.out]; exact hfk) = false := by
        have := Hsf.out
        rw [List.getElem?_eq_getElem (by rw [HLt.out]; exact hfk)] at this
        exact Option.some.inj this
       rw [hy] at y0
       clear hy
       go_wp2_with fail
       go_round
       case rel => exact ⟨f + 1, t, by go_num, by omega, HLt, HS8, HB8, HG8, HY2⟩
       case measure => first | (simp [intOf]; done) | (simp [intOf]; omega)
     | true =>
      obtain ⟨Z, hZ⟩ : ∃ Z, seeL t l = Z := ⟨_, rfl⟩
      have HZl := Lib.hid (show Z.length = k by rw [← hZ, seeL_len]; exact HLt.out)
      have HY2 := Lib.hid (show roundR C (f + 1) (k - (f + 1)) Z = Y by have := Hst.out; rw [if_pos rfl, hZ] at this; exact this)
      have HZ0 := Lib.hid (show seeL t (l.drop 0) = Z from hZ)
      clear hZ
      go_loopw [10] (fun jv w9 => ∃ (j : Nat) (u : List Bool), jv = .int .i64 (j : Int) ∧ j ≤ lm ∧ Hid (u.length = k) ∧ Hid (u[f]? = some true) ∧ Hid (SeenB gb u w9) ∧ Hid (Mod (fun b => b = gb) w8 w9) ∧ Hid (seeL u (l.drop j) = Z)) (fun jv _ => lm - (intOf jv).toNat)
      case atStart => exact ⟨0, t, rfl, Nat.zero_le _, HLt, Hsf, HS8, Lib.hid (Mod.refl _ _), HZ0⟩
      case round =>
       obtain ⟨j, u, rfl, hj, HLu, Huf, HSu, HMu, HZu⟩ := hrel
       rename World => w9
       have hfu : f < u.length := by rw [HLu.out]; exact hfk
       obtain ⟨y0, -⟩ := HSu.out f hfu
       have hy : u[f] = true := by
        have := Huf.out
        rw [List.getElem?_eq_getElem hfu] at this
        exact Option.some.inj this
       rw [hy] at y0
       clear hy hfu
       rcases Nat.lt_or_ge j lm with hjl | hjl
       ·have hjl2 : j < l.length := by rw [Hrow.out.1]; exact hjl
        obtain ⟨lb, lo, rfl, hcl⟩ := Hrow.out.2 (by omega)
        have c0 := HMu.out.cell (hcl j hjl2) (Hfr.out (by omega) lb lo none rfl)
        obtain ⟨y, hy⟩ : ∃ y, l[j] = y := ⟨_, rfl⟩
        rw [hy] at c0
        have hyb := HCb.out y (by rw [← hy]; exact List.getElem_mem hjl2)
        obtain ⟨yn, rfl⟩ : ∃ yn : Nat, y = (yn : Int) := ⟨y.toNat, by omega⟩
        have hyk : yn < u.length := by rw [HLu.out]; omega
        obtain ⟨x0, x1⟩ := HSu.out yn hyk
        have HS9 := Lib.hid (HSu.out.set hyk)
        have HL9 := Lib.hid (show (u.set yn true).length = k by rw [List.length_set]; exact HLu.out)
        have Hu9 := Lib.hid (show (u.set yn true)[f]? = some true by
         rw [List.getElem?_set]
         split
         ·first | rfl | rw [if_pos (by omega)]
         ·exact Huf.out)
        have HZ9 := Lib.hid (show seeL (u.set yn true) (l.drop (j + 1)) = Z by
         have := HZu.out
         rw [List.drop_eq_getElem_cons hjl2, hy] at this
         exact this)
        have HM9 := Lib.hid (HMu.out.setCell (p := ⟨gb, yn, none⟩) (Or.inl rfl) (.bool true))
        have hj1 : (j : Int) < (lm : Int) := by omega
        have hj0 : (0 : Int) ≤ (j : Int) := by omega
        have hy1 : (yn : Int) < (k : Int) := by omega
        have hy0 : (0 : Int) ≤ (yn : Int) := by omega
        generalize u[yn] = uy at *
        clear hcl hy hyk
        go_wp2_with fail
        go_round
        case rel => exact ⟨j + 1, _, by go_num, by omega, HL9, Hu9, HS9, HM9, HZ9⟩
        case measure => first | (simp [intOf]; done) | (simp [intOf]; omega)
       ·obtain rfl : j = lm := by omega
        have HuZ := HZu.out
        rw [List.drop_eq_nil_of_le (by rw [Hrow.out.1]; exact Nat.le_refl _)] at HuZ
        have huz : u = Z := HuZ
        subst huz
        have HB9 := Lib.hid (Mod.bel_of HB8.out HMu.out (fun x hx => by have := HG.out; omega))
        have HG9 := Lib.hid (Nat.lt_of_lt_of_le HG8.out HMu.out.size)
        clear HuZ
        go_wp2_with fail
        go_round
        case rel => exact ⟨f + 1, u, by go_num, by omega, HLu, HSu, HB9, HG9, HY2⟩
        case measure => first | (simp [intOf]; done) | (simp [intOf]; omega)
    ·obtain rfl : f = k := by omega
     have HtY := HYt.out
     rw [Nat.sub_self, roundR] at HtY
     subst HtY
     go_wp2_with fail
     go_round
     case rel => exact ⟨nn + 1, t, by go_num, by omega, HLt, HSt, HBt, HGt, HXY⟩
     case measure => first | (simp [intOf]; done) | (simp [intOf]; omega)
  ·obtain rfl : nn = k := by omega
   have HsX := HXs.out
   rw [Nat.sub_self, roundsR] at HsX
   subst HsX
   have hR0 := Lib.hid (Rwb.nil (fun _ => False) wr.heap.size wr)
   go_wp2_with fail
   go_loopw [3, 11] (fun av iv w5 => ∃ (g m c : Nat) (a : Option Addr), av = .slice a m c ∧ iv = .int .i64 (g : Int) ∧ g ≤ nn ∧ Hid (Rwb (fun _ => False) wr.heap.size w5 a m c (upto p g) none 0 0 []) ∧ Hid (Bel wr w5)) (fun _ iv _ => nn - (intOf iv).toNat)
   case atStart => exact ⟨0, 0, 0, none, rfl, rfl, Nat.zero_le _, hR0, Lib.hid (Bel.refl _)⟩
   case round =>
    obtain ⟨g, m, c, a, rfl, rfl, hg, HR, HBg⟩ := hrel
    rename World => w5
    rcases Nat.lt_or_ge g nn with hgk | hgk
    ·have hg1 : (g : Int) < (nn : Int) := by omega
     have hg0 : (0 : Int) ≤ (g : Int) := by omega
     have hgl : g < s.length := by rw [HLs.out]; exact hgk
     obtain ⟨y0, -⟩ := (HS.out.on HBg.out) g hgl
     rw [Hp.out g hgl] at y0
     have HmL := Lib.hid (show m ≤ g by
      have h1 := HR.out.nums.1
      have h2 := upto_len p g
      omega)
     clear hgl
     cases hpg : p g with
     | false =>
      rw [hpg] at y0
      have HR6 := Lib.hid (show Rwb (fun _ => False) wr.heap.size w5 a m c (upto p (g + 1)) none 0 0 [] by rw [upto_no hpg]; exact HR.out)
      clear hpg
      go_wp2_with fail
      go_round
      case rel => exact ⟨g + 1, m, c, a, rfl, by go_num, by omega, HR6, HBg⟩
      case measure => first | (simp [intOf]; done) | (simp [intOf]; omega)
     | true =>
      rw [hpg] at y0
      have Hup := Lib.hid (show upto p g ++ [(g : Int)] = upto p (g + 1) from (upto_yes hpg).symm)
      have HR2 := Lib.hid (HR.out.on (Bel.alloc (Bel.refl w5) (.cells #[.int .i64 (g : Int)] 3)))
      have HB2 := Lib.hid (Bel.alloc HBg.out (.cells #[.int .i64 (g : Int)] 3))
      have hbs := HB2.out.size
      have Hnw : Hid (∀ j u, [Value.int .i64 (g : Int)][j]? = some u → (w5.alloc (.cells #[.int .i64 (g : Int)] 3)).cell? ((⟨w5.heap.size, 0, none⟩ : Addr).add j) = some u) := Lib.hid (World.news_of_block (cs := #[.int .i64 (g : Int)]) (t := 3) (fr := (0, 0)) (heap_new w5 _))
      have hi1 : m + 1 ≤ 1099511627776 := by have := HmL.out; omega
      clear hpg
      go_wp2_with (at_builtin; refine list_app1 _ _ rfl rfl rfl rfl HR2.out hbs (fun _ _ h => h) Hnw.out hi1 ?_; intro o9 c9 w9 k9 g9; refine Hid.out ?_)
      refine Lib.hid ?_
      have G9 := Lib.hid (Mod.bel_of HB2.out g9.out (fun x h => h.1))
      have K9 := Lib.hid (show Rwb (fun _ => False) wr.heap.size w9 o9 (m + 1) c9 (upto p (g + 1)) none 0 0 [] by rw [← Hup.out]; exact k9.out)
      clear g9 k9
      go_wp2_with fail
      go_round
      case rel => exact ⟨g + 1, m + 1, c9, o9, rfl, by go_num, by omega, K9, G9⟩
      case measure => first | (simp [intOf]; done) | (simp [intOf]; omega)
    ·obtain rfl : g = nn := by omega
     go_wp2_with fail
     go_ret
     exact ⟨a, m, c, rfl, HR.out.arg1, Bel.trans HBV.out (Bel.trans HB.out HBg.out), fun _ b off sp e => by
      subst e
      have h1 := (HR.out.1.lt b rfl).1
      have h2 := HBV.out.size
      have h3 := HB.out.size
      omega⟩
end Syn
end Go.Proofs.YtcapkeaedpabjaaGreatDoor

/-
 Layer 9: the law Calls.
-/
namespace Go.Proofs.YtcapkeaedpabjaaGreatDoor
open Go.RowKit Go.ChangeShapes Go.WideShapes
namespace Syn
theorem callsE_len (R : Rs) (L : List Nd) (F : List Fw) (k : Nat) (f : Int) : (callsE R L F k f).length ≤ F.length := by
 unfold callsE
 split
 ·exact Nat.zero_le _
 ·split
  ·exact callsL_len L F _
  ·exact Nat.zero_le _
theorem reachE_len (L : List Nd) (F : List Fw) : (reachE (resG L F) L F).length ≤ F.length := by
 by_cases he : (resG L F).er = 0
 ·rw [reachR_same he]
  exact upto_len _ _
 ·unfold reachE
  rw [if_pos he]
  exact Nat.zero_le _
set_option maxRecDepth 100000 in
set_option maxHeartbeats 16000000 in
theorem law_calls9 (no fo : Option Addr) (n nc k fc : Nat) (L : List Nd) (F : List Fw) (hn : n ≤ 4611686018427387904) (hk : k ≤ 4611686018427387904) (hnc : n ≤ nc) (f : Int) (w : World) (hm : Lex.ML w) (hA : NArg w no n L) (hF : FArg w fo k F) (hr : Rch L F) :
  Calls Tryz.prog 7 #[.agg #[.slice no n nc, .slice fo k fc], .int .i64 f] w fun e w' => e = .returned (.bool true) ∧ Bel w w' := by
 obtain ⟨V, hV⟩ : ∃ V, w.alloc (.cells #[.slice no n nc, .slice fo k fc] 25) = V := ⟨_, rfl⟩
 have BV : Bel w V := by rw [← hV]; exact Bel.alloc (Bel.refl _) _
 obtain ⟨v0, v1⟩ : V.cell? ⟨w.heap.size, 0, none⟩ = some (.slice no n nc) ∧ V.cell? ⟨w.heap.size, 1, none⟩ = some (.slice fo k fc) := by
  rw [← hV]
  exact ⟨World.cell?_alloc_new .., World.cell?_alloc_new ..⟩
 have hLn := hA.1
 have hFk := hF.1
 have HBV := Lib.hid BV
 have HVe := Lib.hid hV
 have HP := Lib.hid (show ∀ W, Bel V W → W.cell? ⟨w.heap.size, 0, none⟩ = some (.slice no n nc) ∧ W.cell? ⟨w.heap.size, 1, none⟩ = some (.slice fo k fc) from fun W g => ⟨g.cell' v0, g.cell' v1⟩)
 have HW := Lib.hid (fun W (g : Bel V W) => awake9_any W ((hm.on BV).on g))
 have HS := Lib.hid (small_any no fo n nc k fc L F hn hk V (hA.on BV) (hF.on BV) hr.wf (fun x hx => (hr.fn x hx).1))
 have HC := Lib.hid (fun (hs : SmallP L F) W (g : Bel V W) => calls_any no fo n nc k fc L F (fit_small3 hs hr hLn hFk) hnc f W ((hm.on BV).on g) ((hA.on BV).on g) ((hF.on BV).on g))
 have HD := Lib.hid (fun (hs : SmallP L F) W (g : Bel V W) => rcalls_any no fo n nc k fc L F (fit_small3 hs hr hLn hFk) hr f W ((hA.on BV).on g) ((hF.on BV).on g))
 have HE := Lib.hid (fun (hs : SmallP L F) W (g : Bel V W) => reachable_any no fo n nc k fc L F (fit_small3 hs hr hLn hFk) hnc W ((hm.on BV).on g) ((hA.on BV).on g) ((hF.on BV).on g))
 have HG := Lib.hid (fun (hs : SmallP L F) W (g : Bel V W) => rreach_any no fo n nc k fc L F (fit_small3 hs hr hLn hFk) hr W ((hA.on BV).on g) ((hF.on BV).on g))
 have Hcl := Lib.hid (show SmallP L F → (callsE (resG L F) L F k f).length ≤ 20 from fun hs => Nat.le_trans (callsE_len _ L F k f) hs.hk)
 have Hrl := Lib.hid (show SmallP L F → (reachE (resG L F) L F).length ≤ 20 from fun hs => Nat.le_trans (reachE_len L F) hs.hk)
 generalize callsE (resG L F) L F k f = cl at *
 generalize reachE (resG L F) L F = rl at *
 clear hA hF hr hm BV hV v0 v1 hLn hFk
 go_enter Tryz.func7, Tryz.ntmps7
 go_wp2_with fail
 rw [HVe.out]
 refine HS.out.mono ?_
 rintro e w1 ⟨bs, rfl, hsm, g⟩
 have G1 := Lib.hid g
 obtain ⟨x0, x1⟩ := HP.out w1 g
 clear g
 cases bs with
 | false =>
  go_wp2_with fail
  refine (HW.out _ G1.out).mono ?_
  rintro e w2 ⟨rfl, g⟩
  go_wp2_with fail
  go_ret
  exact ⟨rfl, Bel.trans HBV.out (Bel.trans G1.out g)⟩
 | true =>
 have hs := Lib.hid (hsm rfl)
 clear hsm
 go_wp2_with fail
 refine wp_region_held_drew (S := fun W => W.cell? ⟨w.heap.size, 0, none⟩ = some (.slice no n nc) ∧ W.cell? ⟨w.heap.size, 1, none⟩ = some (.slice fo k fc)) (by kernel_rfl) ⟨x0, x1⟩ (fun hH => ?_)
 refine take_yes (i := 0) (d := 9) (v := ?_) rfl rfl (by kernel_rfl) (by kernel_rfl) (by kernel_rfl) (fun _ _ _ h => h) (by rfl) ?_ (by assumption) ?_
 rotate_left 1
 ·intro w hSw
  obtain ⟨z0, z1⟩ := hSw
  go_simp
  with_reducible rfl
 try simp only [Act.put, List.setIfInBounds_toArray, List.set_cons_zero, List.set_cons_succ]
 refine take_yes (i := 1) (d := 10) (v := ?_) rfl rfl (by kernel_rfl) (by kernel_rfl) (by kernel_rfl) (fun _ _ _ h => h) (by rfl) ?_ (by assumption) ?_
 rotate_left 1
 ·intro w hSw
  obtain ⟨z0, z1⟩ := hSw
  go_simp
  with_reducible rfl
 try simp only [Act.put, List.setIfInBounds_toArray, List.set_cons_zero, List.set_cons_succ]
 refine take_yes (i := 3) (d := 12) (v := ?_) rfl rfl (by kernel_rfl) (by kernel_rfl) (by kernel_rfl) (fun _ _ _ h => h) (by rfl) ?_ (by assumption) ?_
 rotate_left 1
 ·intro w hSw
  obtain ⟨z0, z1⟩ := hSw
  go_simp
  with_reducible rfl
 try simp only [Act.put, List.setIfInBounds_toArray, List.set_cons_zero, List.set_cons_succ]
 refine take_yes (i := 4) (d := 13) (v := ?_) rfl rfl (by kernel_rfl) (by kernel_rfl) (by kernel_rfl) (fun _ _ _ h => h) (by rfl) ?_ (by assumption) ?_
 rotate_left 1
 ·intro w hSw
  obtain ⟨z0, z1⟩ := hSw
  go_simp
  with_reducible rfl
 try simp only [Act.put, List.setIfInBounds_toArray, List.set_cons_zero, List.set_cons_succ]
 refine wpAnyH_ready (rs := [2]) (by kernel_rfl) (by simp) ?_
 refine AllReadyH.cons rfl (fun K hK => ?_) AllReadyH.nil
 go_simp
 refine (HC.out hs.out _ (Below.drew G1.out)).mono ?_
 rintro e w2 ⟨a1, m1, c1, rfl, hr1, g, -⟩
 have G2 := Lib.hid (Bel.trans (Below.drew G1.out) g)
 have R1 := Lib.hid hr1
 have sH := HP.out w2 G2.out
 clear g hr1
 clear hH
 refine hK.out _ _ sH (fun hH => ?_)
 clear hK K sH
 try simp only [Act.put, List.setIfInBounds_toArray, List.set_cons_zero, List.set_cons_succ]
 refine wpAnyH_ready (rs := [5]) (by kernel_rfl) (by simp) ?_
 refine AllReadyH.cons rfl (fun K hK => ?_) AllReadyH.nil
 go_simp
 refine (HD.out hs.out _ G2.out).mono ?_
 rintro e w3 ⟨a2, m2, c2, rfl, hr2, g, -⟩
 have G3 := Lib.hid (Bel.trans G2.out g)
 have hm1 := R1.out.1
 have hm2 := hr2.1
 have hcl := Hcl.out hs.out
 have hE1 := equal9_any a1 a2 m1 m2 c1 c2 cl cl (by omega) (by omega) w3 (R1.out.on g) hr2
 rw [decide_eq_true rfl] at hE1
 have HE1 := Lib.hid hE1
 have sH := HP.out w3 G3.out
 clear g hr2 hm1 hm2 hcl hE1
 clear hH
 refine hK.out _ _ sH (fun hH => ?_)
 clear hK K sH
 try simp only [Act.put, List.setIfInBounds_toArray, List.set_cons_zero, List.set_cons_succ]
 refine wpAnyH_ready (rs := [6]) (by kernel_rfl) (by simp) ?_
 refine AllReadyH.cons rfl (fun K hK => ?_) AllReadyH.nil
 go_simp
 refine (HE1.out).mono ?_
 rintro e w4 ⟨rfl, g⟩
 have G4 := Lib.hid (Bel.trans G3.out g)
 have sH := HP.out w4 G4.out
 clear g
 clear hH
 refine hK.out _ _ sH (fun hH => ?_)
 clear hK K sH
 try simp only [Act.put, List.setIfInBounds_toArray, List.set_cons_zero, List.set_cons_succ]
 refine take_yes (i := 7) (d := 16) (v := ?_) rfl rfl (by kernel_rfl) (by kernel_rfl) (by kernel_rfl) (fun _ _ _ h => h) (by rfl) ?_ (by assumption) ?_
 rotate_left 1
 ·intro w hSw
  obtain ⟨z0, z1⟩ := hSw
  go_simp
  with_reducible rfl
 try simp only [Act.put, List.setIfInBounds_toArray, List.set_cons_zero, List.set_cons_succ]
 refine take_yes (i := 8) (d := 17) (v := ?_) rfl rfl (by kernel_rfl) (by kernel_rfl) (by kernel_rfl) (fun _ _ _ h => h) (by rfl) ?_ (by assumption) ?_
 rotate_left 1
 ·intro w hSw
  obtain ⟨z0, z1⟩ := hSw
  go_simp
  with_reducible rfl
 try simp only [Act.put, List.setIfInBounds_toArray, List.set_cons_zero, List.set_cons_succ]
 refine take_yes (i := 10) (d := 19) (v := ?_) rfl rfl (by kernel_rfl) (by kernel_rfl) (by kernel_rfl) (fun _ _ _ h => h) (by rfl) ?_ (by assumption) ?_
 rotate_left 1
 ·intro w hSw
  obtain ⟨z0, z1⟩ := hSw
  go_simp
  with_reducible rfl
 try simp only [Act.put, List.setIfInBounds_toArray, List.set_cons_zero, List.set_cons_succ]
 refine wpAnyH_ready (rs := [9]) (by kernel_rfl) (by simp) ?_
 refine AllReadyH.cons rfl (fun K hK => ?_) AllReadyH.nil
 go_simp
 refine (HE.out hs.out _ G4.out).mono ?_
 rintro e w5 ⟨a3, m3, c3, rfl, hr3, g, -⟩
 have G5 := Lib.hid (Bel.trans G4.out g)
 have R3 := Lib.hid hr3
 have sH := HP.out w5 G5.out
 clear g hr3
 clear hH
 refine hK.out _ _ sH (fun hH => ?_)
 clear hK K sH
 try simp only [Act.put, List.setIfInBounds_toArray, List.set_cons_zero, List.set_cons_succ]
 refine wpAnyH_ready (rs := [11]) (by kernel_rfl) (by simp) ?_
 refine AllReadyH.cons rfl (fun K hK => ?_) AllReadyH.nil
 go_simp
 refine (HG.out hs.out _ G5.out).mono ?_
 rintro e w6 ⟨a4, m4, c4, rfl, hr4, g, -⟩
 have G6 := Lib.hid (Bel.trans G5.out g)
 have hm3 := R3.out.1
 have hm4 := hr4.1
 have hrl := Hrl.out hs.out
 have hE2 := equal9_any a3 a4 m3 m4 c3 c4 rl rl (by omega) (by omega) w6 (R3.out.on g) hr4
 rw [decide_eq_true rfl] at hE2
 have HE2 := Lib.hid hE2
 have sH := HP.out w6 G6.out
 clear g hr4 hm3 hm4 hrl hE2
 clear hH
 refine hK.out _ _ sH (fun hH => ?_)
 clear hK K sH
 try simp only [Act.put, List.setIfInBounds_toArray, List.set_cons_zero, List.set_cons_succ]
 refine wpAnyH_ready (rs := [12]) (by kernel_rfl) (by simp) ?_
 refine AllReadyH.cons rfl (fun K hK => ?_) AllReadyH.nil
 go_simp
 refine (HE2.out).mono ?_
 rintro e w7 ⟨rfl, g⟩
 have G7 := Lib.hid (Bel.trans G6.out g)
 have sH := HP.out w7 G7.out
 clear g
 clear hH
 refine hK.out _ _ sH (fun hH => ?_)
 clear hK K sH
 try simp only [Act.put, List.setIfInBounds_toArray, List.set_cons_zero, List.set_cons_succ]
 refine take_yes (i := 13) (d := 22) (v := ?_) rfl rfl (by kernel_rfl) (by kernel_rfl) (by kernel_rfl) (fun _ _ _ h => h) (by rfl) ?_ (by assumption) ?_
 rotate_left 1
 ·intro w hSw
  obtain ⟨z0, z1⟩ := hSw
  go_simp
  with_reducible rfl
 try simp only [Act.put, List.setIfInBounds_toArray, List.set_cons_zero, List.set_cons_succ]
 refine take_yes (i := 14) (d := 23) (v := ?_) rfl rfl (by kernel_rfl) (by kernel_rfl) (by kernel_rfl) (fun _ _ _ h => h) (by rfl) ?_ (by assumption) ?_
 rotate_left 1
 ·intro w hSw
  obtain ⟨z0, z1⟩ := hSw
  go_simp
  with_reducible rfl
 try simp only [Act.put, List.setIfInBounds_toArray, List.set_cons_zero, List.set_cons_succ]
 refine wpAnyH_ready (rs := [15]) (by kernel_rfl) (by simp) ?_
 refine AllReadyH.cons rfl (fun K hK => ?_) AllReadyH.nil
 go_simp
 refine (HW.out _ G7.out).mono ?_
 rintro e w8 ⟨rfl, g⟩
 have G8 := Lib.hid (Bel.trans G7.out g)
 have sH := HP.out w8 G8.out
 clear g
 clear hH
 refine hK.out _ _ sH (fun hH => ?_)
 clear hK K sH
 try simp only [Act.put, List.setIfInBounds_toArray, List.set_cons_zero, List.set_cons_succ]
 refine take_yes (i := 16) (d := 25) (v := ?_) rfl rfl (by kernel_rfl) (by kernel_rfl) (by kernel_rfl) (fun _ _ _ h => h) (by rfl) ?_ (by assumption) ?_
 rotate_left 1
 ·intro w hSw
  obtain ⟨z0, z1⟩ := hSw
  go_simp
  with_reducible rfl
 try simp only [Act.put, List.setIfInBounds_toArray, List.set_cons_zero, List.set_cons_succ]
 refine take_yes (i := 17) (d := 4) (v := ?_) rfl rfl (by kernel_rfl) (by kernel_rfl) (by kernel_rfl) (fun _ _ _ h => h) (by rfl) ?_ (by assumption) ?_
 rotate_left 1
 ·intro w hSw
  obtain ⟨z0, z1⟩ := hSw
  go_simp
  with_reducible rfl
 try simp only [Act.put, List.setIfInBounds_toArray, List.set_cons_zero, List.set_cons_succ]
 refine wpAnyH_done (by kernel_rfl) ?_ _
 clear hH
 go_wp2_with fail
 go_ret
 exact ⟨rfl, Bel.trans HBV.out G8.out⟩
end Syn
end Go.Proofs.YtcapkeaedpabjaaGreatDoor
