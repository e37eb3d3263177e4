/-
  Layer 8, texts merged: SuO, SuP, SuQ. For every argument within the bounds that each theorem names.
-/
import Derived.Test.YtmifookckpelaaaGreatDoorML4
import Derived.Test.YtmifookckpelaaaGreatDoorMK3

/-
 Layer 9: the law's right, where a slot is right.
-/
namespace Go.Proofs.YtmifookckpelaaaGreatDoor
open Go.RowKit Go.ChangeShapes Go.WideShapes Go.Maps
set_option linter.unusedVariables false
namespace Syn
set_option maxRecDepth 100000 in
set_option maxHeartbeats 8000000 in
theorem right_a (nb nf b off sb sf : Nat) (n nc k fc sc : Nat) (KD : Nat → Int) (ST : Nat → Txt) (sl : List Int) (q low i : Nat) (nn v : Int) (xs : Txt) (vi : Int) (ko jo po : Option Addr) (kn kc jn jc pk pc : Nat) (hn : n ≤ 200) (hi : i < n) (hq : q < k) (hli : low ≤ i) (w : World)
  (hN : ∀ j, j < n → w.cell? ⟨nb, nf + j * 5, none⟩ = some (.int .i64 (KD j)) ∧ w.cell? ⟨nb, nf + j * 5 + 1, none⟩ = some (.string ⟨(ST j).toArray⟩)) (hS : ∀ j (h : j < sl.length), w.cell? ⟨sb, sf + j, none⟩ = some (.int .i64 sl[j])) (hsl : sl.length = n)
  (g1 : w.cell? ⟨nb, nf + i * 5 + 1, none⟩ = some (.string ⟨xs.toArray⟩)) (g2 : w.cell? ⟨nb, nf + i * 5 + 2, none⟩ = some (.int .i64 vi)) (g3 : w.cell? ⟨nb, nf + i * 5 + 3, none⟩ = some (.slice ko kn kc)) (g4 : w.cell? ⟨nb, nf + i * 5 + 4, none⟩ = some (.slice jo jn jc))
  (hd1 : w.cell? ⟨b, off + q * 3 + 1, none⟩ = some (.slice po pk pc)) (s0 : w.cell? ⟨sb, sf + i, none⟩ = some (.int .i64 v)) (kd : Int) (g0 : w.cell? ⟨nb, nf + i * 5, none⟩ = some (.int .i64 kd)) (h5 : kd ≠ 5) (h13 : kd ≠ 13) (h14 : kd ≠ 14) (hv : v = -1) :
  Calls Tryz.prog 46 #[.agg #[.slice (some ⟨nb, nf, none⟩) n nc, .slice (some ⟨b, off, none⟩) k fc], .slice (some ⟨sb, sf, none⟩) n sc, .int .i64 (q : Int), .int .i64 (low : Int), .int .i64 (i : Int), .int .i64 nn] w fun e w' => e = .returned (.bool true) ∧ Bel w w' := by
 have hi1 : (i : Int) < (n : Int) := by omega
 have hi0 : (0 : Int) ≤ (i : Int) := by omega
 have hq1 : (q : Int) < (k : Int) := by omega
 have hq0 : (0 : Int) ≤ (q : Int) := by omega
 subst hv
 have b5 : (kd == 5) = false := by simpa using h5
 have b13 : (kd == 13) = false := by simpa using h13
 have b14 : (kd == 14) = false := by simpa using h14
 have c5 : (kd != 5) = true := by simpa using h5
 have c13 : (kd != 13) = true := by simpa using h13
 have c14 : (kd != 14) = true := by simpa using h14
 have z1 : (w.alloc (.cells #[.slice (some ⟨nb, nf, none⟩) n nc, .slice (some ⟨b, off, none⟩) k fc] 25)).heap.size = w.heap.size + 1 := alloc_szs _ _
 have B1 : Bel w (w.alloc (.cells #[.slice (some ⟨nb, nf, none⟩) n nc, .slice (some ⟨b, off, none⟩) k fc] 25)) := Bel.alloc (Bel.refl w) _
 have B2 : Bel w ((w.alloc (.cells #[.slice (some ⟨nb, nf, none⟩) n nc, .slice (some ⟨b, off, none⟩) k fc] 25)).alloc (.cells #[.int .i64 kd, .string ⟨xs.toArray⟩, .int .i64 vi, .slice ko kn kc, .slice jo jn jc] 60)) := Bel.alloc B1 _
 have a0 := B1.cell' g0
 have a1 := B1.cell' g1
 have a2 := B1.cell' g2
 have a3 := B1.cell' g3
 have a4 := B1.cell' g4
 have d1 := B2.cell' hd1
 obtain ⟨U, hU⟩ : ∃ U, ((w.alloc (.cells #[.slice (some ⟨nb, nf, none⟩) n nc, .slice (some ⟨b, off, none⟩) k fc] 25)).alloc (.cells #[.int .i64 kd, .string ⟨xs.toArray⟩, .int .i64 vi, .slice ko kn kc, .slice jo jn jc] 60)) = U := ⟨_, rfl⟩
 have BU : Bel w U := by rw [← hU]; exact B2
 obtain ⟨p0, p1⟩ : U.cell? ⟨w.heap.size, 0, none⟩ = some (.slice (some ⟨nb, nf, none⟩) n nc) ∧ U.cell? ⟨w.heap.size, 1, none⟩ = some (.slice (some ⟨b, off, none⟩) k fc) := by
  rw [← hU]
  exact ⟨(Bel.alloc (Bel.refl (w.alloc (.cells #[.slice (some ⟨nb, nf, none⟩) n nc, .slice (some ⟨b, off, none⟩) k fc] 25))) _).cell' (World.cell?_alloc_new ..), (Bel.alloc (Bel.refl (w.alloc (.cells #[.slice (some ⟨nb, nf, none⟩) n nc, .slice (some ⟨b, off, none⟩) k fc] 25))) _).cell' (World.cell?_alloc_new ..)⟩
 obtain ⟨y0, y1, -, -, -⟩ := box5 (w.alloc (.cells #[.slice (some ⟨nb, nf, none⟩) n nc, .slice (some ⟨b, off, none⟩) k fc] 25)) (.int .i64 kd) (.string ⟨xs.toArray⟩) (.int .i64 vi) (.slice ko kn kc) (.slice jo jn jc) 60
 rw [hU, z1] at y0 y1
 have HU := Lib.hid hU
 have HBU := Lib.hid BU
 have HP := Lib.hid (show ∀ W, Bel U W → (W.cell? ⟨w.heap.size, 0, none⟩ = some (.slice (some ⟨nb, nf, none⟩) n nc) ∧ W.cell? ⟨w.heap.size, 1, none⟩ = some (.slice (some ⟨b, off, none⟩) k fc)) ∧ W.cell? ⟨w.heap.size + 1, 0, none⟩ = some (.int .i64 kd) ∧ W.cell? ⟨w.heap.size + 1, 1, none⟩ = some (.string ⟨xs.toArray⟩) from fun W g => ⟨⟨g.cell' p0, g.cell' p1⟩, g.cell' y0, g.cell' y1⟩)
 have e0 := B2.cell' s0
 clear hN hS p0 p1 y0 y1 B1 B2 BU hU z1
 go_enter Tryz.func46, Tryz.ntmps46
 go_wp2_with fail
 go_ret
 rw [HU.out]
 exact ⟨rfl, HBU.out⟩
set_option maxRecDepth 100000 in
set_option maxHeartbeats 8000000 in
theorem right_b (nb nf b off sb sf : Nat) (n nc k fc sc : Nat) (KD : Nat → Int) (ST : Nat → Txt) (sl : List Int) (q low i : Nat) (nn v : Int) (xs : Txt) (vi : Int) (ko jo po : Option Addr) (kn kc jn jc pk pc : Nat) (hn : n ≤ 200) (hi : i < n) (hq : q < k) (hli : low ≤ i) (w : World)
  (hN : ∀ j, j < n → w.cell? ⟨nb, nf + j * 5, none⟩ = some (.int .i64 (KD j)) ∧ w.cell? ⟨nb, nf + j * 5 + 1, none⟩ = some (.string ⟨(ST j).toArray⟩)) (hS : ∀ j (h : j < sl.length), w.cell? ⟨sb, sf + j, none⟩ = some (.int .i64 sl[j])) (hsl : sl.length = n)
  (g1 : w.cell? ⟨nb, nf + i * 5 + 1, none⟩ = some (.string ⟨xs.toArray⟩)) (g2 : w.cell? ⟨nb, nf + i * 5 + 2, none⟩ = some (.int .i64 vi)) (g3 : w.cell? ⟨nb, nf + i * 5 + 3, none⟩ = some (.slice ko kn kc)) (g4 : w.cell? ⟨nb, nf + i * 5 + 4, none⟩ = some (.slice jo jn jc))
  (hd1 : w.cell? ⟨b, off + q * 3 + 1, none⟩ = some (.slice po pk pc)) (s0 : w.cell? ⟨sb, sf + i, none⟩ = some (.int .i64 v)) (g0 : w.cell? ⟨nb, nf + i * 5, none⟩ = some (.int .i64 13)) (h0 : 0 ≤ v) (h1 : v < nn) (hpl : (pk : Int) ≤ v) (hno : ∀ j, low ≤ j → j < i → KD j = 13 → ∀ h : j < sl.length, sl[j] ≠ v) :
  Calls Tryz.prog 46 #[.agg #[.slice (some ⟨nb, nf, none⟩) n nc, .slice (some ⟨b, off, none⟩) k fc], .slice (some ⟨sb, sf, none⟩) n sc, .int .i64 (q : Int), .int .i64 (low : Int), .int .i64 (i : Int), .int .i64 nn] w fun e w' => e = .returned (.bool true) ∧ Bel w w' := by
 have hi1 : (i : Int) < (n : Int) := by omega
 have hi0 : (0 : Int) ≤ (i : Int) := by omega
 have hq1 : (q : Int) < (k : Int) := by omega
 have hq0 : (0 : Int) ≤ (q : Int) := by omega
 have h0' : ¬ v < 0 := by omega
 have h1' : ¬ nn ≤ v := by omega
 have z1 : (w.alloc (.cells #[.slice (some ⟨nb, nf, none⟩) n nc, .slice (some ⟨b, off, none⟩) k fc] 25)).heap.size = w.heap.size + 1 := alloc_szs _ _
 have B1 : Bel w (w.alloc (.cells #[.slice (some ⟨nb, nf, none⟩) n nc, .slice (some ⟨b, off, none⟩) k fc] 25)) := Bel.alloc (Bel.refl w) _
 have B2 : Bel w ((w.alloc (.cells #[.slice (some ⟨nb, nf, none⟩) n nc, .slice (some ⟨b, off, none⟩) k fc] 25)).alloc (.cells #[.int .i64 13, .string ⟨xs.toArray⟩, .int .i64 vi, .slice ko kn kc, .slice jo jn jc] 60)) := Bel.alloc B1 _
 have a0 := B1.cell' g0
 have a1 := B1.cell' g1
 have a2 := B1.cell' g2
 have a3 := B1.cell' g3
 have a4 := B1.cell' g4
 have d1 := B2.cell' hd1
 obtain ⟨U, hU⟩ : ∃ U, ((w.alloc (.cells #[.slice (some ⟨nb, nf, none⟩) n nc, .slice (some ⟨b, off, none⟩) k fc] 25)).alloc (.cells #[.int .i64 13, .string ⟨xs.toArray⟩, .int .i64 vi, .slice ko kn kc, .slice jo jn jc] 60)) = U := ⟨_, rfl⟩
 have BU : Bel w U := by rw [← hU]; exact B2
 obtain ⟨p0, p1⟩ : U.cell? ⟨w.heap.size, 0, none⟩ = some (.slice (some ⟨nb, nf, none⟩) n nc) ∧ U.cell? ⟨w.heap.size, 1, none⟩ = some (.slice (some ⟨b, off, none⟩) k fc) := by
  rw [← hU]
  exact ⟨(Bel.alloc (Bel.refl (w.alloc (.cells #[.slice (some ⟨nb, nf, none⟩) n nc, .slice (some ⟨b, off, none⟩) k fc] 25))) _).cell' (World.cell?_alloc_new ..), (Bel.alloc (Bel.refl (w.alloc (.cells #[.slice (some ⟨nb, nf, none⟩) n nc, .slice (some ⟨b, off, none⟩) k fc] 25))) _).cell' (World.cell?_alloc_new ..)⟩
 obtain ⟨y0, y1, -, -, -⟩ := box5 (w.alloc (.cells #[.slice (some ⟨nb, nf, none⟩) n nc, .slice (some ⟨b, off, none⟩) k fc] 25)) (.int .i64 13) (.string ⟨xs.toArray⟩) (.int .i64 vi) (.slice ko kn kc) (.slice jo jn jc) 60
 rw [hU, z1] at y0 y1
 have HU := Lib.hid hU
 have HBU := Lib.hid BU
 have HP := Lib.hid (show ∀ W, Bel U W → (W.cell? ⟨w.heap.size, 0, none⟩ = some (.slice (some ⟨nb, nf, none⟩) n nc) ∧ W.cell? ⟨w.heap.size, 1, none⟩ = some (.slice (some ⟨b, off, none⟩) k fc)) ∧ W.cell? ⟨w.heap.size + 1, 0, none⟩ = some (.int .i64 13) ∧ W.cell? ⟨w.heap.size + 1, 1, none⟩ = some (.string ⟨xs.toArray⟩) from fun W g => ⟨⟨g.cell' p0, g.cell' p1⟩, g.cell' y0, g.cell' y1⟩)
 have e0 := B2.cell' s0
 have HS0 := Lib.hid s0
 have HN := Lib.hid hN
 have HS := Lib.hid hS
 have Hno := Lib.hid hno
 have Hsl := Lib.hid hsl
 clear hN hS hno hsl p0 p1 y0 y1 B1 B2 BU hU z1
 go_enter Tryz.func46, Tryz.ntmps46
 go_wp2_with fail
 go_loopw [15] (fun jv wr => ∃ j : Nat, jv = .int .i64 (j : Int) ∧ low ≤ j ∧ j ≤ i ∧ Hid (Bel U wr)) (fun jv _ => i - (intOf jv).toNat)
 case atStart => exact ⟨low, rfl, Nat.le_refl _, hli, Lib.hid (by rw [HU.out]; exact Bel.refl _)⟩
 case round =>
  obtain ⟨j, rfl, hlj, hj, HB⟩ := hrel
  rename World => wr
  have BW := Bel.trans HBU.out HB.out
  obtain ⟨⟨p0, p1⟩, y0, y1⟩ := HP.out wr HB.out
  have t0 := BW.cell' HS0.out
  rcases Nat.lt_or_ge j i with hji | hji
  ·have hjs : j < sl.length := by rw [Hsl.out]; omega
   have u0 := BW.cell' (HN.out j (by omega)).1
   have u1 := BW.cell' (HS.out j hjs)
   have hj1 : (j : Int) < (n : Int) := by omega
   have hj0 : (0 : Int) ≤ (j : Int) := by omega
   have hji' : (j : Int) < (i : Int) := by omega
   by_cases hk : KD j = 13
   ·have hne := Hno.out j hlj hji hk hjs
    rw [hk] at u0
    generalize sl[j] = z at *
    have bz : (z == v) = false := by simpa using hne
    clear BW hk hne
    go_wp2_with fail
    go_quiet (fail)
    go_wp2_with fail
    go_round
    case rel => exact ⟨j + 1, by go_num, by omega, by omega, Lib.hid (Bel.drewN HB.out _)⟩
    case measure => simp [intOf]; omega
   ·have bk : (KD j == 13) = false := by simpa using hk
    generalize KD j = kj at *
    clear BW hk u1
    go_wp2_with fail
    go_quiet (fail)
    go_wp2_with fail
    go_round
    case rel => exact ⟨j + 1, by go_num, by omega, by omega, Lib.hid (Bel.drewN HB.out _)⟩
    case measure => simp [intOf]; omega
  ·obtain rfl : j = i := by omega
   have HBW := Lib.hid BW
   clear BW
   go_wp2_with fail
   go_ret
   exact ⟨rfl, HBW.out⟩
set_option maxRecDepth 100000 in
set_option maxHeartbeats 8000000 in
theorem right_c (nb nf b off sb sf : Nat) (n nc k fc sc : Nat) (KD : Nat → Int) (ST : Nat → Txt) (sl : List Int) (q low i : Nat) (nn v : Int) (xs : Txt) (vi : Int) (ko jo po : Option Addr) (kn kc jn jc pk pc : Nat) (hn : n ≤ 200) (hi : i < n) (hq : q < k) (hli : low ≤ i) (w : World)
  (hN : ∀ j, j < n → w.cell? ⟨nb, nf + j * 5, none⟩ = some (.int .i64 (KD j)) ∧ w.cell? ⟨nb, nf + j * 5 + 1, none⟩ = some (.string ⟨(ST j).toArray⟩)) (hS : ∀ j (h : j < sl.length), w.cell? ⟨sb, sf + j, none⟩ = some (.int .i64 sl[j])) (hsl : sl.length = n)
  (g1 : w.cell? ⟨nb, nf + i * 5 + 1, none⟩ = some (.string ⟨xs.toArray⟩)) (g2 : w.cell? ⟨nb, nf + i * 5 + 2, none⟩ = some (.int .i64 vi)) (g3 : w.cell? ⟨nb, nf + i * 5 + 3, none⟩ = some (.slice ko kn kc)) (g4 : w.cell? ⟨nb, nf + i * 5 + 4, none⟩ = some (.slice jo jn jc))
  (hd1 : w.cell? ⟨b, off + q * 3 + 1, none⟩ = some (.slice po pk pc)) (s0 : w.cell? ⟨sb, sf + i, none⟩ = some (.int .i64 v)) (kd : Int) (hkd : kd = 5 ∨ kd = 14) (g0 : w.cell? ⟨nb, nf + i * 5, none⟩ = some (.int .i64 kd)) (h0 : 0 ≤ v) (h1 : v < nn) (pv : Nat) (hpv : v = (pv : Int)) (hpl : pv < pk) (hps : ∃ pb pf, po = some ⟨pb, pf, none⟩ ∧ w.cell? ⟨pb, pf + pv, none⟩ = some (.string ⟨xs.toArray⟩)) :
  Calls Tryz.prog 46 #[.agg #[.slice (some ⟨nb, nf, none⟩) n nc, .slice (some ⟨b, off, none⟩) k fc], .slice (some ⟨sb, sf, none⟩) n sc, .int .i64 (q : Int), .int .i64 (low : Int), .int .i64 (i : Int), .int .i64 nn] w fun e w' => e = .returned (.bool true) ∧ Bel w w' := by
 have hi1 : (i : Int) < (n : Int) := by omega
 have hi0 : (0 : Int) ≤ (i : Int) := by omega
 have hq1 : (q : Int) < (k : Int) := by omega
 have hq0 : (0 : Int) ≤ (q : Int) := by omega
 have h0' : ¬ v < 0 := by omega
 have h1' : ¬ nn ≤ v := by omega
 obtain ⟨pb, pf, rfl, hpc⟩ := hps
 subst hpv
 have hp1 : (pv : Int) < (pk : Int) := by omega
 have hp0 : (0 : Int) ≤ (pv : Int) := by omega
 clear hN hS
 rcases hkd with rfl | rfl
 ·have z1 : (w.alloc (.cells #[.slice (some ⟨nb, nf, none⟩) n nc, .slice (some ⟨b, off, none⟩) k fc] 25)).heap.size = w.heap.size + 1 := alloc_szs _ _
  have B1 : Bel w (w.alloc (.cells #[.slice (some ⟨nb, nf, none⟩) n nc, .slice (some ⟨b, off, none⟩) k fc] 25)) := Bel.alloc (Bel.refl w) _
  have B2 : Bel w ((w.alloc (.cells #[.slice (some ⟨nb, nf, none⟩) n nc, .slice (some ⟨b, off, none⟩) k fc] 25)).alloc (.cells #[.int .i64 5, .string ⟨xs.toArray⟩, .int .i64 vi, .slice ko kn kc, .slice jo jn jc] 60)) := Bel.alloc B1 _
  have a0 := B1.cell' g0
  have a1 := B1.cell' g1
  have a2 := B1.cell' g2
  have a3 := B1.cell' g3
  have a4 := B1.cell' g4
  have d1 := B2.cell' hd1
  obtain ⟨U, hU⟩ : ∃ U, ((w.alloc (.cells #[.slice (some ⟨nb, nf, none⟩) n nc, .slice (some ⟨b, off, none⟩) k fc] 25)).alloc (.cells #[.int .i64 5, .string ⟨xs.toArray⟩, .int .i64 vi, .slice ko kn kc, .slice jo jn jc] 60)) = U := ⟨_, rfl⟩
  have BU : Bel w U := by rw [← hU]; exact B2
  obtain ⟨p0, p1⟩ : U.cell? ⟨w.heap.size, 0, none⟩ = some (.slice (some ⟨nb, nf, none⟩) n nc) ∧ U.cell? ⟨w.heap.size, 1, none⟩ = some (.slice (some ⟨b, off, none⟩) k fc) := by
   rw [← hU]
   exact ⟨(Bel.alloc (Bel.refl (w.alloc (.cells #[.slice (some ⟨nb, nf, none⟩) n nc, .slice (some ⟨b, off, none⟩) k fc] 25))) _).cell' (World.cell?_alloc_new ..), (Bel.alloc (Bel.refl (w.alloc (.cells #[.slice (some ⟨nb, nf, none⟩) n nc, .slice (some ⟨b, off, none⟩) k fc] 25))) _).cell' (World.cell?_alloc_new ..)⟩
  obtain ⟨y0, y1, -, -, -⟩ := box5 (w.alloc (.cells #[.slice (some ⟨nb, nf, none⟩) n nc, .slice (some ⟨b, off, none⟩) k fc] 25)) (.int .i64 5) (.string ⟨xs.toArray⟩) (.int .i64 vi) (.slice ko kn kc) (.slice jo jn jc) 60
  rw [hU, z1] at y0 y1
  have HU := Lib.hid hU
  have HBU := Lib.hid BU
  have HP := Lib.hid (show ∀ W, Bel U W → (W.cell? ⟨w.heap.size, 0, none⟩ = some (.slice (some ⟨nb, nf, none⟩) n nc) ∧ W.cell? ⟨w.heap.size, 1, none⟩ = some (.slice (some ⟨b, off, none⟩) k fc)) ∧ W.cell? ⟨w.heap.size + 1, 0, none⟩ = some (.int .i64 5) ∧ W.cell? ⟨w.heap.size + 1, 1, none⟩ = some (.string ⟨xs.toArray⟩) from fun W g => ⟨⟨g.cell' p0, g.cell' p1⟩, g.cell' y0, g.cell' y1⟩)
  have e0 := B2.cell' s0
  have e1 := B2.cell' hpc
  clear p0 p1 y0 y1 B1 B2 BU hU z1
  go_enter Tryz.func46, Tryz.ntmps46
  go_wp2_with fail
  go_quiet (fail)
  go_wp2_with fail
  go_ret
  exact ⟨rfl, Bel.drewN (by rw [HU.out]; exact HBU.out) _⟩
 ·have z1 : (w.alloc (.cells #[.slice (some ⟨nb, nf, none⟩) n nc, .slice (some ⟨b, off, none⟩) k fc] 25)).heap.size = w.heap.size + 1 := alloc_szs _ _
  have B1 : Bel w (w.alloc (.cells #[.slice (some ⟨nb, nf, none⟩) n nc, .slice (some ⟨b, off, none⟩) k fc] 25)) := Bel.alloc (Bel.refl w) _
  have B2 : Bel w ((w.alloc (.cells #[.slice (some ⟨nb, nf, none⟩) n nc, .slice (some ⟨b, off, none⟩) k fc] 25)).alloc (.cells #[.int .i64 14, .string ⟨xs.toArray⟩, .int .i64 vi, .slice ko kn kc, .slice jo jn jc] 60)) := Bel.alloc B1 _
  have a0 := B1.cell' g0
  have a1 := B1.cell' g1
  have a2 := B1.cell' g2
  have a3 := B1.cell' g3
  have a4 := B1.cell' g4
  have d1 := B2.cell' hd1
  obtain ⟨U, hU⟩ : ∃ U, ((w.alloc (.cells #[.slice (some ⟨nb, nf, none⟩) n nc, .slice (some ⟨b, off, none⟩) k fc] 25)).alloc (.cells #[.int .i64 14, .string ⟨xs.toArray⟩, .int .i64 vi, .slice ko kn kc, .slice jo jn jc] 60)) = U := ⟨_, rfl⟩
  have BU : Bel w U := by rw [← hU]; exact B2
  obtain ⟨p0, p1⟩ : U.cell? ⟨w.heap.size, 0, none⟩ = some (.slice (some ⟨nb, nf, none⟩) n nc) ∧ U.cell? ⟨w.heap.size, 1, none⟩ = some (.slice (some ⟨b, off, none⟩) k fc) := by
   rw [← hU]
   exact ⟨(Bel.alloc (Bel.refl (w.alloc (.cells #[.slice (some ⟨nb, nf, none⟩) n nc, .slice (some ⟨b, off, none⟩) k fc] 25))) _).cell' (World.cell?_alloc_new ..), (Bel.alloc (Bel.refl (w.alloc (.cells #[.slice (some ⟨nb, nf, none⟩) n nc, .slice (some ⟨b, off, none⟩) k fc] 25))) _).cell' (World.cell?_alloc_new ..)⟩
  obtain ⟨y0, y1, -, -, -⟩ := box5 (w.alloc (.cells #[.slice (some ⟨nb, nf, none⟩) n nc, .slice (some ⟨b, off, none⟩) k fc] 25)) (.int .i64 14) (.string ⟨xs.toArray⟩) (.int .i64 vi) (.slice ko kn kc) (.slice jo jn jc) 60
  rw [hU, z1] at y0 y1
  have HU := Lib.hid hU
  have HBU := Lib.hid BU
  have HP := Lib.hid (show ∀ W, Bel U W → (W.cell? ⟨w.heap.size, 0, none⟩ = some (.slice (some ⟨nb, nf, none⟩) n nc) ∧ W.cell? ⟨w.heap.size, 1, none⟩ = some (.slice (some ⟨b, off, none⟩) k fc)) ∧ W.cell? ⟨w.heap.size + 1, 0, none⟩ = some (.int .i64 14) ∧ W.cell? ⟨w.heap.size + 1, 1, none⟩ = some (.string ⟨xs.toArray⟩) from fun W g => ⟨⟨g.cell' p0, g.cell' p1⟩, g.cell' y0, g.cell' y1⟩)
  have e0 := B2.cell' s0
  have e1 := B2.cell' hpc
  clear p0 p1 y0 y1 B1 B2 BU hU z1
  go_enter Tryz.func46, Tryz.ntmps46
  go_wp2_with fail
  go_quiet (fail)
  go_wp2_with fail
  go_ret
  exact ⟨rfl, Bel.drewN (by rw [HU.out]; exact HBU.out) _⟩
set_option maxRecDepth 100000 in
set_option maxHeartbeats 8000000 in
theorem right_d (nb nf b off sb sf : Nat) (n nc k fc sc : Nat) (KD : Nat → Int) (ST : Nat → Txt) (sl : List Int) (q low i : Nat) (nn v : Int) (xs : Txt) (vi : Int) (ko jo po : Option Addr) (kn kc jn jc pk pc : Nat) (hn : n ≤ 200) (hi : i < n) (hq : q < k) (hli : low ≤ i) (w : World)
  (hN : ∀ j, j < n → w.cell? ⟨nb, nf + j * 5, none⟩ = some (.int .i64 (KD j)) ∧ w.cell? ⟨nb, nf + j * 5 + 1, none⟩ = some (.string ⟨(ST j).toArray⟩)) (hS : ∀ j (h : j < sl.length), w.cell? ⟨sb, sf + j, none⟩ = some (.int .i64 sl[j])) (hsl : sl.length = n)
  (g1 : w.cell? ⟨nb, nf + i * 5 + 1, none⟩ = some (.string ⟨xs.toArray⟩)) (g2 : w.cell? ⟨nb, nf + i * 5 + 2, none⟩ = some (.int .i64 vi)) (g3 : w.cell? ⟨nb, nf + i * 5 + 3, none⟩ = some (.slice ko kn kc)) (g4 : w.cell? ⟨nb, nf + i * 5 + 4, none⟩ = some (.slice jo jn jc))
  (hd1 : w.cell? ⟨b, off + q * 3 + 1, none⟩ = some (.slice po pk pc)) (s0 : w.cell? ⟨sb, sf + i, none⟩ = some (.int .i64 v)) (kd : Int) (hkd : kd = 5 ∨ kd = 14) (g0 : w.cell? ⟨nb, nf + i * 5, none⟩ = some (.int .i64 kd)) (h0 : 0 ≤ v) (h1 : v < nn) (hpl : (pk : Int) ≤ v) (j0 : Nat) (hj1 : low ≤ j0) (hj2 : j0 < i) (hj3 : KD j0 = 13) (hj4 : ∀ h : j0 < sl.length, sl[j0] = v) (hj5 : ST j0 = xs) :
  Calls Tryz.prog 46 #[.agg #[.slice (some ⟨nb, nf, none⟩) n nc, .slice (some ⟨b, off, none⟩) k fc], .slice (some ⟨sb, sf, none⟩) n sc, .int .i64 (q : Int), .int .i64 (low : Int), .int .i64 (i : Int), .int .i64 nn] w fun e w' => e = .returned (.bool true) ∧ Bel w w' := by
 have hi1 : (i : Int) < (n : Int) := by omega
 have hi0 : (0 : Int) ≤ (i : Int) := by omega
 have hq1 : (q : Int) < (k : Int) := by omega
 have hq0 : (0 : Int) ≤ (q : Int) := by omega
 have h0' : ¬ v < 0 := by omega
 have h1' : ¬ nn ≤ v := by omega
 have h2' : ¬ v < (pk : Int) := by omega
 have HS0 := Lib.hid s0
 have HN := Lib.hid hN
 have HS := Lib.hid hS
 have Hsl := Lib.hid hsl
 have H3 := Lib.hid hj3
 have H4 := Lib.hid hj4
 have H5 := Lib.hid hj5
 clear hN hS hsl hj3 hj4 hj5
 rcases hkd with rfl | rfl
 ·have z1 : (w.alloc (.cells #[.slice (some ⟨nb, nf, none⟩) n nc, .slice (some ⟨b, off, none⟩) k fc] 25)).heap.size = w.heap.size + 1 := alloc_szs _ _
  have B1 : Bel w (w.alloc (.cells #[.slice (some ⟨nb, nf, none⟩) n nc, .slice (some ⟨b, off, none⟩) k fc] 25)) := Bel.alloc (Bel.refl w) _
  have B2 : Bel w ((w.alloc (.cells #[.slice (some ⟨nb, nf, none⟩) n nc, .slice (some ⟨b, off, none⟩) k fc] 25)).alloc (.cells #[.int .i64 5, .string ⟨xs.toArray⟩, .int .i64 vi, .slice ko kn kc, .slice jo jn jc] 60)) := Bel.alloc B1 _
  have a0 := B1.cell' g0
  have a1 := B1.cell' g1
  have a2 := B1.cell' g2
  have a3 := B1.cell' g3
  have a4 := B1.cell' g4
  have d1 := B2.cell' hd1
  obtain ⟨U, hU⟩ : ∃ U, ((w.alloc (.cells #[.slice (some ⟨nb, nf, none⟩) n nc, .slice (some ⟨b, off, none⟩) k fc] 25)).alloc (.cells #[.int .i64 5, .string ⟨xs.toArray⟩, .int .i64 vi, .slice ko kn kc, .slice jo jn jc] 60)) = U := ⟨_, rfl⟩
  have BU : Bel w U := by rw [← hU]; exact B2
  obtain ⟨p0, p1⟩ : U.cell? ⟨w.heap.size, 0, none⟩ = some (.slice (some ⟨nb, nf, none⟩) n nc) ∧ U.cell? ⟨w.heap.size, 1, none⟩ = some (.slice (some ⟨b, off, none⟩) k fc) := by
   rw [← hU]
   exact ⟨(Bel.alloc (Bel.refl (w.alloc (.cells #[.slice (some ⟨nb, nf, none⟩) n nc, .slice (some ⟨b, off, none⟩) k fc] 25))) _).cell' (World.cell?_alloc_new ..), (Bel.alloc (Bel.refl (w.alloc (.cells #[.slice (some ⟨nb, nf, none⟩) n nc, .slice (some ⟨b, off, none⟩) k fc] 25))) _).cell' (World.cell?_alloc_new ..)⟩
  obtain ⟨y0, y1, -, -, -⟩ := box5 (w.alloc (.cells #[.slice (some ⟨nb, nf, none⟩) n nc, .slice (some ⟨b, off, none⟩) k fc] 25)) (.int .i64 5) (.string ⟨xs.toArray⟩) (.int .i64 vi) (.slice ko kn kc) (.slice jo jn jc) 60
  rw [hU, z1] at y0 y1
  have HU := Lib.hid hU
  have HBU := Lib.hid BU
  have HP := Lib.hid (show ∀ W, Bel U W → (W.cell? ⟨w.heap.size, 0, none⟩ = some (.slice (some ⟨nb, nf, none⟩) n nc) ∧ W.cell? ⟨w.heap.size, 1, none⟩ = some (.slice (some ⟨b, off, none⟩) k fc)) ∧ W.cell? ⟨w.heap.size + 1, 0, none⟩ = some (.int .i64 5) ∧ W.cell? ⟨w.heap.size + 1, 1, none⟩ = some (.string ⟨xs.toArray⟩) from fun W g => ⟨⟨g.cell' p0, g.cell' p1⟩, g.cell' y0, g.cell' y1⟩)
  have e0 := B2.cell' s0
  clear p0 p1 y0 y1 B1 B2 BU hU z1
  go_enter Tryz.func46, Tryz.ntmps46
  go_wp2_with fail
  go_loopw [16] (fun jv wr => ∃ j : Nat, jv = .int .i64 (j : Int) ∧ low ≤ j ∧ j ≤ j0 ∧ Hid (Bel U wr)) (fun jv _ => i - (intOf jv).toNat)
  case atStart => exact ⟨low, rfl, Nat.le_refl _, hj1, Lib.hid (by rw [HU.out]; exact Bel.refl _)⟩
  case round =>
   obtain ⟨j, rfl, hlj, hj, HB⟩ := hrel
   rename World => wr
   have BW := Bel.trans HBU.out HB.out
   obtain ⟨⟨p0, p1⟩, y0, y1⟩ := HP.out wr HB.out
   have t0 := BW.cell' HS0.out
   have hjs : j < sl.length := by rw [Hsl.out]; omega
   obtain ⟨u0, u2⟩ := HN.out j (by omega)
   have u0 := BW.cell' u0
   have u2 := BW.cell' u2
   have u1 := BW.cell' (HS.out j hjs)
   have hjn1 : (j : Int) < (n : Int) := by omega
   have hjn0 : (0 : Int) ≤ (j : Int) := by omega
   have hji' : (j : Int) < (i : Int) := by omega
   have HBW := Lib.hid BW
   by_cases hk : KD j = 13
   ·rw [hk] at u0
    by_cases hz : sl[j] = v
    ·rw [hz] at u1
     by_cases hx : ST j = xs
     ·rw [hx] at u2
      clear BW hk hz hx
      go_wp2_with fail
      go_quiet (fail)
      go_wp2_with fail
      go_ret
      exact ⟨rfl, Bel.drewN HBW.out _⟩
     ·have hjj : j ≠ j0 := fun h => hx (by rw [h]; exact H5.out)
      have bs : (ST j == xs) = false := by simpa using hx
      generalize ST j = sj at *
      clear BW hk hz hx
      go_wp2_with fail
      go_quiet (fail)
      go_wp2_with fail
      go_round
      case rel => exact ⟨j + 1, by go_num, by omega, by omega, Lib.hid (Bel.drewN HB.out _)⟩
      case measure => simp [intOf]; omega
    ·have hjj : j ≠ j0 := fun h => hz (by subst h; exact H4.out hjs)
     have bz : (sl[j] == v) = false := by simpa using hz
     generalize sl[j] = z at *
     clear BW hk hz u2
     go_wp2_with fail
     go_quiet (fail)
     go_wp2_with fail
     go_round
     case rel => exact ⟨j + 1, by go_num, by omega, by omega, Lib.hid (Bel.drewN HB.out _)⟩
     case measure => simp [intOf]; omega
   ·have hjj : j ≠ j0 := fun h => hk (by rw [h]; exact H3.out)
    have bk : (KD j == 13) = false := by simpa using hk
    generalize KD j = kj at *
    clear BW hk u1 u2
    go_wp2_with fail
    go_quiet (fail)
    go_wp2_with fail
    go_round
    case rel => exact ⟨j + 1, by go_num, by omega, by omega, Lib.hid (Bel.drewN HB.out _)⟩
    case measure => simp [intOf]; omega
 ·have z1 : (w.alloc (.cells #[.slice (some ⟨nb, nf, none⟩) n nc, .slice (some ⟨b, off, none⟩) k fc] 25)).heap.size = w.heap.size + 1 := alloc_szs _ _
  have B1 : Bel w (w.alloc (.cells #[.slice (some ⟨nb, nf, none⟩) n nc, .slice (some ⟨b, off, none⟩) k fc] 25)) := Bel.alloc (Bel.refl w) _
  have B2 : Bel w ((w.alloc (.cells #[.slice (some ⟨nb, nf, none⟩) n nc, .slice (some ⟨b, off, none⟩) k fc] 25)).alloc (.cells #[.int .i64 14, .string ⟨xs.toArray⟩, .int .i64 vi, .slice ko kn kc, .slice jo jn jc] 60)) := Bel.alloc B1 _
  have a0 := B1.cell' g0
  have a1 := B1.cell' g1
  have a2 := B1.cell' g2
  have a3 := B1.cell' g3
  have a4 := B1.cell' g4
  have d1 := B2.cell' hd1
  obtain ⟨U, hU⟩ : ∃ U, ((w.alloc (.cells #[.slice (some ⟨nb, nf, none⟩) n nc, .slice (some ⟨b, off, none⟩) k fc] 25)).alloc (.cells #[.int .i64 14, .string ⟨xs.toArray⟩, .int .i64 vi, .slice ko kn kc, .slice jo jn jc] 60)) = U := ⟨_, rfl⟩
  have BU : Bel w U := by rw [← hU]; exact B2
  obtain ⟨p0, p1⟩ : U.cell? ⟨w.heap.size, 0, none⟩ = some (.slice (some ⟨nb, nf, none⟩) n nc) ∧ U.cell? ⟨w.heap.size, 1, none⟩ = some (.slice (some ⟨b, off, none⟩) k fc) := by
   rw [← hU]
   exact ⟨(Bel.alloc (Bel.refl (w.alloc (.cells #[.slice (some ⟨nb, nf, none⟩) n nc, .slice (some ⟨b, off, none⟩) k fc] 25))) _).cell' (World.cell?_alloc_new ..), (Bel.alloc (Bel.refl (w.alloc (.cells #[.slice (some ⟨nb, nf, none⟩) n nc, .slice (some ⟨b, off, none⟩) k fc] 25))) _).cell' (World.cell?_alloc_new ..)⟩
  obtain ⟨y0, y1, -, -, -⟩ := box5 (w.alloc (.cells #[.slice (some ⟨nb, nf, none⟩) n nc, .slice (some ⟨b, off, none⟩) k fc] 25)) (.int .i64 14) (.string ⟨xs.toArray⟩) (.int .i64 vi) (.slice ko kn kc) (.slice jo jn jc) 60
  rw [hU, z1] at y0 y1
  have HU := Lib.hid hU
  have HBU := Lib.hid BU
  have HP := Lib.hid (show ∀ W, Bel U W → (W.cell? ⟨w.heap.size, 0, none⟩ = some (.slice (some ⟨nb, nf, none⟩) n nc) ∧ W.cell? ⟨w.heap.size, 1, none⟩ = some (.slice (some ⟨b, off, none⟩) k fc)) ∧ W.cell? ⟨w.heap.size + 1, 0, none⟩ = some (.int .i64 14) ∧ W.cell? ⟨w.heap.size + 1, 1, none⟩ = some (.string ⟨xs.toArray⟩) from fun W g => ⟨⟨g.cell' p0, g.cell' p1⟩, g.cell' y0, g.cell' y1⟩)
  have e0 := B2.cell' s0
  clear p0 p1 y0 y1 B1 B2 BU hU z1
  go_enter Tryz.func46, Tryz.ntmps46
  go_wp2_with fail
  go_loopw [16] (fun jv wr => ∃ j : Nat, jv = .int .i64 (j : Int) ∧ low ≤ j ∧ j ≤ j0 ∧ Hid (Bel U wr)) (fun jv _ => i - (intOf jv).toNat)
  case atStart => exact ⟨low, rfl, Nat.le_refl _, hj1, Lib.hid (by rw [HU.out]; exact Bel.refl _)⟩
  case round =>
   obtain ⟨j, rfl, hlj, hj, HB⟩ := hrel
   rename World => wr
   have BW := Bel.trans HBU.out HB.out
   obtain ⟨⟨p0, p1⟩, y0, y1⟩ := HP.out wr HB.out
   have t0 := BW.cell' HS0.out
   have hjs : j < sl.length := by rw [Hsl.out]; omega
   obtain ⟨u0, u2⟩ := HN.out j (by omega)
   have u0 := BW.cell' u0
   have u2 := BW.cell' u2
   have u1 := BW.cell' (HS.out j hjs)
   have hjn1 : (j : Int) < (n : Int) := by omega
   have hjn0 : (0 : Int) ≤ (j : Int) := by omega
   have hji' : (j : Int) < (i : Int) := by omega
   have HBW := Lib.hid BW
   by_cases hk : KD j = 13
   ·rw [hk] at u0
    by_cases hz : sl[j] = v
    ·rw [hz] at u1
     by_cases hx : ST j = xs
     ·rw [hx] at u2
      clear BW hk hz hx
      go_wp2_with fail
      go_quiet (fail)
      go_wp2_with fail
      go_ret
      exact ⟨rfl, Bel.drewN HBW.out _⟩
     ·have hjj : j ≠ j0 := fun h => hx (by rw [h]; exact H5.out)
      have bs : (ST j == xs) = false := by simpa using hx
      generalize ST j = sj at *
      clear BW hk hz hx
      go_wp2_with fail
      go_quiet (fail)
      go_wp2_with fail
      go_round
      case rel => exact ⟨j + 1, by go_num, by omega, by omega, Lib.hid (Bel.drewN HB.out _)⟩
      case measure => simp [intOf]; omega
    ·have hjj : j ≠ j0 := fun h => hz (by subst h; exact H4.out hjs)
     have bz : (sl[j] == v) = false := by simpa using hz
     generalize sl[j] = z at *
     clear BW hk hz u2
     go_wp2_with fail
     go_quiet (fail)
     go_wp2_with fail
     go_round
     case rel => exact ⟨j + 1, by go_num, by omega, by omega, Lib.hid (Bel.drewN HB.out _)⟩
     case measure => simp [intOf]; omega
   ·have hjj : j ≠ j0 := fun h => hk (by rw [h]; exact H3.out)
    have bk : (KD j == 13) = false := by simpa using hk
    generalize KD j = kj at *
    clear BW hk u1 u2
    go_wp2_with fail
    go_quiet (fail)
    go_wp2_with fail
    go_round
    case rel => exact ⟨j + 1, by go_num, by omega, by omega, Lib.hid (Bel.drewN HB.out _)⟩
    case measure => simp [intOf]; omega
end Syn
end Go.Proofs.YtmifookckpelaaaGreatDoor

/-
 Layer 9: where an error stands; right at a place that is right; Valid.
-/
namespace Go.Proofs.YtmifookckpelaaaGreatDoor
open Go.RowKit Go.ChangeShapes Go.WideShapes Go.Maps
namespace Syn
theorem runN_pos {L : List Nd} {W : Nd → Int} : ∀ (r : List Nd) (i : Nat) (s : Sc) (sl : List Int) (q : Int × Int), runN L W r i s sl = .inr q → (i : Int) ≤ q.1 ∧ q.1 < (i : Int) + r.length
 | [], _, _, _, _, h => by cases h
 | x :: r, i, s, sl, q, h => by
  rw [runN] at h
  split at h
  ·have := runN_pos r (i + 1) _ _ q h
   rw [List.length_cons]
   omega
  ·cases h
   rw [List.length_cons]
   simp only
   omega
theorem runF_pos {n : Nat} {L : List Nd} {W : Nd → Int} : ∀ (F : List Fw) (low : Nat) (sl lo : List Int), Asc n low F → (runF L W F low sl lo).er ≠ 0 → 0 ≤ (runF L W F low sl lo).pos ∧ (runF L W F low sl lo).pos < (n : Int)
 | [], _, _, _, _, h => absurd rfl h
 | f :: F, low, sl, lo, hA, h => by
  obtain ⟨a1, a2, a3⟩ := hA
  rw [runF] at h ⊢
  cases hq : runN L W ((L.drop low).take (f.body.toNat + 1 - low)) low (sc0 f.params) sl with
  | inl q =>
   rw [hq] at h
   exact runF_pos F _ _ _ a3 h
  | inr q =>
   simp only
   have := runN_pos _ _ _ _ q hq
   rw [List.length_take] at this
   omega
theorem dup_mem {F0 : List Fw} : ∀ (F : List Fw) (i : Nat) (b : Int), dupF F0 i F = some b → ∃ f ∈ F, f.body = b
 | [], _, _, h => by cases h
 | f :: F, i, b, h => by
  rw [dupF] at h
  split at h
  ·cases h
   exact ⟨f, List.mem_cons_self .., rfl⟩
  ·obtain ⟨g, h1, h2⟩ := dup_mem F (i + 1) b h
   exact ⟨g, List.mem_cons_of_mem _ h1, h2⟩
theorem body_in {n : Nat} {F : List Fw} (h : Asc n 0 F) {f : Fw} (hf : f ∈ F) : 0 ≤ f.body ∧ f.body < (n : Int) := by
 obtain ⟨q, hq, rfl⟩ := List.mem_iff_getElem.1 hf
 have := lowOf_ok h q hq
 exact ⟨by omega, this.2⟩
/-- Where an error of a program that is in order stands. -/
theorem res_pos {L : List Nd} {F : List Fw} (hc : chkE L F = 0) (he : (resG L F).er ≠ 0) : -1 ≤ (resG L F).pos ∧ (resG L F).pos < (L.length : Int) := by
 have hA := asc_chk hc
 unfold resG at he ⊢
 rw [if_neg (by simpa using hc)] at he ⊢
 cases hd : dupF F 0 F with
 | some b =>
  simp only
  obtain ⟨f, hf, rfl⟩ := dup_mem F 0 b hd
  have := body_in hA hf
  omega
 | none =>
  rw [hd] at he
  simp only at he ⊢
  cases hm : mainE F with
  | some q =>
   simp only
   unfold mainE at hm
   split at hm
   ·cases hm
    simp only
    omega
   ·split at hm
    ·rename_i f hf
     split at hm
     ·cases hm
     ·cases hm
      have := body_in hA (List.mem_of_getElem? hf)
      simp only
      omega
    ·cases hm
  | none =>
   rw [hm] at he
   simp only at he ⊢
   have := runF_pos F 0 [] [] hA he
   omega
def lw (low : Nat) (F : List Fw) : Nat → Nat
 | 0 => low
 | p + 1 => match F[p]? with | some x => x.body.toNat + 1 | none => 0
theorem lw_zero (F : List Fw) (q : Nat) : lw 0 F q = lowOf F q := by cases q <;> rfl
theorem allRt_at {L : List Nd} {sl : List Int} : ∀ (F : List Fw) (low : Nat) (lo : List Int), AllRight L sl low F lo → ∀ (q : Nat) (f : Fw), F[q]? = some f →
  ∃ v, lo[q]? = some v ∧ (f.params.length : Int) ≤ v ∧ ∀ i, lw low F q ≤ i → i ≤ f.body.toNat → RightAt L f.params sl (lw low F q) i v
 | [], _, _, _, q, f, h => by simp at h
 | f :: F, low, [], h, _, _, _ => h.elim
 | f :: F, low, n :: lo, h, q, g, hq => by
  rw [AllRight] at h
  cases q with
  | zero =>
   simp only [List.getElem?_cons_zero, Option.some.injEq] at hq
   subst hq
   exact ⟨n, rfl, h.1, h.2.1⟩
  | succ q =>
   rw [List.getElem?_cons_succ] at hq ⊢
   obtain ⟨v, h1, h2, h3⟩ := allRt_at F _ lo h.2.2 q g hq
   have e : lw low (f :: F) (q + 1) = lw (f.body.toNat + 1) F q := by
    cases q with
    | zero => rfl
    | succ q => rfl
   rw [e]
   exact ⟨v, h1, h2, h3⟩
def kindN (L : List Nd) (j : Nat) : Int := match L[j]? with | some x => x.k | none => 0
def textN (L : List Nd) (j : Nat) : Txt := match L[j]? with | some x => x.s | none => []
theorem kindN_at {L : List Nd} {j : Nat} {x : Nd} (h : L[j]? = some x) : kindN L j = x.k := by unfold kindN; rw [h]
theorem textN_at {L : List Nd} {j : Nat} {x : Nd} (h : L[j]? = some x) : textN L j = x.s := by unfold textN; rw [h]
theorem right_yes (no fo so : Option Addr) (n nc k fc sc : Nat) (L : List Nd) (F : List Fw) (sl : List Int) (q low i : Nat) (nn : Int) (f : Fw) (hn : n ≤ 200) (hli : low ≤ i) (w : World) (hA : NArg w no n L) (hF : FArg w fo k F) (hS : RArg w so n sl) (hf : F[q]? = some f) (hr : RightAt L f.params sl low i nn) :
  Calls Tryz.prog 46 #[.agg #[.slice no n nc, .slice fo k fc], .slice so n sc, .int .i64 (q : Int), .int .i64 (low : Int), .int .i64 (i : Int), .int .i64 nn] w fun e w' => e = .returned (.bool true) ∧ Bel w w' := by
 obtain ⟨x, v, hx, hv, r1, r2, r3, r4⟩ := hr
 obtain ⟨hil, hxe⟩ := List.getElem?_eq_some_iff.1 hx
 obtain ⟨his, hve⟩ := List.getElem?_eq_some_iff.1 hv
 obtain ⟨hqf, hfe⟩ := List.getElem?_eq_some_iff.1 hf
 have hLn := hA.1
 have hFk := hF.1
 have hSn := hS.1
 obtain ⟨nb, nf, rfl, hcs⟩ := hA.2 (by omega)
 obtain ⟨b, off, rfl, hcf⟩ := hF.2 (by omega)
 obtain ⟨sb, sf, rfl, hsc⟩ := hS.2 (by omega)
 obtain ⟨nv, hnv, hnc⟩ := hcs i hil
 rw [hxe] at hnv
 have hvk := hnv.k
 have hvs := hnv.s
 obtain ⟨vk, vs, vi, ko, kn, kc, jo, jn, jc⟩ := nv
 dsimp only at hvk hvs
 subst hvk hvs
 obtain ⟨⟨fs, po, pk, pc, fj⟩, hfv, hfc⟩ := hcf q hqf
 rw [hfe] at hfv
 have hKA := hfv.ps
 dsimp only at hKA
 obtain ⟨hpk, hpat⟩ := karg_at hKA
 have hd1 : w.cell? ⟨b, off + q * 3 + 1, none⟩ = some (.slice po pk pc) := by simpa using hfc 1 _ rfl
 have hN : ∀ j, j < n → w.cell? ⟨nb, nf + j * 5, none⟩ = some (.int .i64 (kindN L j)) ∧ w.cell? ⟨nb, nf + j * 5 + 1, none⟩ = some (.string ⟨(textN L j).toArray⟩) := fun j h => by
  have hjl : j < L.length := by omega
  obtain ⟨u, hu, hc⟩ := hcs j hjl
  rw [kindN_at (List.getElem?_eq_getElem hjl), textN_at (List.getElem?_eq_getElem hjl)]
  exact ⟨by have := hc 0 _ rfl; rw [hu.k] at this; simpa using this, by have := hc 1 _ rfl; rw [hu.s] at this; simpa using this⟩
 have g0 : w.cell? ⟨nb, nf + i * 5, none⟩ = some (.int .i64 x.k) := by simpa using hnc 0 _ rfl
 have g1 : w.cell? ⟨nb, nf + i * 5 + 1, none⟩ = some (.string ⟨x.s.toArray⟩) := by simpa using hnc 1 _ rfl
 have g2 : w.cell? ⟨nb, nf + i * 5 + 2, none⟩ = some (.int .i64 vi) := by simpa using hnc 2 _ rfl
 have g3 : w.cell? ⟨nb, nf + i * 5 + 3, none⟩ = some (.slice ko kn kc) := by simpa using hnc 3 _ rfl
 have g4 : w.cell? ⟨nb, nf + i * 5 + 4, none⟩ = some (.slice jo jn jc) := by simpa using hnc 4 _ rfl
 have s0 : w.cell? ⟨sb, sf + i, none⟩ = some (.int .i64 v) := by have := hsc i his; rwa [hve] at this
 by_cases h5 : x.k = 5 ∨ x.k = 14
 ·obtain ⟨q1, q2⟩ := r2 (h5.elim Or.inl (fun h => Or.inr (Or.inr h)))
  obtain ⟨q3, q4⟩ := r4 h5
  by_cases hp : v < (f.params.length : Int)
  ·obtain ⟨pv, rfl⟩ : ∃ pv : Nat, v = (pv : Int) := ⟨v.toNat, by omega⟩
   have q5 := q3 hp
   rw [Int.toNat_natCast] at q5
   obtain ⟨hpl, hpe⟩ := List.getElem?_eq_some_iff.1 q5
   obtain ⟨pb, pf, rfl, hc⟩ := hpat (by omega)
   have hc2 := hc pv hpl
   rw [hpe] at hc2
   exact right_c nb nf b off sb sf n nc k fc sc (kindN L) (textN L) sl q low i nn pv x.s vi ko jo _ kn kc jn jc pk pc hn (by omega) (by omega) hli w hN hsc hSn g1 g2 g3 g4 hd1 s0 x.k h5 g0 q1 q2 pv rfl (by omega) ⟨pb, pf, rfl, hc2⟩
  ·obtain ⟨j0, y, m1, m2, m3, m4, m5, m6⟩ := q4 (by omega)
   exact right_d nb nf b off sb sf n nc k fc sc (kindN L) (textN L) sl q low i nn v x.s vi ko jo po kn kc jn jc pk pc hn (by omega) (by omega) hli w hN hsc hSn g1 g2 g3 g4 hd1 s0 x.k h5 g0 q1 q2 (by omega) j0 m1 m2 (by rw [kindN_at m3]; exact m4) (fun h => (List.getElem?_eq_some_iff.1 m5).2) (by rw [textN_at m3]; exact m6)
 ·by_cases h13 : x.k = 13
  ·obtain ⟨q1, q2⟩ := r2 (Or.inr (Or.inl h13))
   obtain ⟨q3, q4⟩ := r3 h13
   rw [h13] at g0
   exact right_b nb nf b off sb sf n nc k fc sc (kindN L) (textN L) sl q low i nn v x.s vi ko jo po kn kc jn jc pk pc hn (by omega) (by omega) hli w hN hsc hSn g1 g2 g3 g4 hd1 s0 g0 q1 q2 (by omega) (fun j a1 a2 a3 h e => by
    have hjl : j < L.length := by omega
    rw [kindN_at (List.getElem?_eq_getElem hjl)] at a3
    exact q4 j a1 a2 ⟨_, List.getElem?_eq_getElem hjl, a3⟩ (by rw [List.getElem?_eq_getElem h, e]))
  ·exact right_a nb nf b off sb sf n nc k fc sc (kindN L) (textN L) sl q low i nn v x.s vi ko jo po kn kc jn jc pk pc hn (by omega) (by omega) hli w hN hsc hSn g1 g2 g3 g4 hd1 s0 x.k g0 (fun h => h5 (Or.inl h)) h13 (fun h => h5 (Or.inr h)) (r1 (fun h => h5 (Or.inl h)) h13 (fun h => h5 (Or.inr h)))
set_option maxRecDepth 100000 in
set_option maxHeartbeats 4000000 in
theorem rvalid_any (no fo : Option Addr) (n nc k fc : Nat) (L : List Nd) (F : List Fw) (hn : n ≤ 4611686018427387904) (hk : k ≤ 4611686018427387904) (w : World) (hA : NArg w no n L) (hF : FArg w fo k F) (hwf : WfN L) (hwF : ∀ x ∈ F, x.params.length ≤ 4611686018427387904 ∧ -9223372036854775808 ≤ x.body ∧ x.body ≤ 9223372036854775807)
  (hsN : ∀ x ∈ L, Short x.s ∧ ∀ t ∈ x.keys, Short t) (hsF : ∀ f ∈ F, Short f.name ∧ ∀ p ∈ f.params, Short p) :
  Calls Tryz.prog 45 #[.agg #[.slice no n nc, .slice fo k fc]] w fun e w' => e = .returned (.int .i64 (chkE L F)) ∧ Bel w w' := by
 obtain ⟨V, hV⟩ : ∃ V, w.alloc (.cells #[.slice no n nc, .slice fo k fc] 25) = V := ⟨_, rfl⟩
 have BV : Bel w V := by rw [← hV]; exact Bel.alloc (Bel.refl _) _
 have HBV := Lib.hid BV
 have HVe := Lib.hid hV
 have hC := rcheck_any no fo n nc k fc L F hn hk V (hA.on BV) (hF.on BV) hwf hwF hsN hsF
 rw [chkG_eq] at hC
 have HC := Lib.hid hC
 generalize chkE L F = ce at *
 clear hA hF hwf hwF hsN hsF hC BV hV
 go_enter Tryz.func45, Tryz.ntmps45
 go_wp2_with fail
 rw [HVe.out]
 refine HC.out.mono ?_
 rintro e w2 ⟨rfl, g⟩
 go_wp2_with fail
 go_ret
 exact ⟨rfl, Bel.trans HBV.out g⟩
end Syn
end Go.Proofs.YtmifookckpelaaaGreatDoor

/-
 Layer 9: the law FindsSlots.
-/
namespace Go.Proofs.YtmifookckpelaaaGreatDoor
open Go.RowKit Go.ChangeShapes Go.WideShapes Go.Maps
namespace Syn
theorem fit_small {L : List Nd} {F : List Fw} {n k : Nat} (hs : SmallP L F) (hr : Rch L F) (hn : L.length = n) (hk : F.length = k) : Fit9 n k L F :=
 ⟨by have := hs.hn; omega, by have := hs.hk; omega, hr.wf, fun x hx => ⟨(hr.sn x hx).1, by have := (hs.nd x hx).1; omega⟩, fun f hf => ⟨by have := hs.fn f hf; omega, (hr.sf f hf).2⟩⟩
set_option maxRecDepth 100000 in
set_option maxHeartbeats 8000000 in
theorem law_finds9 (no fo : Option Addr) (n nc k fc : Nat) (L : List Nd) (F : List Fw) (hn : n ≤ 4611686018427387904) (hk : k ≤ 4611686018427387904) (w : World) (hm : Lex.ML w) (hA : NArg w no n L) (hF : FArg w fo k F) (hr : Rch L F) :
  Calls Tryz.prog 10 #[.agg #[.slice no n nc, .slice fo k fc]] w fun e w' => e = .returned (.bool true) ∧ Bel w w' := by
 obtain ⟨V, hV⟩ : ∃ V, w.alloc (.cells #[.slice no n nc, .slice fo k fc] 25) = V := ⟨_, rfl⟩
 have BV : Bel w V := by rw [← hV]; exact Bel.alloc (Bel.refl _) _
 obtain ⟨v0, v1⟩ : V.cell? ⟨w.heap.size, 0, none⟩ = some (.slice no n nc) ∧ V.cell? ⟨w.heap.size, 1, none⟩ = some (.slice fo k fc) := by
  rw [← hV]
  exact ⟨World.cell?_alloc_new .., World.cell?_alloc_new ..⟩
 have hLn := hA.1
 have hFk := hF.1
 have HBV := Lib.hid BV
 have HVe := Lib.hid hV
 have HP := Lib.hid (show ∀ W, Bel V W → W.cell? ⟨w.heap.size, 0, none⟩ = some (.slice no n nc) ∧ W.cell? ⟨w.heap.size, 1, none⟩ = some (.slice fo k fc) from fun W g => ⟨g.cell' v0, g.cell' v1⟩)
 have HW := Lib.hid (fun W (g : Bel V W) => awake9_any W ((hm.on BV).on g))
 have HS := Lib.hid (small_any no fo n nc k fc L F hn hk V (hA.on BV) (hF.on BV) hr.wf (fun x hx => (hr.fn x hx).1))
 have HR := Lib.hid (fun W (g : Bel V W) => rvalid_any no fo n nc k fc L F hn hk W ((hA.on BV).on g) ((hF.on BV).on g) hr.wf hr.fn hr.sn hr.sf)
 have HC := Lib.hid (fun (hs : SmallP L F) W (g : Bel V W) => scheck_any no fo n nc k fc L F (fit_small hs hr hLn hFk) W ((hm.on BV).on g) ((hA.on BV).on g) ((hF.on BV).on g))
 have HO := Lib.hid (fun (hs : SmallP L F) W (g : Bel V W) => slots_any no fo n nc k fc L F (fit_small hs hr hLn hFk) W ((hm.on BV).on g) ((hA.on BV).on g) ((hF.on BV).on g))
 have HL := Lib.hid (fun (hs : SmallP L F) (f : Int) W (g : Bel V W) => locals_any no fo n nc k fc L F (fit_small hs hr hLn hFk) f W ((hm.on BV).on g) ((hA.on BV).on g) ((hF.on BV).on g))
 have HY := Lib.hid (fun (hs : SmallP L F) (so : Option Addr) (sc : Nat) (sl : List Int) (q low i : Nat) (nn : Int) (f : Fw) (hli : low ≤ i) W (g : Bel V W) (hS : RArg W so n sl) (hf : F[q]? = some f) (hq : RightAt L f.params sl low i nn) => right_yes no fo so n nc k fc sc L F sl q low i nn f (by have := hs.hn; omega) hli W ((hA.on BV).on g) ((hF.on BV).on g) hS hf hq)
 have HF := Lib.hid (show ∀ q f, F[q]? = some f → ∃ b off po pk pc, fo = some ⟨b, off, none⟩ ∧ f.params.length = pk ∧ ∀ W, Bel V W → W.cell? ⟨b, off + q * 3 + 1, none⟩ = some (.slice po pk pc) ∧ W.cell? ⟨b, off + q * 3 + 2, none⟩ = some (.int .i64 f.body) from fun q f hf => by
  obtain ⟨hqf, hfe⟩ := List.getElem?_eq_some_iff.1 hf
  obtain ⟨b, off, rfl, hcf⟩ := hF.2 (by omega)
  obtain ⟨⟨fs, po, pk, pc, fj⟩, hfv, hfc⟩ := hcf q hqf
  rw [hfe] at hfv
  have hKA := hfv.ps
  dsimp only at hKA
  exact ⟨b, off, po, pk, pc, rfl, (karg_at hKA).1, fun W g => ⟨(Bel.trans BV g).cell' (by simpa using hfc 1 _ rfl), (Bel.trans BV g).cell' (by have := hfc 2 _ rfl; rw [hfv.j] at this; simpa using this)⟩⟩)
 have HLn := Lib.hid hLn
 have HFk := Lib.hid hFk
 clear hA hF hr hm BV hV v0 v1 hLn hFk
 go_enter Tryz.func10, Tryz.ntmps10
 go_wp2_with fail
 rw [HVe.out]
 refine HS.out.mono ?_
 rintro e w1 ⟨bs, rfl, hsm, g⟩
 have G1 := Lib.hid g
 obtain ⟨x0, x1⟩ := HP.out w1 g
 clear g
 cases bs with
 | false =>
  go_wp2_with fail
  refine (HW.out _ G1.out).mono ?_
  rintro e w2 ⟨rfl, g⟩
  go_wp2_with fail
  go_ret
  exact ⟨rfl, Bel.trans HBV.out (Bel.trans G1.out g)⟩
 | true =>
 have hs := Lib.hid (hsm rfl)
 clear hsm
 go_wp2_with fail
 refine (HR.out _ G1.out).mono ?_
 rintro e w2 ⟨rfl, g⟩
 have G2 := Lib.hid (Bel.trans G1.out g)
 clear g x0 x1
 obtain ⟨x0, x1⟩ := HP.out w2 G2.out
 by_cases hc : chkE L F = 0
 rotate_left
 ·generalize chkE L F = ce at *
  have h1 : (ce == 0) = false := by simpa using hc
  have h2 : (ce != 0) = true := by simpa using hc
  go_wp2_with fail
  refine (HW.out _ G2.out).mono ?_
  rintro e w3 ⟨rfl, g⟩
  go_wp2_with fail
  go_ret
  exact ⟨rfl, Bel.trans HBV.out (Bel.trans G2.out g)⟩
 have Hpos := Lib.hid (fun he => res_pos hc he)
 have Hok := Lib.hid (fun he => res_ok (L := L) (F := F) he)
 have Hasc := Lib.hid (asc_chk hc)
 rw [hc]
 clear hc
 generalize resG L F = R at *
 obtain ⟨sl, lo, pos, er⟩ := R
 dsimp only at HC HO HL Hpos Hok
 go_wp2_with fail
 refine (HC.out hs.out _ G2.out).mono ?_
 rintro e w3 ⟨rfl, g⟩
 have G3 := Lib.hid (Bel.trans G2.out g)
 clear g x0 x1
 obtain ⟨x0, x1⟩ := HP.out w3 G3.out
 by_cases he : er = 0
 rotate_left
 ·obtain ⟨hp1, hp2⟩ := Hpos.out he
  rw [HLn.out] at hp2
  have h1 : (er == 0) = false := by simpa using he
  have h2 : (er != 0) = true := by simpa using he
  go_wp2_with fail
  refine (HW.out _ G3.out).mono ?_
  rintro e w4 ⟨rfl, g⟩
  go_wp2_with fail
  go_ret
  exact ⟨rfl, Bel.trans HBV.out (Bel.trans G3.out g)⟩
 subst he
 obtain ⟨hsl, hall, -⟩ := Hok.out rfl
 have Hall := Lib.hid (allRt_at F 0 lo hall)
 clear hall
 go_wp2_with fail
 refine (HO.out hs.out _ G3.out).mono ?_
 rintro e w4 ⟨so, sm, sc, rfl, hrow, g⟩
 have G4 := Lib.hid (Bel.trans G3.out g)
 obtain rfl : n = sm := by rw [← HLn.out, ← hsl]; exact hrow.1
 have Hrow := Lib.hid hrow
 clear g x0 x1 hrow hsl
 obtain ⟨x0, x1⟩ := HP.out w4 G4.out
 go_wp2_with fail
 go_loopw [7, 58] (fun fv iv wr => ∃ q low : Nat, iv = .int .i64 (q : Int) ∧ fv = .int .i64 (low : Int) ∧ q ≤ k ∧ Hid (low = lowOf F q) ∧ Hid (Bel w4 wr)) (fun _ iv _ => k - (intOf iv).toNat)
 case atStart => exact ⟨0, 0, rfl, rfl, Nat.zero_le _, Lib.hid rfl, Lib.hid (Bel.refl _)⟩
 case round =>
  obtain ⟨q, low, rfl, rfl, hq, Hlow, HB⟩ := hrel
  rename World => wr
  have Gr := Lib.hid (Bel.trans G4.out HB.out)
  obtain ⟨x0, x1⟩ := HP.out wr Gr.out
  rcases Nat.lt_or_ge q k with hqk | hqk
  ·have hql : q < F.length := by rw [HFk.out]; exact hqk
   obtain ⟨f, hfe⟩ : ∃ f, F[q]? = some f := ⟨_, List.getElem?_eq_getElem hql⟩
   have Hfe := Lib.hid hfe
   obtain ⟨v, hv, hpv, hri⟩ := Hall.out q f hfe
   rw [lw_zero, ← Hlow.out] at hri
   have Hri := Lib.hid hri
   have hbd := lowOf_ok Hasc.out q hql
   have hbe : F[q] = f := by have := hfe; rw [List.getElem?_eq_getElem hql] at this; exact Option.some.inj this
   rw [hbe] at hbd
   obtain ⟨z, hzb⟩ : ∃ z : Nat, f.body = (z : Int) := ⟨f.body.toNat, by omega⟩
   have Hz := Lib.hid (show f.body.toNat = z by rw [hzb, Int.toNat_natCast])
   have hzn : z < n := by have := hbd.2; rw [hzb, HLn.out] at this; omega
   have hnle : n ≤ 200 := by have := hs.out.hn; rw [HLn.out] at this; exact this
   have Hlo2 := Lib.hid (show z + 1 = lowOf F (q + 1) by unfold lowOf; simp only; rw [hfe]; simp only; rw [hzb, Int.toNat_natCast])
   obtain ⟨fb, ff, po, pk, pc, hfo, hpk, hfw⟩ := HF.out q f hfe
   subst hfo
   rw [hzb] at hfw
   have HFq := Lib.hid hfw
   have hloc : locE ⟨sl, lo, pos, 0⟩ k (q : Int) = (v, 0) := by
    unfold locE
    rw [if_neg (by simp), if_pos (by omega), Int.toNat_natCast, List.getD_eq_getElem?_getD, hv, Option.getD_some]
   have HLq := Lib.hid (HL.out hs.out (q : Int) wr Gr.out)
   rw [hloc] at HLq
   rw [hpk] at hpv
   have hqk' : (q : Int) < (k : Int) := by omega
   have hq0 : (0 : Int) ≤ (q : Int) := by omega
   have hpv' : ¬ v < (pk : Int) := by omega
   have d0 := HFq.out wr Gr.out
   obtain ⟨d1, d2⟩ := d0
   clear hri hfe hbd hbe hzb hloc hpk hv hfw
   go_wp2_with fail
   refine HLq.out.mono ?_
   rintro e w5 ⟨rfl, g⟩
   have B5 := Lib.hid (Bel.trans HB.out g)
   have G5 := Lib.hid (Bel.trans Gr.out g)
   clear g x0 x1 d1 d2
   obtain ⟨x0, x1⟩ := HP.out w5 G5.out
   obtain ⟨d1, d2⟩ := HFq.out w5 G5.out
   go_wp2_with fail
   go_loopw [11] (fun iv w6 => ∃ i : Nat, iv = .int .i64 (i : Int) ∧ low ≤ i ∧ Hid (Bel w4 w6)) (fun iv _ => z + 1 - (intOf iv).toNat)
   case atStart => exact ⟨low, rfl, Nat.le_refl _, B5⟩
   case round =>
    obtain ⟨i, rfl, hli, HB6⟩ := hrel
    rename World => w6
    have G6 := Lib.hid (Bel.trans G4.out HB6.out)
    obtain ⟨x0, x1⟩ := HP.out w6 G6.out
    obtain ⟨d1, d2⟩ := HFq.out w6 G6.out
    rcases Nat.lt_or_ge z i with hzi | hzi
    ·have hzi' : ¬ (i : Int) ≤ (z : Int) := by omega
     go_wp2_with fail
     go_round
     case rel => exact ⟨q + 1, z + 1, by go_num, by go_num, by omega, Hlo2, HB6⟩
     case measure => first | (simp [intOf]; done) | (simp [intOf]; omega)
    ·have hzi' : (i : Int) ≤ (z : Int) := by omega
     have HRi := Lib.hid (HY.out hs.out so sc sl q low i v f hli w6 G6.out (Hrow.out.on HB6.out) Hfe.out (Hri.out i hli (by rw [Hz.out]; exact hzi)))
     go_wp2_with fail
     refine HRi.out.mono ?_
     rintro e w7 ⟨rfl, g⟩
     have B7 := Lib.hid (Bel.trans HB6.out g)
     clear g
     go_wp2_with fail
     go_round
     case rel => exact ⟨i + 1, by go_num, by omega, B7⟩
     case measure => first | (simp [intOf]; done) | (simp [intOf]; omega)
  ·obtain rfl : q = k := by omega
   go_wp2_with fail
   refine (HW.out _ Gr.out).mono ?_
   rintro e w5 ⟨rfl, g⟩
   go_wp2_with fail
   go_ret
   exact ⟨rfl, Bel.trans HBV.out (Bel.trans Gr.out g)⟩
end Syn
end Go.Proofs.YtmifookckpelaaaGreatDoor
