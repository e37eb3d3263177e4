/-
  Layer 8, texts merged: SvN, SvO, SvL, SvP, SvM, SvS. For every argument within the bounds that each theorem names.
-/
import Derived.Test.YtcapkeaedpabjaaGreatDoorMO5
import Derived.Test.YtcapkeaedpabjaaGreatDoorML5
import Derived.Test.YtcapkeaedpabjaaGreatDoorML4
import Derived.Test.YtcapkeaedpabjaaGreatDoorML2
import Derived.Test.YtcapkeaedpabjaaGreatDoorMN1

/-
 Layer 9: the law Checks.
-/
namespace Go.Proofs.YtcapkeaedpabjaaGreatDoor
open Go.RowKit Go.ChangeShapes Go.WideShapes
namespace Syn
theorem fit_small3 {L : List Nd} {F : List Fw} {n k : Nat} (hs : SmallP L F) (hr : Rch L F) (hn : L.length = n) (hk : F.length = k) : Fit9 n k L F :=
 ⟨by have := hs.hn; omega, by have := hs.hk; omega, hr.wf, fun x hx => ⟨(hr.sn x hx).1, by have := (hs.nd x hx).1; omega⟩, fun f hf => ⟨by have := hs.fn f hf; omega, (hr.sf f hf).2⟩⟩
set_option maxRecDepth 100000 in
set_option maxHeartbeats 8000000 in
theorem law_checks9 (no fo : Option Addr) (n nc k fc : Nat) (L : List Nd) (F : List Fw) (hn : n ≤ 4611686018427387904) (hk : k ≤ 4611686018427387904) (w : World) (hm : Lex.ML w) (hA : NArg w no n L) (hF : FArg w fo k F) (hr : Rch L F) :
  Calls Tryz.prog 5 #[.agg #[.slice no n nc, .slice fo k fc]] w fun e w' => e = .returned (.bool true) ∧ Bel w w' := by
 obtain ⟨V, hV⟩ : ∃ V, w.alloc (.cells #[.slice no n nc, .slice fo k fc] 25) = V := ⟨_, rfl⟩
 have BV : Bel w V := by rw [← hV]; exact Bel.alloc (Bel.refl _) _
 obtain ⟨v0, v1⟩ : V.cell? ⟨w.heap.size, 0, none⟩ = some (.slice no n nc) ∧ V.cell? ⟨w.heap.size, 1, none⟩ = some (.slice fo k fc) := by
  rw [← hV]
  exact ⟨World.cell?_alloc_new .., World.cell?_alloc_new ..⟩
 have hLn := hA.1
 have hFk := hF.1
 have HBV := Lib.hid BV
 have HVe := Lib.hid hV
 have HP := Lib.hid (show ∀ W, Bel V W → W.cell? ⟨w.heap.size, 0, none⟩ = some (.slice no n nc) ∧ W.cell? ⟨w.heap.size, 1, none⟩ = some (.slice fo k fc) from fun W g => ⟨g.cell' v0, g.cell' v1⟩)
 have HW := Lib.hid (fun W (g : Bel V W) => awake9_any W ((hm.on BV).on g))
 have HS := Lib.hid (small_any no fo n nc k fc L F hn hk V (hA.on BV) (hF.on BV) hr.wf (fun x hx => (hr.fn x hx).1))
 have HC := Lib.hid (fun (hs : SmallP L F) W (g : Bel V W) => scheck_any no fo n nc k fc L F (fit_small3 hs hr hLn hFk) W ((hm.on BV).on g) ((hA.on BV).on g) ((hF.on BV).on g))
 have HR := Lib.hid (fun (hs : SmallP L F) W (g : Bel V W) => rscheck_any no fo n nc k fc L F (fit_small3 hs hr hLn hFk) hr W ((hA.on BV).on g) ((hF.on BV).on g))
 unfold RcPost at HR
 generalize resG L F = R at *
 obtain ⟨sl, lo, pos, er⟩ := R
 dsimp only at HC HR
 clear hA hF hr hm BV hV v0 v1 hLn hFk
 go_enter Tryz.func5, Tryz.ntmps5
 go_wp2_with fail
 rw [HVe.out]
 refine HS.out.mono ?_
 rintro e w1 ⟨bs, rfl, hsm, g⟩
 have G1 := Lib.hid g
 obtain ⟨x0, x1⟩ := HP.out w1 g
 clear g
 cases bs with
 | false =>
  go_wp2_with fail
  refine (HW.out _ G1.out).mono ?_
  rintro e w2 ⟨rfl, g⟩
  go_wp2_with fail
  go_ret
  exact ⟨rfl, Bel.trans HBV.out (Bel.trans G1.out g)⟩
 | true =>
 have hs := Lib.hid (hsm rfl)
 clear hsm
 go_wp2_with fail
 refine (HC.out hs.out _ G1.out).mono ?_
 rintro e w2 ⟨rfl, g⟩
 have G2 := Lib.hid (Bel.trans G1.out g)
 clear g x0 x1
 obtain ⟨x0, x1⟩ := HP.out w2 G2.out
 go_wp2_with fail
 refine (HR.out hs.out _ G2.out).mono ?_
 rintro e w3 ⟨rfl, g⟩
 have G3 := Lib.hid (Bel.trans G2.out g)
 clear g x0 x1
 go_wp2_with fail
 refine (HW.out _ G3.out).mono ?_
 rintro e w4 ⟨rfl, g⟩
 go_wp2_with fail
 go_ret
 exact ⟨rfl, Bel.trans HBV.out (Bel.trans G3.out g)⟩
end Syn
end Go.Proofs.YtcapkeaedpabjaaGreatDoor

/-
 Layer 9, the reference: Slots, Locals.
-/
namespace Go.Proofs.YtcapkeaedpabjaaGreatDoor
open Go.RowKit Go.ChangeShapes Go.WideShapes
namespace Syn
theorem runF_er {L : List Nd} {W : Nd → Int} : ∀ (F : List Fw) (low : Nat) (sl lo : List Int), (runF L W F low sl lo).er ≠ 0 → (runF L W F low sl lo).sl = []
 | [], low, sl, lo, h => absurd rfl h
 | f :: F, low, sl, lo, h => by
  rw [runF] at h ⊢
  split
  ·rename_i q hq
   rw [hq] at h
   exact runF_er F _ _ _ h
  ·rfl
theorem resG_er {L : List Nd} {F : List Fw} (h : (resG L F).er ≠ 0) : (resG L F).sl = [] := by
 unfold resG at h ⊢
 split
 ·rfl
 ·rename_i hc
  rw [if_neg hc] at h
  cases hd : dupF F 0 F with
  | some b => rfl
  | none =>
   rw [hd] at h
   dsimp only at h ⊢
   cases hm : mainE F with
   | some q => rfl
   | none =>
    rw [hm] at h
    exact runF_er F _ _ _ h
theorem res_slots {L : List Nd} {F : List Fw} {fs : List Fu} (hL : L = flatF 0 fs) (hF : F = funcF 0 fs) (hg : ∀ f ∈ fs, goodFu f) (h : (resG L F).er = 0) : (resG L F).sl = (walkR F fs).sl ∧ ∀ wz : Wk, wz.er = 0 → (resG L F).lo = nxs (wantI F) wz 0 fs := by
 obtain ⟨-, -, -, hc, hd, hm⟩ := res_ok h
 subst hL hF
 exact (walk_res hg hc hd hm).2 h
theorem nxs_at (W : Nd → Int) (w : Wk) : ∀ (fs : List Fu) (b q : Nat) (u : Fu), fs[q]? = some u → (nxs W w b fs)[q]? = some ((visT W (b + sizeF (fs.take q)) u.body (w.start u.params)).nx : Int)
 | [], _, q, u, h => by simp at h
 | f :: fs, b, 0, u, h => by
  simp only [List.getElem?_cons_zero, Option.some.injEq] at h
  subst h
  rw [nxs, List.getElem?_cons_zero, List.take_zero, sizeF, Nat.add_zero]
 | f :: fs, b, q + 1, u, h => by
  rw [List.getElem?_cons_succ] at h
  rw [nxs, List.getElem?_cons_succ, nxs_at W w fs _ q u h, List.take_succ_cons, sizeF, Nat.add_assoc]
/-- A function of a program's row. -/
theorem fun_at : ∀ (fs : List Fu) (b q : Nat) (u : Fu), fs[q]? = some u → (funcF b fs)[q]? = some ⟨u.name, u.params, ((b + sizeF (fs.take q) + size u.body - 1 : Nat) : Int)⟩ ∧ ∃ A B, flatF b fs = A ++ flat (b + sizeF (fs.take q)) u.body ++ B ∧ A.length = sizeF (fs.take q)
 | [], _, q, u, h => by simp at h
 | f :: fs, b, 0, u, h => by
  simp only [List.getElem?_cons_zero, Option.some.injEq] at h
  subst h
  rw [funcF, flatF, List.take_zero, sizeF, Nat.add_zero]
  exact ⟨rfl, [], _, by rw [List.nil_append], rfl⟩
 | f :: fs, b, q + 1, u, h => by
  rw [List.getElem?_cons_succ] at h
  obtain ⟨h1, A, B, h2, h3⟩ := fun_at fs (b + size f.body) q u h
  rw [funcF, flatF, List.take_succ_cons, sizeF, List.getElem?_cons_succ, ← Nat.add_assoc]
  exact ⟨h1, flat b f.body ++ A, B, by rw [h2]; simp, by rw [List.length_append, flat_len, h3]⟩
set_option maxRecDepth 100000 in
set_option maxHeartbeats 8000000 in
theorem rslots_any (no fo : Option Addr) (n nc k fc : Nat) (L : List Nd) (F : List Fw) (hf : Fit9 n k L F) (hr : Rch L F) (w : World) (hA : NArg w no n L) (hF : FArg w fo k F) :
  Calls Tryz.prog 21 #[.agg #[.slice no n nc, .slice fo k fc]] w fun e w' => ∃ (a : Option Addr) (m c : Nat), e = .returned (.tuple #[.slice a m c, .int .i64 (resG L F).er]) ∧ RArg w' a m (resG L F).sl ∧ Bel w w' := by
 obtain ⟨V, hV⟩ : ∃ V, w.alloc (.cells #[.slice no n nc, .slice fo k fc] 25) = V := ⟨_, rfl⟩
 have BV : Bel w V := by rw [← hV]; exact Bel.alloc (Bel.refl _) _
 obtain ⟨v0, v1⟩ : V.cell? ⟨w.heap.size, 0, none⟩ = some (.slice no n nc) ∧ V.cell? ⟨w.heap.size, 1, none⟩ = some (.slice fo k fc) := by
  rw [← hV]
  exact ⟨World.cell?_alloc_new .., World.cell?_alloc_new ..⟩
 have HBV := Lib.hid BV
 have HVe := Lib.hid hV
 have HP := Lib.hid (show ∀ W, Bel V W → W.cell? ⟨w.heap.size, 0, none⟩ = some (.slice no n nc) ∧ W.cell? ⟨w.heap.size, 1, none⟩ = some (.slice fo k fc) from fun W g => ⟨g.cell' v0, g.cell' v1⟩)
 have HC := Lib.hid (rscheck_any no fo n nc k fc L F hf hr V (hA.on BV) (hF.on BV))
 have HAl := Lib.hid (fun (hc : chkE L F = 0) W (B : Bel V W) => rall_any no fo n nc k fc L F hc (fun x hx => (hf.sf x hx).1) (fun x hx => (hf.sn x hx).2) W ((hA.on BV).on B) ((hF.on BV).on B))
 have Hok := Lib.hid (fun he => res_ok (L := L) (F := F) he)
 have Her := Lib.hid (fun he => resG_er (L := L) (F := F) he)
 have Hsl := Lib.hid (fun (fs : List Fu) hL hF hg he => (res_slots (L := L) (F := F) (fs := fs) hL hF hg he).1)
 unfold RcPost at HC
 generalize resG L F = R at *
 obtain ⟨sl, lo, pos, er⟩ := R
 dsimp only at HC Hok Her Hsl ⊢
 clear hf hr hA hF BV hV
 by_cases he : er = 0
 rotate_left
 ·have h1 : (er == 0) = false := by simpa using he
  have h2 : (er != 0) = true := by simpa using he
  have hsl := Her.out he
  subst hsl
  go_enter Tryz.func21, Tryz.ntmps21
  go_wp2_with fail
  rw [HVe.out]
  refine HC.out.mono ?_
  rintro e w2 ⟨rfl, g⟩
  have G := Lib.hid g
  clear g
  go_wp2_with fail
  go_ret2
  exact ⟨none, 0, 0, rfl, rarg_nil _, Bel.trans HBV.out G.out⟩
 subst he
 have hch := (Hok.out rfl).2.2.2.1
 have HA2 := Lib.hid (HAl.out hch)
 go_enter Tryz.func21, Tryz.ntmps21
 go_wp2_with fail
 rw [HVe.out]
 refine HC.out.mono ?_
 rintro e w2 ⟨rfl, g⟩
 have G2 := Lib.hid g
 clear g v0 v1
 obtain ⟨x0, x1⟩ := HP.out w2 G2.out
 go_wp2_with fail
 refine (HA2.out w2 G2.out).mono ?_
 rintro e w3 ⟨fs, ⟨hL, hFs, hgd⟩, G, a1, a2, m1, c1, m2, c2, rfl, hrow, g⟩
 have hsl := Hsl.out fs hL hFs hgd (by first | rfl | trivial)
 rw [← hsl] at hrow
 have Hrow := Lib.hid hrow
 have G3 := Lib.hid (Bel.trans G2.out g)
 generalize walkR F fs = K at *
 clear g x0 x1 hL hFs hgd hrow hsl
 go_wp2_with fail
 go_ret2
 exact ⟨some ⟨G, 0, none⟩, n, n, rfl, Hrow.out.on (Bel.alloc (Bel.refl _) _), Bel.alloc (Bel.trans HBV.out G3.out) _⟩
set_option maxRecDepth 100000 in
set_option maxHeartbeats 16000000 in
theorem rlocals_any (no fo : Option Addr) (n nc k fc : Nat) (L : List Nd) (F : List Fw) (hf : Fit9 n k L F) (hr : Rch L F) (f : Int) (w : World) (hA : NArg w no n L) (hF : FArg w fo k F) :
  Calls Tryz.prog 23 #[.agg #[.slice no n nc, .slice fo k fc], .int .i64 f] w fun e w' => e = .returned (.tuple #[.int .i64 (locE (resG L F) k f).1, .int .i64 (locE (resG L F) k f).2]) ∧ Bel w w' := by
 obtain ⟨V, hV⟩ : ∃ V, w.alloc (.cells #[.slice no n nc, .slice fo k fc] 25) = V := ⟨_, rfl⟩
 have BV : Bel w V := by rw [← hV]; exact Bel.alloc (Bel.refl _) _
 obtain ⟨v0, v1⟩ : V.cell? ⟨w.heap.size, 0, none⟩ = some (.slice no n nc) ∧ V.cell? ⟨w.heap.size, 1, none⟩ = some (.slice fo k fc) := by
  rw [← hV]
  exact ⟨World.cell?_alloc_new .., World.cell?_alloc_new ..⟩
 have HBV := Lib.hid BV
 have HVe := Lib.hid hV
 have HP := Lib.hid (show ∀ W, Bel V W → W.cell? ⟨w.heap.size, 0, none⟩ = some (.slice no n nc) ∧ W.cell? ⟨w.heap.size, 1, none⟩ = some (.slice fo k fc) from fun W g => ⟨g.cell' v0, g.cell' v1⟩)
 have HC := Lib.hid (rscheck_any no fo n nc k fc L F hf hr V (hA.on BV) (hF.on BV))
 have HA := Lib.hid (hA.on BV)
 have HF := Lib.hid (hF.on BV)
 have Hf := Lib.hid hf
 have HLn := Lib.hid hA.1
 have HFk := Lib.hid hF.1
 have Hok := Lib.hid (fun he => res_ok (L := L) (F := F) he)
 have Hlo := Lib.hid (fun (fs : List Fu) hL hF hg he => (res_slots (L := L) (F := F) (fs := fs) hL hF hg he).2)
 have hwz : w.heap.size < V.heap.size := by rw [← hV, alloc_szs]; omega
 have Hwz := Lib.hid hwz
 unfold RcPost at HC
 unfold locE
 generalize resG L F = R at *
 obtain ⟨sl, lo, pos, er⟩ := R
 dsimp only at HC Hok Hlo ⊢
 clear hf hr hA hF BV hV hwz
 by_cases he : er = 0
 rotate_left
 ·have h1 : (er == 0) = false := by simpa using he
  have h2 : (er != 0) = true := by simpa using he
  rw [if_pos he]
  clear he
  go_enter Tryz.func23, Tryz.ntmps23
  go_wp2_with fail
  rw [HVe.out]
  refine HC.out.mono ?_
  rintro e w2 ⟨rfl, g⟩
  have G := Lib.hid g
  clear g
  go_wp2_with fail
  go_ret2
  exact ⟨rfl, Bel.trans HBV.out G.out⟩
 subst he
 rw [if_neg (by simp)]
 by_cases hq : 0 ≤ f ∧ f < (k : Int)
 rotate_left
 ·rw [if_neg hq]
  go_enter Tryz.func23, Tryz.ntmps23
  go_wp2_with fail
  rw [HVe.out]
  refine HC.out.mono ?_
  rintro e w2 ⟨rfl, g⟩
  have G := Lib.hid g
  obtain ⟨x0, x1⟩ := HP.out w2 g
  clear g v0 v1
  by_cases hq0 : f < 0
  ·clear hq
   go_wp2_with fail
   go_ret2
   exact ⟨rfl, Bel.trans HBV.out G.out⟩
  ·have hq1 : ¬ f < (k : Int) := fun h => hq ⟨by omega, h⟩
   have hq2 : (k : Int) ≤ f := by omega
   clear hq
   go_wp2_with fail
   go_ret2
   exact ⟨rfl, Bel.trans HBV.out G.out⟩
 ·rw [if_pos hq]
  obtain ⟨hq0, hq1⟩ := hq
  obtain ⟨q, rfl⟩ : ∃ q : Nat, f = (q : Int) := ⟨f.toNat, by omega⟩
  obtain ⟨-, -, -, hch, -, -⟩ := Hok.out rfl
  obtain ⟨fs, hL, hFs, hgd⟩ := proper_good (chk_proper hch)
  obtain ⟨hsn, hsk⟩ := all_small hch
  have hfsl : fs.length = k := by rw [← HFk.out, hFs, funcF_len]
  obtain ⟨u, hu⟩ : ∃ u, fs[q]? = some u := ⟨_, List.getElem?_eq_getElem (by omega)⟩
  obtain ⟨hu1, A, B, hu2, hu3⟩ := fun_at fs 0 q u hu
  have hnx := nxs_at (wantI F) (wk0 n 0) fs 0 q u hu
  rw [Nat.zero_add] at hu1 hu2 hnx
  obtain ⟨b, hb⟩ : ∃ b, sizeF (fs.take q) = b := ⟨_, rfl⟩
  rw [hb] at hu1 hu2 hu3 hnx
  rw [← hFs] at hu1
  rw [← hL] at hu2
  have HFu := Lib.hid (show F[q]? = some ⟨u.name, u.params, ((b + size u.body - 1 : Nat) : Int)⟩ ∧ L = A ++ flat b u.body ++ B ∧ A.length = b from ⟨hu1, hu2, hu3⟩)
  have hlo := Hlo.out fs hL hFs hgd rfl (wk0 n 0) rfl
  obtain ⟨v, hv⟩ : ∃ v, ((visT (wantI F) b u.body ((wk0 n 0).start u.params)).nx : Int) = v := ⟨_, rfl⟩
  have Hv := Lib.hid hv
  rw [hv, ← hlo] at hnx
  rw [Int.toNat_natCast, List.getD_eq_getElem?_getD, hnx, Option.getD_some]
  have HEn := Lib.hid (show ∀ w2, Bel V w2 → ∀ wb G base : Nat, w2.heap.size ≤ wb → w2.heap.size ≤ G → w2.heap.size ≤ base → VEnv w2 wb G base no fo n k L F from fun w2 g wb G base h1 h2 h3 => ⟨HA.out.on g, HF.out.on g, by omega, by omega, by omega, by have := HLn.out; omega, by have := HFk.out; omega, fun x hx => (Hf.out.sn x hx).2, fun x hx => (Hf.out.sf x hx).1⟩)
  have hn9 : n ≤ 1000 := by have := HLn.out; omega
  have hmk := make_ints9 n hn9
  clear hu hu1 hu2 hu3 hnx hb hlo hv hL hFs hgd hfsl hch hsn hsk hn9
  go_enter Tryz.func23, Tryz.ntmps23
  go_wp2_with fail
  rw [HVe.out]
  refine HC.out.mono ?_
  rintro e w2 ⟨rfl, g⟩
  have G2 := Lib.hid g
  obtain ⟨x0, x1⟩ := HP.out w2 g
  have hwz : w.heap.size < w2.heap.size := Nat.lt_of_lt_of_le Hwz.out g.size
  have HEn := Lib.hid (HEn.out w2 g)
  clear g v0 v1
  go_upto_region 6 with (fail)
  go_region
  ·obtain ⟨Y, hY⟩ : ∃ Y, ((w2.alloc (.cells (madeCells #[.int .i64 0] n) 3)).alloc (.cells #[.slice no n nc, .slice fo k fc, .slice none 0 0, .slice none 0 0, .int .i64 0, .slice (some ⟨w2.heap.size, 0, none⟩) n n, .int .i64 0, .int .i64 0] 84)).drew = Y := ⟨_, rfl⟩
   rw [hY]
   have hW0 := (first_a no fo n nc k fc w2 3 84).bel (Below.drew (Bel.refl _))
   rw [hY] at hW0
   have hBY : Bel w2 Y := by rw [← hY]; exact Below.drew (Bel.alloc (Bel.alloc (Bel.refl _) _) _)
   have hYz : w2.heap.size + 1 + 1 ≤ Y.heap.size := by
    have e1 : Y.heap.size = (w2.heap.size + 1) + 1 := by rw [← hY]; exact (alloc_szs _ _).trans (by rw [alloc_szs])
    omega
   clear hY
   have HE := Lib.hid (HEn.out (w2.heap.size + 1) (w2.heap.size) (w2.heap.size + 1 + 1) (by omega) (by omega) (by omega))
   have hW1 := wrun_any w2 (w2.heap.size + 1) (w2.heap.size) (w2.heap.size + 1 + 1) no fo n nc k fc L F HE.out q _ HFu.out.1 u.body b A _ HFu.out.2.1 HFu.out.2.2 rfl (wk0 n 0) none 0 none 0 Y hYz hBY hW0
   have HC2 := Lib.hid hW1
   have HBY := Lib.hid hBY
   dsimp only at HC2
   have Hold := Lib.hid (wk_old HE.out hW0)
   clear hW0 hBY hYz hW1
   go_wp2_with fail
   refine HC2.out.mono ?_
   rintro e w6 ⟨f1, h1, f2, h2, rfl, ⟨hW6, -, -⟩, hM6⟩
   have e4 := hW6.e4
   rw [show ((visT (wantI F) b u.body ((wk0 n 0).start u.params)).nx : Int) = v from Hv.out] at e4
   have HB6 := Lib.hid (Mod.bel_of HBY.out hM6 Hold.out)
   clear hW6 hM6
   go_wp2_with fail
   go_ret2
   exact ⟨rfl, Bel.trans HBV.out (Bel.trans G2.out HB6.out)⟩
  ·obtain ⟨Y, hY⟩ : ∃ Y, ((w2.alloc (.cells #[.slice no n nc, .slice fo k fc, .slice none 0 0, .slice none 0 0, .int .i64 0, .slice (some ⟨w2.heap.size + 1, 0, none⟩) n n, .int .i64 0, .int .i64 0] 84)).alloc (.cells (madeCells #[.int .i64 0] n) 3)).drew = Y := ⟨_, rfl⟩
   rw [hY]
   have hW0 := (first_b no fo n nc k fc w2 3 84).bel (Below.drew (Bel.refl _))
   rw [hY] at hW0
   have hBY : Bel w2 Y := by rw [← hY]; exact Below.drew (Bel.alloc (Bel.alloc (Bel.refl _) _) _)
   have hYz : w2.heap.size + 1 + 1 ≤ Y.heap.size := by
    have e1 : Y.heap.size = (w2.heap.size + 1) + 1 := by rw [← hY]; exact (alloc_szs _ _).trans (by rw [alloc_szs])
    omega
   clear hY
   have HE := Lib.hid (HEn.out (w2.heap.size) (w2.heap.size + 1) (w2.heap.size + 1 + 1) (by omega) (by omega) (by omega))
   have hW1 := wrun_any w2 (w2.heap.size) (w2.heap.size + 1) (w2.heap.size + 1 + 1) no fo n nc k fc L F HE.out q _ HFu.out.1 u.body b A _ HFu.out.2.1 HFu.out.2.2 rfl (wk0 n 0) none 0 none 0 Y hYz hBY hW0
   have HC2 := Lib.hid hW1
   have HBY := Lib.hid hBY
   dsimp only at HC2
   have Hold := Lib.hid (wk_old HE.out hW0)
   clear hW0 hBY hYz hW1
   go_wp2_with fail
   refine HC2.out.mono ?_
   rintro e w6 ⟨f1, h1, f2, h2, rfl, ⟨hW6, -, -⟩, hM6⟩
   have e4 := hW6.e4
   rw [show ((visT (wantI F) b u.body ((wk0 n 0).start u.params)).nx : Int) = v from Hv.out] at e4
   have HB6 := Lib.hid (Mod.bel_of HBY.out hM6 Hold.out)
   clear hW6 hM6
   go_wp2_with fail
   go_ret2
   exact ⟨rfl, Bel.trans HBV.out (Bel.trans G2.out HB6.out)⟩
end Syn
end Go.Proofs.YtcapkeaedpabjaaGreatDoor

/-
 Layer 9, plainly: what the reference's Owner, Calls, Reachable and Ops answer is what the program's do.
-/
namespace Go.Proofs.YtcapkeaedpabjaaGreatDoor
open Go.RowKit Go.ChangeShapes Go.WideShapes
namespace Syn
/-- One more operation of the host. -/
def addO (D : List Txt) (x : Txt) : List Txt := if x ∈ D then D else Idn.srt (D ++ [x])
theorem fold_ops : ∀ (l D : List Txt), Idn.asc D → Idn.asc (l.foldl addO D) ∧ ∀ y, y ∈ l.foldl addO D ↔ y ∈ D ∨ y ∈ l
 | [], D, h => ⟨h, fun y => by simp⟩
 | x :: l, D, h => by
  have ha : Idn.asc (addO D x) := by
   unfold addO
   split
   ·exact h
   ·exact Idn.srt_asc _
  have hm : ∀ y, y ∈ addO D x ↔ y ∈ D ∨ y = x := fun y => by
   unfold addO
   split
   ·rename_i hx
    constructor
    ·exact Or.inl
    ·rintro (q | q)
     ·exact q
     ·rw [q]; exact hx
   ·rw [Idn.srt_mem]; simp
  obtain ⟨k1, k2⟩ := fold_ops l (addO D x) ha
  rw [List.foldl_cons]
  refine ⟨k1, fun y => ?_⟩
  rw [k2, hm, List.mem_cons, or_assoc]
theorem ops_same (l : List Txt) : l.foldl addO [] = Idn.srt l := by
 obtain ⟨k1, k2⟩ := fold_ops l [] List.Pairwise.nil
 refine Idn.asc_ext k1 (Idn.srt_asc l) fun x => ?_
 rw [k2, Idn.srt_mem]
 simp
end Syn
end Go.Proofs.YtcapkeaedpabjaaGreatDoor

/-
 Layer 9, the reference: Ops.
-/
namespace Go.Proofs.YtcapkeaedpabjaaGreatDoor
open Go.RowKit Go.ChangeShapes Go.WideShapes
namespace Syn
def foldO (l : List ByteArray) (D : List Txt) : List Txt := (l.map ByteArray.toList).foldl addO D
theorem foldO_nil (D : List Txt) : foldO [] D = D := rfl
theorem foldO_cons (x : ByteArray) (l : List ByteArray) (D : List Txt) : foldO (x :: l) D = foldO l (addO D x.toList) := rfl
theorem foldO_all (l : List ByteArray) : foldO l [] = Idn.srt (l.map ByteArray.toList) := ops_same _
theorem mem_texts {xs : List ByteArray} {x : ByteArray} (h : x.toList ∈ xs.map ByteArray.toList) : x ∈ xs := by
 obtain ⟨y, h1, h2⟩ := List.mem_map.1 h
 have : y = x := Idn.eq_of_lists (by rw [h2]; simp)
 rw [← this]
 exact h1
set_option maxRecDepth 100000 in
set_option maxHeartbeats 8000000 in
theorem rops_any (no fo : Option Addr) (n nc k fc : Nat) (L : List Nd) (F : List Fw) (hf : Fit9 n k L F) (hr : Rch L F) (w : World) (hA : NArg w no n L) (hF : FArg w fo k F) :
  Calls Tryz.prog 27 #[.agg #[.slice no n nc, .slice fo k fc]] w (OpsPost w (opsE (resG L F) L)) := by
 obtain ⟨V, hV⟩ : ∃ V, w.alloc (.cells #[.slice no n nc, .slice fo k fc] 25) = V := ⟨_, rfl⟩
 have BV : Bel w V := by rw [← hV]; exact Bel.alloc (Bel.refl _) _
 obtain ⟨v0, v1⟩ : V.cell? ⟨w.heap.size, 0, none⟩ = some (.slice no n nc) ∧ V.cell? ⟨w.heap.size, 1, none⟩ = some (.slice fo k fc) := by
  rw [← hV]
  exact ⟨World.cell?_alloc_new .., World.cell?_alloc_new ..⟩
 have HBV := Lib.hid BV
 have HVe := Lib.hid hV
 have HP := Lib.hid (show ∀ W, Bel V W → W.cell? ⟨w.heap.size, 0, none⟩ = some (.slice no n nc) ∧ W.cell? ⟨w.heap.size, 1, none⟩ = some (.slice fo k fc) from fun W g => ⟨g.cell' v0, g.cell' v1⟩)
 have HLn := Lib.hid hA.1
 have hn := hf.hn
 have HA := Lib.hid (hA.on BV)
 have HC := Lib.hid (rscheck_any no fo n nc k fc L F hf hr V (hA.on BV) (hF.on BV))
 unfold RcPost at HC
 unfold opsE
 generalize resG L F = R at *
 obtain ⟨Xs, Xl, Xp, er⟩ := R
 dsimp only at HC ⊢
 clear hf hr hA hF BV hV
 by_cases he : er = 0
 rotate_left
 ·rw [if_pos he]
  have h1 : (er == 0) = false := by simpa using he
  have h2 : (er != 0) = true := by simpa using he
  clear he
  go_enter Tryz.func27, Tryz.ntmps27
  go_wp2_with fail
  rw [HVe.out]
  refine HC.out.mono ?_
  rintro e w2 ⟨rfl, g⟩
  have G := Lib.hid g
  clear g v0 v1
  go_wp2_with fail
  go_ret
  exact ⟨none, 0, 0, [], rfl, rfl, SlArg.nil _, Bel.trans HBV.out G.out⟩
 rw [if_neg (by simpa using he), ← foldO_all]
 subst he
 obtain ⟨X, hX⟩ : ∃ X, foldO (opsN L) [] = X := ⟨_, rfl⟩
 rw [hX]
 have HX := Lib.hid (show foldO (opsN (L.drop 0)) (([] : List ByteArray).map ByteArray.toList) = X from hX)
 clear hX
 go_enter Tryz.func27, Tryz.ntmps27
 go_wp2_with fail
 rw [HVe.out]
 refine HC.out.mono ?_
 rintro e w2 ⟨rfl, g⟩
 have G := Lib.hid g
 have hR0 := Lib.hid (show w2.ownsRow V.heap.size 9 1 (.slice none 0 0) 0 (encS []) from World.ownsRow_nil _ _ _ _)
 clear g v0 v1
 go_wp2_with fail
 go_loopw [3, 6] (fun av iv wr => ∃ (j m c : Nat) (a : Option Addr) (acc : List ByteArray), av = .slice a m c ∧ iv = .int .i64 (j : Int) ∧ j ≤ n ∧ m ≤ j ∧ Hid (wr.ownsRow V.heap.size 9 1 (.slice a m c) m (encS acc)) ∧ Hid (Bel V wr) ∧ Hid (foldO (opsN (L.drop j)) (acc.map ByteArray.toList) = X)) (fun _ iv _ => n - (intOf iv).toNat)
 case atStart => exact ⟨0, 0, 0, none, [], rfl, rfl, Nat.zero_le _, Nat.zero_le _, hR0, G, HX⟩
 case round =>
  obtain ⟨j, m, c, a, acc, rfl, rfl, hj, hmj, HR, HB, HM⟩ := hrel
  rename World => wr
  obtain ⟨v0, v1⟩ := HP.out wr HB.out
  rcases Nat.lt_or_ge j n with hjc | hjc
  ·have hjL : j < L.length := by rw [HLn.out]; exact hjc
   obtain ⟨nb, nf, rfl, hcs⟩ := HA.out.2 (by omega)
   obtain ⟨v, hv, hcc⟩ := hcs j hjL
   have hM := HM.out
   rw [List.drop_eq_getElem_cons hjL] at hM
   obtain ⟨x, hx⟩ : ∃ x, L[j] = x := ⟨_, rfl⟩
   rw [hx] at hv hM
   have hvk := hv.k
   have hvs := hv.s
   obtain ⟨vk, vs, vi, ko, kn, kc, jo, jn, jc⟩ := v
   dsimp only at hvk hvs
   subst hvk hvs
   have c0 : wr.cell? ⟨nb, nf + j * 5, none⟩ = some (.int .i64 x.k) := HB.out.cell' (by simpa using hcc 0 _ rfl)
   have c1 : wr.cell? ⟨nb, nf + j * 5 + 1, none⟩ = some (.string ⟨x.s.toArray⟩) := HB.out.cell' (by simpa using hcc 1 _ rfl)
   have hj1 : (j : Int) < (n : Int) := by omega
   have hj0 : (0 : Int) ≤ (j : Int) := by omega
   clear hv hcc hcs hx
   by_cases h12 : x.k = 12
   ·rw [opsN_yes h12, foldO_cons] at hM
    rw [h12] at c0
    obtain ⟨xs, hxs⟩ : ∃ xs : ByteArray, (⟨x.s.toArray⟩ : ByteArray) = xs := ⟨_, rfl⟩
    rw [hxs] at c1 hM
    have HH := Lib.hid (Idn.rhas_any a m c acc xs (by omega) wr (own_sarg HR.out))
    clear h12 hxs
    by_cases hmem : xs ∈ acc
    ·have HM2 := Lib.hid (show foldO (opsN (L.drop (j + 1))) (acc.map ByteArray.toList) = X by
      rw [← hM]
      unfold addO
      rw [if_pos (List.mem_map_of_mem hmem)])
     rw [Idn.has_yes hmem] at HH
     clear hM hmem
     go_wp2_with fail
     refine HH.out.mono ?_
     rintro e w3 ⟨rfl, rfl⟩
     go_wp2_with fail
     go_round
     case rel => exact ⟨j + 1, m, c, a, acc, rfl, by go_num, by omega, by omega, HR, HB, HM2⟩
     case measure => first | (simp [intOf]; done) | (simp [intOf]; omega)
    ·have hM3 := Lib.hid (show foldO (opsN (L.drop (j + 1))) (Idn.srt ((acc ++ [xs]).map ByteArray.toList)) = X by
      rw [← hM]
      unfold addO
      rw [if_neg (fun h => hmem (mem_texts h)), List.map_append]
      rfl)
     rw [Idn.has_no hmem] at HH
     have HB2 := Lib.hid (Bel.alloc HB.out (.cells #[.string xs] 9))
     have HR2 := Lib.hid (own_kept (F := fun _ => False) HR.out (Mod.of_bel (Bel.alloc (Bel.refl wr) (.cells #[.string xs] 9))) (fun _ _ h => h))
     have hbs := HB2.out.size
     have Hnw : Hid (∀ j u, [Value.string xs][j]? = some u → (wr.alloc (.cells #[.string xs] 9)).cell? ((⟨wr.heap.size, 0, none⟩ : Addr).add j) = some u) := Lib.hid (World.news_of_block (cs := #[.string xs]) (t := 9) (fr := (0, 0)) (heap_new wr _))
     have hi1 : m + 1 ≤ 1099511627776 := by omega
     clear hM hmem
     go_wp2_with fail
     refine HH.out.mono ?_
     rintro e w3 ⟨rfl, rfl⟩
     go_wp2_with (at_builtin; refine list_appT _ _ rfl rfl rfl rfl HR2.out hbs Hnw.out hi1 ?_; intro o9 c9 w9 k9 g9; refine Hid.out ?_)
     refine Lib.hid ?_
     have G9 := Lib.hid (Mod.bel_of HB2.out g9.out (fun i h => h))
     have hm0 : (acc ++ [xs]).length = m + 1 := (own_sarg k9.out).1
     have HSo := Lib.hid (Idn.rsorted_any o9 (m + 1) c9 (acc ++ [xs]) (by omega) w9 (own_sarg k9.out))
     have HSz := Lib.hid G9.out.size
     have Hsl := Lib.hid (show (Idn.srt ((acc ++ [xs]).map ByteArray.toList)).length ≤ m + 1 by
      have h2 := Idn.srt_len ((acc ++ [xs]).map ByteArray.toList) ((acc ++ [xs]).map ByteArray.toList).length (Nat.le_refl _)
      rw [List.take_length, List.length_map] at h2
      omega)
     clear g9 k9 hm0
     generalize acc ++ [xs] = acc2 at *
     go_wp2_with fail
     refine HSo.out.mono ?_
     rintro e w4 ⟨⟨v, rfl, o3, k3, c3, D, rfl, hD, hown⟩, g⟩
     have HB4 := Lib.hid (Bel.trans G9.out g)
     have HR4 := Lib.hid (Idn.own_base hown HSz.out)
     have hk3 : k3 ≤ m + 1 := by
      have h1 := (own_sarg hown).1
      have h2 := congrArg List.length hD
      rw [List.length_map] at h2
      have := Hsl.out
      omega
     have HM4 := Lib.hid (show foldO (opsN (L.drop (j + 1))) (D.map ByteArray.toList) = X by rw [hD]; exact hM3.out)
     clear g hown hD
     go_wp2_with fail
     go_round
     case rel => exact ⟨j + 1, k3, c3, o3, D, rfl, by go_num, by omega, by omega, HR4, HB4, HM4⟩
     case measure => first | (simp [intOf]; done) | (simp [intOf]; omega)
   ·have HM2 := Lib.hid (show foldO (opsN (L.drop (j + 1))) (acc.map ByteArray.toList) = X by rw [← hM, opsN_no h12])
    have b12 : (x.k == 12) = false := by simpa using h12
    clear hM h12
    go_wp2_with fail
    go_round
    case rel => exact ⟨j + 1, m, c, a, acc, rfl, by go_num, by omega, by omega, HR, HB, HM2⟩
    case measure => first | (simp [intOf]; done) | (simp [intOf]; omega)
  ·obtain rfl : j = n := by omega
   have hXa : acc.map ByteArray.toList = X := by
    have := HM.out
    rw [List.drop_eq_nil_of_le (by rw [HLn.out]; exact Nat.le_refl _), opsN, foldO_nil] at this
    exact this
   have HXa := Lib.hid hXa
   clear hXa
   go_wp2_with fail
   go_ret
   exact ⟨a, m, c, acc, rfl, HXa.out, own_sarg HR.out, Bel.trans HBV.out HB.out⟩
end Syn
end Go.Proofs.YtcapkeaedpabjaaGreatDoor

/-
 Layer 9, the reference: Owner; the law's comparison of texts.
-/
namespace Go.Proofs.YtcapkeaedpabjaaGreatDoor
open Go.RowKit Go.ChangeShapes Go.WideShapes
namespace Syn
set_option maxRecDepth 100000 in
set_option maxHeartbeats 4000000 in
theorem texts9_any (o q : Option Addr) (n m c d : Nat) (xs ys : List ByteArray) (w : World) (hA : SlArg w o n xs) (hB : SlArg w q m ys) (hn : n ≤ 100000) (hm : m ≤ 100000) :
  Calls Tryz.prog 25 #[.slice o n c, .slice q m d] w fun e w' => (∃ b : Bool, (b = true ↔ xs = ys) ∧ e = .returned (.bool b)) ∧ Bel w w' := by
 have hlx := hA.1
 have hly := hB.1
 have HA := Lib.hid hA
 have HB := Lib.hid hB
 clear hA hB
 by_cases hnm : n = m
 ·subst hnm
  go_enter Tryz.func25, Tryz.ntmps25
  go_wp2_with fail
  go_loopw [13] (fun j wr => ∃ k : Nat, k ≤ n ∧ j = .int .i64 (k : Int) ∧ Hid (xs.take k = ys.take k) ∧ Hid (Bel w wr)) (fun j _ => n - (intOf j).toNat)
  case atStart => exact ⟨0, Nat.zero_le _, rfl, Lib.hid rfl, Lib.hid (Bel.refl _)⟩
  case round =>
   obtain ⟨k, hk, rfl, hs, hb⟩ := hrel
   rename World => W0
   by_cases hlt : k < n
   ·have hkx : k < xs.length := by omega
    have hky : k < ys.length := by omega
    obtain ⟨a, rfl, hc⟩ := (HA.out.on hb.out).2 k hkx
    obtain ⟨b, rfl, hd⟩ := (HB.out.on hb.out).2 k hky
    have hst : Hid (xs[k] = ys[k] → xs.take (k + 1) = ys.take (k + 1)) := Lib.hid (fun h => by rw [List.take_succ_eq_append_getElem hkx, List.take_succ_eq_append_getElem hky, hs.out, h])
    have hne : Hid (xs[k] ≠ ys[k] → xs ≠ ys) := Lib.hid (fun h e => h (by subst e; rfl))
    obtain ⟨x, hxe⟩ : ∃ x, xs[k] = x := ⟨_, rfl⟩
    obtain ⟨y, hye⟩ : ∃ y, ys[k] = y := ⟨_, rfl⟩
    rw [hxe] at hc hst hne
    rw [hye] at hd hst hne
    have i1 : (k : Int) < (n : Int) := by omega
    have G := hb.out
    clear hb hxe hye hs
    go_wp2_with fail
    go_quiet (fail)
    clear i1
    have GG := Lib.hid (Bel.drewN G nq)
    clear G
    generalize hq : (x.toList == y.toList) = t
    cases t
    ·have hz := Lib.hid (hne.out (fun h => by rw [h] at hq; simp at hq))
     clear hq hst hne
     go_wp2_with fail
     go_ret
     exact ⟨⟨false, ⟨fun h => (by cases h), fun h => absurd h hz.out⟩, rfl⟩, GG.out⟩
    ·have hxy : x = y := Idn.eq_of_lists hq
     have hz := Lib.hid (hst.out hxy)
     clear hq hxy hst hne
     go_wp2_with fail
     go_round
     case rel => exact ⟨k + 1, by omega, by go_num, hz, GG⟩
     case measure => first | (simp [intOf]; done) | (simp [intOf]; omega)
   ·obtain rfl : k = n := by omega
    have he := hs.out
    rw [List.take_of_length_le (by omega), List.take_of_length_le (by omega)] at he
    have he' := Lib.hid he
    clear he hs
    go_wp2_with fail
    go_ret
    exact ⟨⟨true, ⟨fun _ => he'.out, fun _ => rfl⟩, rfl⟩, hb.out⟩
 ·have hne : Hid (xs ≠ ys) := Lib.hid (fun h => hnm (by rw [← hlx, ← hly, h]))
  have hnm' : ((n : Int) = (m : Int)) = False := eq_false (by omega)
  go_enter Tryz.func25, Tryz.ntmps25
  go_wp2_with fail
  go_ret
  exact ⟨⟨false, ⟨fun h => (by cases h), fun h => absurd h hne.out⟩, rfl⟩, Bel.refl _⟩
end Syn
end Go.Proofs.YtcapkeaedpabjaaGreatDoor

/-
 Layer 9: the law Slots.
-/
namespace Go.Proofs.YtcapkeaedpabjaaGreatDoor
open Go.RowKit Go.ChangeShapes Go.WideShapes
namespace Syn
theorem opsN_len2 : ∀ L : List Nd, (opsN L).length ≤ L.length
 | [] => Nat.le_refl _
 | x :: r => by
  have := opsN_len2 r
  rw [opsN]
  split
  ·rw [List.length_cons, List.length_cons]; omega
  ·rw [List.length_cons]; omega
theorem opsE_len (R : Rs) (L : List Nd) : (opsE R L).length ≤ L.length := by
 unfold opsE
 split
 ·exact Nat.zero_le _
 ·have h2 := Idn.srt_len ((opsN L).map ByteArray.toList) ((opsN L).map ByteArray.toList).length (Nat.le_refl _)
  rw [List.take_length, List.length_map] at h2
  exact Nat.le_trans h2 (opsN_len2 L)
theorem texts_inj {xs ys : List ByteArray} (h : xs.map ByteArray.toList = ys.map ByteArray.toList) : xs = ys := by
 refine List.map_inj_right (f := ByteArray.toList) (fun x y e => ?_) |>.1 h
 exact Idn.eq_of_lists (by rw [e]; simp)
set_option maxRecDepth 100000 in
set_option maxHeartbeats 16000000 in
theorem law_slots9 (no fo : Option Addr) (n nc k fc : Nat) (L : List Nd) (F : List Fw) (hn : n ≤ 4611686018427387904) (hk : k ≤ 4611686018427387904) (f : Int) (w : World) (hm : Lex.ML w) (hA : NArg w no n L) (hF : FArg w fo k F) (hr : Rch L F) :
  Calls Tryz.prog 6 #[.agg #[.slice no n nc, .slice fo k fc], .int .i64 f] w fun e w' => e = .returned (.bool true) ∧ Bel w w' := by
 obtain ⟨V, hV⟩ : ∃ V, w.alloc (.cells #[.slice no n nc, .slice fo k fc] 25) = V := ⟨_, rfl⟩
 have BV : Bel w V := by rw [← hV]; exact Bel.alloc (Bel.refl _) _
 obtain ⟨v0, v1⟩ : V.cell? ⟨w.heap.size, 0, none⟩ = some (.slice no n nc) ∧ V.cell? ⟨w.heap.size, 1, none⟩ = some (.slice fo k fc) := by
  rw [← hV]
  exact ⟨World.cell?_alloc_new .., World.cell?_alloc_new ..⟩
 have hLn := hA.1
 have hFk := hF.1
 have HBV := Lib.hid BV
 have HVe := Lib.hid hV
 have HP := Lib.hid (show ∀ W, Bel V W → W.cell? ⟨w.heap.size, 0, none⟩ = some (.slice no n nc) ∧ W.cell? ⟨w.heap.size, 1, none⟩ = some (.slice fo k fc) from fun W g => ⟨g.cell' v0, g.cell' v1⟩)
 have HW := Lib.hid (fun W (g : Bel V W) => awake9_any W ((hm.on BV).on g))
 have HS := Lib.hid (small_any no fo n nc k fc L F hn hk V (hA.on BV) (hF.on BV) hr.wf (fun x hx => (hr.fn x hx).1))
 have HO := Lib.hid (fun (hs : SmallP L F) W (g : Bel V W) => slots_any no fo n nc k fc L F (fit_small3 hs hr hLn hFk) W ((hm.on BV).on g) ((hA.on BV).on g) ((hF.on BV).on g))
 have HR := Lib.hid (fun (hs : SmallP L F) W (g : Bel V W) => rslots_any no fo n nc k fc L F (fit_small3 hs hr hLn hFk) hr W ((hA.on BV).on g) ((hF.on BV).on g))
 have HL := Lib.hid (fun (hs : SmallP L F) W (g : Bel V W) => locals_any no fo n nc k fc L F (fit_small3 hs hr hLn hFk) f W ((hm.on BV).on g) ((hA.on BV).on g) ((hF.on BV).on g))
 have HM := Lib.hid (fun (hs : SmallP L F) W (g : Bel V W) => rlocals_any no fo n nc k fc L F (fit_small3 hs hr hLn hFk) hr f W ((hA.on BV).on g) ((hF.on BV).on g))
 have HOp := Lib.hid (fun (hs : SmallP L F) W (g : Bel V W) => ops_any no fo n nc k fc L F (fit_small3 hs hr hLn hFk) W ((hm.on BV).on g) ((hA.on BV).on g) ((hF.on BV).on g))
 have HOq := Lib.hid (fun (hs : SmallP L F) W (g : Bel V W) => rops_any no fo n nc k fc L F (fit_small3 hs hr hLn hFk) hr W ((hA.on BV).on g) ((hF.on BV).on g))
 have Hsl := Lib.hid (show SmallP L F → (resG L F).sl.length ≤ 200 from fun hs => by
  by_cases he : (resG L F).er = 0
  ·rw [(res_ok he).1]; exact hs.hn
  ·rw [resG_er he]; exact Nat.zero_le _)
 have Hop := Lib.hid (show SmallP L F → (opsE (resG L F) L).length ≤ 200 from fun hs => Nat.le_trans (opsE_len _ L) hs.hn)
 generalize opsE (resG L F) L = D at *
 generalize locE (resG L F) k f = le at *
 generalize resG L F = R at *
 obtain ⟨sl, lo, pos, er⟩ := R
 obtain ⟨l1, l2⟩ := le
 dsimp only at HO HR HL HM Hsl
 clear hA hF hr hm BV hV v0 v1 hLn hFk
 go_enter Tryz.func6, Tryz.ntmps6
 go_wp2_with fail
 rw [HVe.out]
 refine HS.out.mono ?_
 rintro e w1 ⟨bs, rfl, hsm, g⟩
 have G1 := Lib.hid g
 obtain ⟨x0, x1⟩ := HP.out w1 g
 clear g
 cases bs with
 | false =>
  go_wp2_with fail
  refine (HW.out _ G1.out).mono ?_
  rintro e w2 ⟨rfl, g⟩
  go_wp2_with fail
  go_ret
  exact ⟨rfl, Bel.trans HBV.out (Bel.trans G1.out g)⟩
 | true =>
 have hs := Lib.hid (hsm rfl)
 clear hsm
 go_wp2_with fail
 refine (HO.out hs.out _ G1.out).mono ?_
 rintro e w2 ⟨a1, m1, c1, rfl, hr1, g⟩
 have G2 := Lib.hid (Bel.trans G1.out g)
 have R1 := Lib.hid hr1
 clear g x0 x1 hr1
 obtain ⟨x0, x1⟩ := HP.out w2 G2.out
 go_wp2_with fail
 refine (HR.out hs.out _ G2.out).mono ?_
 rintro e w3 ⟨a2, m2, c2, rfl, hr2, g⟩
 have G3 := Lib.hid (Bel.trans G2.out g)
 have R13 := Lib.hid (R1.out.on g)
 have R2 := Lib.hid hr2
 clear g x0 x1 hr2
 obtain ⟨x0, x1⟩ := HP.out w3 G3.out
 go_wp2_with fail
 refine (HL.out hs.out _ G3.out).mono ?_
 rintro e w4 ⟨rfl, g⟩
 have G4 := Lib.hid (Bel.trans G3.out g)
 have R14 := Lib.hid (R13.out.on g)
 have R24 := Lib.hid (R2.out.on g)
 clear g x0 x1
 obtain ⟨x0, x1⟩ := HP.out w4 G4.out
 go_wp2_with fail
 refine (HM.out hs.out _ G4.out).mono ?_
 rintro e w5 ⟨rfl, g⟩
 have G5 := Lib.hid (Bel.trans G4.out g)
 have R15 := Lib.hid (R14.out.on g)
 have R25 := Lib.hid (R24.out.on g)
 clear g x0 x1
 obtain ⟨x0, x1⟩ := HP.out w5 G5.out
 have hm1 : m1 ≤ 200 := by have h1 := R15.out.1; have h2 := Hsl.out hs.out; omega
 have hm2 : m2 ≤ 200 := by have h1 := R25.out.1; have h2 := Hsl.out hs.out; omega
 have HEq := Lib.hid (fun W (g : Bel w5 W) => equal9_any a1 a2 m1 m2 c1 c2 sl sl (by omega) (by omega) W (R15.out.on g) (R25.out.on g))
 rw [decide_eq_true rfl] at HEq
 go_wp2_with fail
 refine wp_region_held_drew (S := fun W => W.cell? ⟨w.heap.size, 0, none⟩ = some (.slice no n nc) ∧ W.cell? ⟨w.heap.size, 1, none⟩ = some (.slice fo k fc)) (by kernel_rfl) ⟨x0, x1⟩ (fun hH => ?_)
 refine take_yes (i := 0) (d := 39) (v := ?_) rfl rfl (by kernel_rfl) (by kernel_rfl) (by kernel_rfl) (fun _ _ _ h => h) (by rfl) ?_ (by assumption) ?_
 rotate_left 1
 ·intro w hSw
  obtain ⟨z0, z1⟩ := hSw
  go_simp
  with_reducible rfl
 try simp only [Act.put, List.setIfInBounds_toArray, List.set_cons_zero, List.set_cons_succ]
 refine take_yes (i := 1) (d := 40) (v := ?_) rfl rfl (by kernel_rfl) (by kernel_rfl) (by kernel_rfl) (fun _ _ _ h => h) (by rfl) ?_ (by assumption) ?_
 rotate_left 1
 ·intro w hSw
  obtain ⟨z0, z1⟩ := hSw
  go_simp
  with_reducible rfl
 try simp only [Act.put, List.setIfInBounds_toArray, List.set_cons_zero, List.set_cons_succ]
 refine wpAnyH_ready (rs := [2]) (by kernel_rfl) (by simp) ?_
 refine AllReadyH.cons rfl (fun K hK => ?_) AllReadyH.nil
 go_simp
 refine (HEq.out _ (Below.drew (Bel.refl _))).mono ?_
 rintro e w6 ⟨rfl, g⟩
 have G6 := Lib.hid (Bel.trans (Below.drew G5.out) g)
 have sH := HP.out w6 G6.out
 clear g
 clear hH
 refine hK.out _ _ sH (fun hH => ?_)
 clear hK K sH
 try simp only [Act.put, List.setIfInBounds_toArray, List.set_cons_zero, List.set_cons_succ]
 refine take_yes (i := 3) (d := 42) (v := ?_) rfl rfl (by kernel_rfl) (by kernel_rfl) (by kernel_rfl) (fun _ _ _ h => h) (by rfl) ?_ (by assumption) ?_
 rotate_left 1
 ·intro w hSw
  obtain ⟨z0, z1⟩ := hSw
  go_simp
  with_reducible rfl
 try simp only [Act.put, List.setIfInBounds_toArray, List.set_cons_zero, List.set_cons_succ]
 refine take_yes (i := 4) (d := 43) (v := ?_) rfl rfl (by kernel_rfl) (by kernel_rfl) (by kernel_rfl) (fun _ _ _ h => h) (by rfl) ?_ (by assumption) ?_
 rotate_left 1
 ·intro w hSw
  obtain ⟨z0, z1⟩ := hSw
  go_simp
  with_reducible rfl
 try simp only [Act.put, List.setIfInBounds_toArray, List.set_cons_zero, List.set_cons_succ]
 refine take_yes (i := 5) (d := 44) (v := ?_) rfl rfl (by kernel_rfl) (by kernel_rfl) (by kernel_rfl) (fun _ _ _ h => h) (by rfl) ?_ (by assumption) ?_
 rotate_left 1
 ·intro w hSw
  obtain ⟨z0, z1⟩ := hSw
  go_simp
  with_reducible rfl
 try simp only [Act.put, List.setIfInBounds_toArray, List.set_cons_zero, List.set_cons_succ]
 refine take_yes (i := 6) (d := 45) (v := .bool true) rfl rfl (by kernel_rfl) (by kernel_rfl) (by kernel_rfl) (fun _ _ _ h => h) (by rfl) ?_ (by assumption) ?_
 ·intro w hSw
  obtain ⟨z0, z1⟩ := hSw
  go_simp
  try simp
 try simp only [Act.put, List.setIfInBounds_toArray, List.set_cons_zero, List.set_cons_succ]
 refine take_yes (i := 7) (d := 46) (v := ?_) rfl rfl (by kernel_rfl) (by kernel_rfl) (by kernel_rfl) (fun _ _ _ h => h) (by rfl) ?_ (by assumption) ?_
 rotate_left 1
 ·intro w hSw
  obtain ⟨z0, z1⟩ := hSw
  go_simp
  with_reducible rfl
 try simp only [Act.put, List.setIfInBounds_toArray, List.set_cons_zero, List.set_cons_succ]
 refine take_yes (i := 8) (d := 47) (v := ?_) rfl rfl (by kernel_rfl) (by kernel_rfl) (by kernel_rfl) (fun _ _ _ h => h) (by rfl) ?_ (by assumption) ?_
 rotate_left 1
 ·intro w hSw
  obtain ⟨z0, z1⟩ := hSw
  go_simp
  with_reducible rfl
 try simp only [Act.put, List.setIfInBounds_toArray, List.set_cons_zero, List.set_cons_succ]
 refine take_yes (i := 9) (d := 48) (v := ?_) rfl rfl (by kernel_rfl) (by kernel_rfl) (by kernel_rfl) (fun _ _ _ h => h) (by rfl) ?_ (by assumption) ?_
 rotate_left 1
 ·intro w hSw
  obtain ⟨z0, z1⟩ := hSw
  go_simp
  with_reducible rfl
 try simp only [Act.put, List.setIfInBounds_toArray, List.set_cons_zero, List.set_cons_succ]
 refine take_yes (i := 10) (d := 49) (v := ?_) rfl rfl (by kernel_rfl) (by kernel_rfl) (by kernel_rfl) (fun _ _ _ h => h) (by rfl) ?_ (by assumption) ?_
 rotate_left 1
 ·intro w hSw
  obtain ⟨z0, z1⟩ := hSw
  go_simp
  with_reducible rfl
 try simp only [Act.put, List.setIfInBounds_toArray, List.set_cons_zero, List.set_cons_succ]
 refine take_yes (i := 11) (d := 50) (v := .bool true) rfl rfl (by kernel_rfl) (by kernel_rfl) (by kernel_rfl) (fun _ _ _ h => h) (by rfl) ?_ (by assumption) ?_
 ·intro w hSw
  obtain ⟨z0, z1⟩ := hSw
  go_simp
  try simp
 try simp only [Act.put, List.setIfInBounds_toArray, List.set_cons_zero, List.set_cons_succ]
 refine take_yes (i := 12) (d := 51) (v := ?_) rfl rfl (by kernel_rfl) (by kernel_rfl) (by kernel_rfl) (fun _ _ _ h => h) (by rfl) ?_ (by assumption) ?_
 rotate_left 1
 ·intro w hSw
  obtain ⟨z0, z1⟩ := hSw
  go_simp
  with_reducible rfl
 try simp only [Act.put, List.setIfInBounds_toArray, List.set_cons_zero, List.set_cons_succ]
 refine take_yes (i := 13) (d := 52) (v := ?_) rfl rfl (by kernel_rfl) (by kernel_rfl) (by kernel_rfl) (fun _ _ _ h => h) (by rfl) ?_ (by assumption) ?_
 rotate_left 1
 ·intro w hSw
  obtain ⟨z0, z1⟩ := hSw
  go_simp
  with_reducible rfl
 try simp only [Act.put, List.setIfInBounds_toArray, List.set_cons_zero, List.set_cons_succ]
 refine take_yes (i := 14) (d := 53) (v := ?_) rfl rfl (by kernel_rfl) (by kernel_rfl) (by kernel_rfl) (fun _ _ _ h => h) (by rfl) ?_ (by assumption) ?_
 rotate_left 1
 ·intro w hSw
  obtain ⟨z0, z1⟩ := hSw
  go_simp
  with_reducible rfl
 try simp only [Act.put, List.setIfInBounds_toArray, List.set_cons_zero, List.set_cons_succ]
 refine take_yes (i := 15) (d := 54) (v := ?_) rfl rfl (by kernel_rfl) (by kernel_rfl) (by kernel_rfl) (fun _ _ _ h => h) (by rfl) ?_ (by assumption) ?_
 rotate_left 1
 ·intro w hSw
  obtain ⟨z0, z1⟩ := hSw
  go_simp
  with_reducible rfl
 try simp only [Act.put, List.setIfInBounds_toArray, List.set_cons_zero, List.set_cons_succ]
 refine take_yes (i := 16) (d := 55) (v := .bool true) rfl rfl (by kernel_rfl) (by kernel_rfl) (by kernel_rfl) (fun _ _ _ h => h) (by rfl) ?_ (by assumption) ?_
 ·intro w hSw
  obtain ⟨z0, z1⟩ := hSw
  go_simp
  try simp
 try simp only [Act.put, List.setIfInBounds_toArray, List.set_cons_zero, List.set_cons_succ]
 refine take_yes (i := 17) (d := 56) (v := ?_) rfl rfl (by kernel_rfl) (by kernel_rfl) (by kernel_rfl) (fun _ _ _ h => h) (by rfl) ?_ (by assumption) ?_
 rotate_left 1
 ·intro w hSw
  obtain ⟨z0, z1⟩ := hSw
  go_simp
  with_reducible rfl
 try simp only [Act.put, List.setIfInBounds_toArray, List.set_cons_zero, List.set_cons_succ]
 refine take_yes (i := 18) (d := 57) (v := ?_) rfl rfl (by kernel_rfl) (by kernel_rfl) (by kernel_rfl) (fun _ _ _ h => h) (by rfl) ?_ (by assumption) ?_
 rotate_left 1
 ·intro w hSw
  obtain ⟨z0, z1⟩ := hSw
  go_simp
  with_reducible rfl
 try simp only [Act.put, List.setIfInBounds_toArray, List.set_cons_zero, List.set_cons_succ]
 refine take_yes (i := 19) (d := 58) (v := ?_) rfl rfl (by kernel_rfl) (by kernel_rfl) (by kernel_rfl) (fun _ _ _ h => h) (by rfl) ?_ (by assumption) ?_
 rotate_left 1
 ·intro w hSw
  obtain ⟨z0, z1⟩ := hSw
  go_simp
  with_reducible rfl
 try simp only [Act.put, List.setIfInBounds_toArray, List.set_cons_zero, List.set_cons_succ]
 refine take_yes (i := 21) (d := 60) (v := ?_) rfl rfl (by kernel_rfl) (by kernel_rfl) (by kernel_rfl) (fun _ _ _ h => h) (by rfl) ?_ (by assumption) ?_
 rotate_left 1
 ·intro w hSw
  obtain ⟨z0, z1⟩ := hSw
  go_simp
  with_reducible rfl
 try simp only [Act.put, List.setIfInBounds_toArray, List.set_cons_zero, List.set_cons_succ]
 refine wpAnyH_ready (rs := [20]) (by kernel_rfl) (by simp) ?_
 refine AllReadyH.cons rfl (fun K hK => ?_) AllReadyH.nil
 go_simp
 refine (HOp.out hs.out _ G6.out).mono ?_
 rintro e w7 ⟨o1, p1, d1, xs, rfl, hx, hxr, g⟩
 have G7 := Lib.hid (Bel.trans G6.out g)
 have Hx := Lib.hid hx
 have Hxr := Lib.hid hxr
 have sH := HP.out w7 G7.out
 clear g hx hxr
 clear hH
 refine hK.out _ _ sH (fun hH => ?_)
 clear hK K sH
 try simp only [Act.put, List.setIfInBounds_toArray, List.set_cons_zero, List.set_cons_succ]
 refine wpAnyH_ready (rs := [22]) (by kernel_rfl) (by simp) ?_
 refine AllReadyH.cons rfl (fun K hK => ?_) AllReadyH.nil
 go_simp
 refine (HOq.out hs.out _ G7.out).mono ?_
 rintro e w8 ⟨o2, p2, d2, ys, rfl, hy, hyr, g⟩
 have G8 := Lib.hid (Bel.trans G7.out g)
 obtain rfl : xs = ys := texts_inj (Hx.out.trans hy.symm)
 have HT := Lib.hid (texts9_any o1 o2 p1 p2 d1 d2 xs xs w8 (Hxr.out.on g) hyr (by have h1 := Hxr.out.1; have h2 := Hop.out hs.out; have h3 := congrArg List.length hy; rw [List.length_map] at h3; omega) (by have h1 := hyr.1; have h2 := Hop.out hs.out; have h3 := congrArg List.length hy; rw [List.length_map] at h3; omega))
 have sH := HP.out w8 G8.out
 clear g hy hyr
 clear hH
 refine hK.out _ _ sH (fun hH => ?_)
 clear hK K sH
 try simp only [Act.put, List.setIfInBounds_toArray, List.set_cons_zero, List.set_cons_succ]
 refine wpAnyH_ready (rs := [23]) (by kernel_rfl) (by simp) ?_
 refine AllReadyH.cons rfl (fun K hK => ?_) AllReadyH.nil
 go_simp
 refine (HT.out).mono ?_
 rintro e w9 ⟨⟨b, hb, rfl⟩, g⟩
 obtain rfl : b = true := hb.2 rfl
 have G9 := Lib.hid (Bel.trans G8.out g)
 have sH := HP.out w9 G9.out
 clear g hb
 clear hH
 refine hK.out _ _ sH (fun hH => ?_)
 clear hK K sH
 try simp only [Act.put, List.setIfInBounds_toArray, List.set_cons_zero, List.set_cons_succ]
 refine take_yes (i := 24) (d := 63) (v := ?_) rfl rfl (by kernel_rfl) (by kernel_rfl) (by kernel_rfl) (fun _ _ _ h => h) (by rfl) ?_ (by assumption) ?_
 rotate_left 1
 ·intro w hSw
  obtain ⟨z0, z1⟩ := hSw
  go_simp
  with_reducible rfl
 try simp only [Act.put, List.setIfInBounds_toArray, List.set_cons_zero, List.set_cons_succ]
 refine take_yes (i := 25) (d := 64) (v := ?_) rfl rfl (by kernel_rfl) (by kernel_rfl) (by kernel_rfl) (fun _ _ _ h => h) (by rfl) ?_ (by assumption) ?_
 rotate_left 1
 ·intro w hSw
  obtain ⟨z0, z1⟩ := hSw
  go_simp
  with_reducible rfl
 try simp only [Act.put, List.setIfInBounds_toArray, List.set_cons_zero, List.set_cons_succ]
 refine wpAnyH_ready (rs := [26]) (by kernel_rfl) (by simp) ?_
 refine AllReadyH.cons rfl (fun K hK => ?_) AllReadyH.nil
 go_simp
 refine (HW.out _ G9.out).mono ?_
 rintro e wa ⟨rfl, g⟩
 have Ga := Lib.hid (Bel.trans G9.out g)
 have sH := HP.out wa Ga.out
 clear g
 clear hH
 refine hK.out _ _ sH (fun hH => ?_)
 clear hK K sH
 try simp only [Act.put, List.setIfInBounds_toArray, List.set_cons_zero, List.set_cons_succ]
 refine take_yes (i := 27) (d := 66) (v := ?_) rfl rfl (by kernel_rfl) (by kernel_rfl) (by kernel_rfl) (fun _ _ _ h => h) (by rfl) ?_ (by assumption) ?_
 rotate_left 1
 ·intro w hSw
  obtain ⟨z0, z1⟩ := hSw
  go_simp
  with_reducible rfl
 try simp only [Act.put, List.setIfInBounds_toArray, List.set_cons_zero, List.set_cons_succ]
 refine take_yes (i := 28) (d := 4) (v := ?_) rfl rfl (by kernel_rfl) (by kernel_rfl) (by kernel_rfl) (fun _ _ _ h => h) (by rfl) ?_ (by assumption) ?_
 rotate_left 1
 ·intro w hSw
  obtain ⟨z0, z1⟩ := hSw
  go_simp
  with_reducible rfl
 try simp only [Act.put, List.setIfInBounds_toArray, List.set_cons_zero, List.set_cons_succ]
 refine wpAnyH_done (by kernel_rfl) ?_ _
 clear hH
 go_wp2_with fail
 go_ret
 exact ⟨rfl, Bel.trans HBV.out Ga.out⟩
end Syn
end Go.Proofs.YtcapkeaedpabjaaGreatDoor
