/-
  Layer 8, texts merged: SuI, SuJ. For every argument within the bounds that each theorem names.
-/
import Derived.Test.YtcapkeaedpabjaaGreatDoorWL3
import Derived.Test.YtcapkeaedpabjaaGreatDoorWK2

/-
 Layer 9: the variables of all functions.
-/
namespace Go.Proofs.YtcapkeaedpabjaaGreatDoor
open Go.RowKit Go.ChangeShapes Go.WideShapes Go.Maps
namespace Syn
/-- What resolve answers; its rows lie in blocks of their own. -/
def ResPost (w : World) (R : Rs) (e : Ending) (w' : World) : Prop :=
 Bel w w' ∧ ∃ (a1 a2 : Option Addr) (m1 c1 m2 c2 : Nat), e = .returned (.tuple #[.agg #[.slice a1 m1 c1, .slice a2 m2 c2], .int .i64 R.pos, .int .i64 R.er]) ∧ ∀ W, Mod (fun b => b < w.heap.size) w' W → RArg W a1 m1 R.sl ∧ RArg W a2 m2 R.lo
theorem rarg_nil (w : World) : RArg w none 0 [] := ⟨rfl, fun h => absurd h (Nat.lt_irrefl 0)⟩
theorem two_cells {w1 : World} {G : Nat} {u0 u1 : Value} (x0 x1 : Value) (z0 : w1.cell? ⟨G, 0, none⟩ = some u0) (z1 : w1.cell? ⟨G, 1, none⟩ = some u1) :
  ((w1.setCell ⟨G, 0, none⟩ x0).setCell ⟨G, 1, none⟩ x1).cell? ⟨G, 0, none⟩ = some x0 ∧ ((w1.setCell ⟨G, 0, none⟩ x0).setCell ⟨G, 1, none⟩ x1).cell? ⟨G, 1, none⟩ = some x1 := by
 have a0 := World.cell?_setCell_same w1 ⟨G, 0, none⟩ x0 z0
 have a1 := World.cell?_setCell_same (w1.setCell ⟨G, 0, none⟩ x0) ⟨G, 1, none⟩ x1 ((World.cell?_setCell_other w1 ⟨G, 0, none⟩ ⟨G, 1, none⟩ _ (by simp)).trans z1)
 exact ⟨(World.cell?_setCell_other (w1.setCell ⟨G, 0, none⟩ x0) ⟨G, 1, none⟩ ⟨G, 0, none⟩ x1 (by simp)).trans a0, a1⟩
theorem two_mod (w1 : World) (G : Nat) (x0 x1 : Value) : Mod (fun b => b = G) w1 ((w1.setCell ⟨G, 0, none⟩ x0).setCell ⟨G, 1, none⟩ x1) :=
 ((Mod.refl (fun b => b = G) w1).setCell (p := ⟨G, 0, none⟩) (Or.inl rfl) _).setCell (p := ⟨G, 1, none⟩) (Or.inl rfl) _
theorem res_er {w w1 : World} {G : Nat} (p e : Int) (B : Bel w w1) (hG : w.heap.size ≤ G) :
  ResPost w ⟨[], [], p, e⟩ (.returned (.tuple #[.agg #[.slice none 0 0, .slice none 0 0], .int .i64 p, .int .i64 e])) ((w1.setCell ⟨G, 0, none⟩ (.slice none 0 0)).setCell ⟨G, 1, none⟩ (.slice none 0 0)) :=
 ⟨Mod.bel_of B (two_mod w1 G _ _) (fun i h => by omega), none, none, 0, 0, 0, 0, rfl, fun W _ => ⟨rarg_nil W, rarg_nil W⟩⟩
def nextR (L : List Nd) (F r : List Fw) (z : Nat) (lo : List Int) : (Sc × List Int) ⊕ (Int × Int) → Rs
 | .inl q => runF L (wantI F) r (z + 1) q.2 (lo ++ [(q.1.cnt : Int)])
 | .inr q => ⟨[], [], q.1, q.2⟩
theorem run_cons_ok {L : List Nd} {W : Nd → Int} {x : Nd} {r : List Nd} {i : Nat} {s s' : Sc} {sl : List Int} {v : Int} (h : visP L W s x = (s', v, 0)) : runN L W (x :: r) i s sl = runN L W r (i + 1) s' (sl ++ [v]) := by
 rw [runN, h, if_pos rfl]
theorem run_cons_er {L : List Nd} {W : Nd → Int} {x : Nd} {r : List Nd} {i : Nat} {s s' : Sc} {sl : List Int} {v e : Int} (h : visP L W s x = (s', v, e)) (he : e ≠ 0) : runN L W (x :: r) i s sl = .inr ((i : Int), e) := by
 rw [runN, h, if_neg he]
/-- The two slices of what is found, in a block. -/
structure FdAt (w : World) (fb : Nat) (a1 : Option Addr) (m1 c1 : Nat) (a2 : Option Addr) (m2 c2 : Nat) : Prop where
 c0 : w.cell? ⟨fb, 0, none⟩ = some (.slice a1 m1 c1)
 c1 : w.cell? ⟨fb, 1, none⟩ = some (.slice a2 m2 c2)
 f0 : w.frozen? ⟨fb, 0, none⟩ = false
 f1 : w.frozen? ⟨fb, 1, none⟩ = false
theorem FdAt.on {w w' : World} {fb : Nat} {a1 a2 : Option Addr} {m1 c1 m2 c2 : Nat} {F : Nat → Prop} (h : FdAt w fb a1 m1 c1 a2 m2 c2) (g : Mod F w w') (hF : ¬ F fb) : FdAt w' fb a1 m1 c1 a2 m2 c2 :=
 ⟨g.cell h.c0 hF, g.cell h.c1 hF, (mod_froz g h.c0 hF).trans h.f0, (mod_froz g h.c1 hF).trans h.f1⟩
theorem FdAt.set0 {w : World} {fb : Nat} {a1 a2 : Option Addr} {m1 c1 m2 c2 : Nat} (h : FdAt w fb a1 m1 c1 a2 m2 c2) (b1 : Option Addr) (n1 d1 : Nat) : FdAt (w.setCell ⟨fb, 0, none⟩ (.slice b1 n1 d1)) fb b1 n1 d1 a2 m2 c2 :=
 ⟨World.cell?_setCell_same _ _ _ h.c0, (World.cell?_setCell_other _ _ _ _ (by simp)).trans h.c1, by rw [World.frozen?_setCell]; exact h.f0, by rw [World.frozen?_setCell]; exact h.f1⟩
theorem FdAt.set1 {w : World} {fb : Nat} {a1 a2 : Option Addr} {m1 c1 m2 c2 : Nat} (h : FdAt w fb a1 m1 c1 a2 m2 c2) (b2 : Option Addr) (n2 d2 : Nat) : FdAt (w.setCell ⟨fb, 1, none⟩ (.slice b2 n2 d2)) fb a1 m1 c1 b2 n2 d2 :=
 ⟨(World.cell?_setCell_other _ _ _ _ (by simp)).trans h.c0, World.cell?_setCell_same _ _ _ h.c1, by rw [World.frozen?_setCell]; exact h.f0, by rw [World.frozen?_setCell]; exact h.f1⟩
theorem rwb_grow2 {S : Nat → Prop} {base : Nat} {Y w' : World} {m1 c1 m2 c2 gg cap : Nat} {a1 a2 : Option Addr} {p1 p2 : List Int} {x : Int} (hR : Rwb S base Y a1 m1 c1 p1 a2 m2 c2 p2) (ho : w'.ownsRow base 3 1 (.slice (some ⟨gg, 0, none⟩) (m2 + 1) cap) (m2 + 1) (encZ p2 ++ [.int .i64 x])) (hg : Y.grownBy w' (Value.slice a2 m2 c2).ownBlock)
  (hat : (Value.slice a2 m2 c2).ownBlock = some gg ∨ gg = Y.heap.size) (hS : ∀ i, Y.heap.size ≤ i → ¬ S i) : Rwb S base w' a1 m1 c1 p1 (some ⟨gg, 0, none⟩) (m2 + 1) cap (p2 ++ [x]) ∧ Mod (fun b => base ≤ b ∧ ¬ S b) Y w' := by
 obtain ⟨hV, h1, hd, hd2⟩ := hR.swap
 obtain ⟨h1, hV, hd, hd2⟩ := hR.swap
 have hne : (Value.slice a1 m1 c1).ownBlock = none ∨ (Value.slice a1 m1 c1).ownBlock ≠ (Value.slice a2 m2 c2).ownBlock := by
  cases hv : (Value.slice a2 m2 c2).ownBlock with
  | none =>
   cases hw : (Value.slice a1 m1 c1).ownBlock with
   | none => exact .inl rfl
   | some q => exact .inr (by simp)
  | some q => exact .inr (hd q hv).1
 have e0 : (Value.slice (some ⟨gg, 0, none⟩) (m2 + 1) cap).ownBlock = some gg := rfl
 refine ⟨Rwb.swap ⟨by rw [show encZ (p2 ++ [x]) = encZ p2 ++ [.int .i64 x] by simp [encZ]]; exact ho, hV.kept hg hne, fun q e => ?_, hd2⟩, Mod.grown hg (fun i e => ⟨(h1.lt i e).1, (hd i e).2⟩)⟩
 rw [e0] at e
 obtain rfl := Option.some.inj e
 rcases hat with hat | hat
 ·exact hd _ hat
 ·rw [hat]
  exact ⟨fun hv => by have := (hV.lt _ hv).2; omega, hS _ (Nat.le_refl _)⟩
set_option maxRecDepth 100000 in
set_option maxHeartbeats 8000000 in
theorem resolveNodes_any (no fo : Option Addr) (n nc k fc : Nat) (L : List Nd) (F : List Fw) (hn : n ≤ 50000) (hk : k ≤ 1000) (w : World) (hA : NArg w no n L) (hF : FArg w fo k F)
  (hkd : ∀ x ∈ L, ∀ z ∈ x.kids, 0 ≤ z ∧ z < (n : Int)) (hnd : ∀ x ∈ L, x.s.length ≤ 140737488355328 ∧ x.kids.length ≤ 100000) (hps : ∀ x ∈ F, x.params.length ≤ 1000 ∧ ∀ p ∈ x.params, p.length ≤ 140737488355328) (hasc : Asc n 0 F) :
  Calls Tryz.prog 100 #[.agg #[.slice no n nc, .slice fo k fc]] w (ResPost w (runF L (wantI F) F 0 [] [])) := by
 obtain ⟨X, hX⟩ : ∃ X, runF L (wantI F) F 0 [] [] = X := ⟨_, rfl⟩
 rw [hX]
 obtain ⟨V1, hV1⟩ : ∃ V1, w.alloc (.cells #[.slice no n nc, .slice fo k fc] 25) = V1 := ⟨_, rfl⟩
 obtain ⟨V2, hV2⟩ : ∃ V2, V1.alloc (.cells #[.slice none 0 0, .slice none 0 0] 79) = V2 := ⟨_, rfl⟩
 obtain ⟨V, hV⟩ : ∃ V, V2.alloc (.cells #[.slice none 0 0, .slice none 0 0] 79) = V := ⟨_, rfl⟩
 have hz1 : V1.heap.size = w.heap.size + 1 := by rw [← hV1, alloc_szs]
 have hz2 : V2.heap.size = w.heap.size + 1 + 1 := by rw [← hV2, alloc_szs, hz1]
 have hz : V.heap.size = w.heap.size + 1 + 1 + 1 := by rw [← hV, alloc_szs, hz2]
 have B1 : Bel w V1 := by rw [← hV1]; exact Bel.alloc (Bel.refl _) _
 have B2 : Bel V1 V2 := by rw [← hV2]; exact Bel.alloc (Bel.refl _) _
 have B3 : Bel V2 V := by rw [← hV]; exact Bel.alloc (Bel.refl _) _
 obtain ⟨v0, v1⟩ : V.cell? ⟨w.heap.size, 0, none⟩ = some (.slice no n nc) ∧ V.cell? ⟨w.heap.size, 1, none⟩ = some (.slice fo k fc) :=
  ⟨B3.cell' (B2.cell' (by rw [← hV1]; exact World.cell?_alloc_new ..)), B3.cell' (B2.cell' (by rw [← hV1]; exact World.cell?_alloc_new ..))⟩
 obtain ⟨r0, r1⟩ : V.cell? ⟨w.heap.size + 1, 0, none⟩ = some (.slice none 0 0) ∧ V.cell? ⟨w.heap.size + 1, 1, none⟩ = some (.slice none 0 0) :=
  ⟨B3.cell' (by rw [← hV2, ← hz1]; exact World.cell?_alloc_new ..), B3.cell' (by rw [← hV2, ← hz1]; exact World.cell?_alloc_new ..)⟩
 have hR : V.frozen? ⟨w.heap.size + 1, 0, none⟩ = false ∧ V.frozen? ⟨w.heap.size + 1, 1, none⟩ = false := by
  have e0 : V2.cell? ⟨w.heap.size + 1, 0, none⟩ = some (.slice none 0 0) := by rw [← hV2, ← hz1]; exact World.cell?_alloc_new ..
  have e1 : V2.cell? ⟨w.heap.size + 1, 1, none⟩ = some (.slice none 0 0) := by rw [← hV2, ← hz1]; exact World.cell?_alloc_new ..
  exact ⟨(mod_froz (Mod.of_bel (F := fun _ => False) B3) e0 (fun h => h)).trans (by rw [← hV2, ← hz1]; exact World.frozen?_alloc_new ..), (mod_froz (Mod.of_bel (F := fun _ => False) B3) e1 (fun h => h)).trans (by rw [← hV2, ← hz1]; exact World.frozen?_alloc_new ..)⟩
 have hD : FdAt V (w.heap.size + 1 + 1) none 0 0 none 0 0 := by
  rw [← hV, ← hz2]
  exact ⟨World.cell?_alloc_new .., World.cell?_alloc_new .., World.frozen?_alloc_new .., World.frozen?_alloc_new ..⟩
 have HBV := Lib.hid (Bel.trans B1 (Bel.trans B2 B3))
 have HX := Lib.hid (show runF L (wantI F) (F.drop 0) 0 [] [] = X from hX)
 have HVe := Lib.hid (show ((w.alloc (.cells #[.slice no n nc, .slice fo k fc] 25)).alloc (.cells #[.slice none 0 0, .slice none 0 0] 79)).alloc (.cells #[.slice none 0 0, .slice none 0 0] 79) = V by rw [hV1, hV2, hV])
 have HA := Lib.hid hA
 have HF := Lib.hid hF
 have Hkd := Lib.hid hkd
 have Hnd := Lib.hid hnd
 have Hps := Lib.hid hps
 have Hasc := Lib.hid (show Asc n 0 (F.drop 0) from hasc)
 have HLn := Lib.hid hA.1
 have HFk := Lib.hid hF.1
 have HV0 := Lib.hid v0
 have HV1 := Lib.hid v1
 have HR0 := Lib.hid r0
 have HR1 := Lib.hid r1
 have HRf := Lib.hid hR
 have HD := Lib.hid hD
 have Hz := Lib.hid hz
 have Hlow := Lib.hid (show ∀ q (h : q < F.length), 0 ≤ F[q].body ∧ F[q].body < (n : Int) from fun q h => by have := lowOf_ok hasc q h; exact ⟨by omega, this.2⟩)
 clear hX B1 B2 B3 hA hF hkd hnd hps hasc v0 v1 r0 r1 hR hD hz hz1 hz2 hV1 hV2 hV
 go_enter Tryz.func100, Tryz.ntmps100
 go_wp2_with fail
 go_loopw [14] (fun iv wr => ∃ (q low c1 c2 : Nat) (a1 a2 : Option Addr) (sl lo : List Int), iv = .int .i64 (q : Int) ∧ q ≤ k ∧ low ≤ n ∧ Hid (Rwb (fun _ => False) V.heap.size wr a1 low c1 sl a2 q c2 lo) ∧ Hid (FdAt wr (w.heap.size + 1 + 1) a1 low c1 a2 q c2) ∧ Hid (Mod (fun b => b = w.heap.size + 1 + 1) V wr) ∧ Hid (runF L (wantI F) (F.drop q) low sl lo = X) ∧ Hid (Asc n low (F.drop q)) ∧ Hid (low = lowOf F q)) (fun iv _ => k - (intOf iv).toNat)
 case atStart => exact ⟨0, 0, 0, 0, none, none, [], [], rfl, Nat.zero_le _, Nat.zero_le _, Lib.hid (Rwb.nil _ _ _), Lib.hid (by rw [HVe.out]; exact HD.out), Lib.hid (by rw [HVe.out]; exact Mod.refl _ _), HX, Hasc, Lib.hid rfl⟩
 case round =>
  obtain ⟨q, low, c1, c2, a1, a2, sl, lo, rfl, hq, hlow, HR, HFd, HM, HX1, HAs, Hlo⟩ := hrel
  rename World => wr
  have HB := Lib.hid (Mod.bel_of HBV.out HM.out (fun i h => by omega))
  have v0 := HM.out.cell HV0.out (by show ¬ w.heap.size = w.heap.size + 1 + 1; omega)
  have v1 := HM.out.cell HV1.out (by show ¬ w.heap.size = w.heap.size + 1 + 1; omega)
  have hwz := HM.out.size
  rw [Hz.out] at hwz
  rcases Nat.lt_or_ge q k with hqk | hqk
  ·have hql : q < F.length := by rw [HFk.out]; exact hqk
   have hX1 := HX1.out
   have hAs := HAs.out
   rw [List.drop_eq_getElem_cons hql] at hX1 hAs
   obtain ⟨b, off, rfl, hcs⟩ := HF.out.2 (by omega)
   obtain ⟨⟨vs, po, pk, pc, vj⟩, hv, hcc⟩ := hcs q hql
   obtain ⟨f, hf⟩ : ∃ f, F[q] = f := ⟨_, rfl⟩
   have hfF : f ∈ F := by rw [← hf]; exact List.getElem_mem hql
   obtain ⟨hfp, hfs⟩ := Hps.out f hfF
   rw [hf] at hX1 hAs hv
   have d1 : wr.cell? ⟨b, off + q * 3 + 1, none⟩ = some (.slice po pk pc) := HB.out.cell' (by simpa using hcc 1 _ rfl)
   have d2 : w.cell? ⟨b, off + q * 3 + 2, none⟩ = some (.int .i64 f.body) := by have := hcc 2 _ rfl; rw [hv.j] at this; simpa using this
   have hpsA := hv.ps.on HB.out
   dsimp only at hpsA
   have hpk : pk ≤ 1000 := by have := hpsA.1; rw [List.length_map] at this; omega
   obtain ⟨as1, as2, as3⟩ := hAs
   obtain ⟨z, hzb⟩ : ∃ z : Nat, f.body = (z : Int) := ⟨f.body.toNat, by omega⟩
   rw [hzb] at d2 as1 as2
   rw [hzb, Int.toNat_natCast] at as3
   rw [runF, hzb, Int.toNat_natCast] at hX1
   obtain ⟨N0, hN0⟩ : ∃ N0, (L.drop low).take (z + 1 - low) = N0 := ⟨_, rfl⟩
   rw [hN0] at hX1
   have HX2 := Lib.hid (show nextR L F (F.drop (q + 1)) z lo (runN L (wantI F) N0 low (sc0 f.params) sl) = X from hX1)
   have HN0 := Lib.hid (show ∀ i, low ≤ i → i ≤ z → ∃ h : i < L.length, N0.drop (i - low) = L[i] :: N0.drop (i + 1 - low) from fun i h5 h6 => ⟨by rw [HLn.out]; omega, by
    have hh := HLn.out
    rw [← hN0, List.drop_take, List.drop_drop, show low + (i - low) = i by omega, List.drop_eq_getElem_cons (by omega), show z + 1 - low - (i - low) = (z - i) + 1 by omega, List.take_succ_cons, List.drop_take, List.drop_drop, show low + (i + 1 - low) = i + 1 by omega, show z + 1 - low - (i + 1 - low) = z - i by omega]⟩)
   have HN1 := Lib.hid (show N0.drop (z + 1 - low) = [] by rw [← hN0, List.drop_take]; simp)
   have HN2 := Lib.hid (show N0.drop (low - low) = N0 by rw [Nat.sub_self]; rfl)
   have HAs3 := Lib.hid as3
   have HNS := Lib.hid (newScope_any po pk pc f.params hpk hfs wr hpsA)
   have HD2 := Lib.hid d2
   have hqk' : (q : Int) < (k : Int) := by omega
   have hq0 : (0 : Int) ≤ (q : Int) := by omega
   have hFN := Lib.hid (fun W (g : Bel w W) => firstNode_any no (some ⟨b, off, none⟩) n nc k fc F (by omega) (by omega) Hlow.out q hqk W (HF.out.on g))
   rw [← Hlo.out] at hFN
   have Hlo2 := Lib.hid (show z + 1 = lowOf F (q + 1) by unfold lowOf; simp only; rw [List.getElem?_eq_getElem hql, hf]; simp only; rw [hzb, Int.toNat_natCast])
   have hcntp : (sc0 f.params).cnt ≤ 1000 := by rw [sc0_cnt]; exact hfp
   generalize sc0 f.params = s0 at *
   clear hcs hcc hv hf hX1 hN0 as3 hfF hfs hpsA
   go_wp2_with fail
   refine HNS.out.mono ?_
   rintro e w2 ⟨sb, mb, rfl, kS, kB, ksb, kmb⟩
   have hsm : sb ≠ w.heap.size + 1 + 1 ∧ mb ≠ w.heap.size + 1 + 1 ∧ w.heap.size + 1 + 1 + 1 ≤ sb ∧ w.heap.size + 1 + 1 + 1 ≤ mb := by omega
   obtain ⟨hsb, hmb, hsb3, hmb3⟩ := hsm
   have HB2 := Lib.hid (Bel.trans HB.out kB)
   have HM2 := Lib.hid (mod_end HM.out kB)
   have x0 := kB.cell' v0
   have x1 := kB.cell' v1
   have HS2 := Lib.hid kS
   have HR2 := Lib.hid ((HR.out.avoid (T := Of sb mb) (fun b hb h => by rcases h with h | h <;> omega)).on kB)
   have HF2 := Lib.hid (HFd.out.on (F := fun _ => False) (Mod.of_bel kB) (fun h => h))
   clear kS kB ksb kmb v0 v1 d1 d2
   go_wp2_with fail
   refine (hFN.out w2 HB2.out).mono ?_
   rintro e w3 ⟨rfl, g⟩
   have HB3 := Lib.hid (Bel.trans HB2.out g)
   have HM3 := Lib.hid (mod_end HM2.out g)
   have HS3 := Lib.hid (HS2.out.bel g)
   have HR3 := Lib.hid (HR2.out.on g)
   have HF3 := Lib.hid (HF2.out.on (F := fun _ => False) (Mod.of_bel g) (fun h => h))
   obtain ⟨Y3, hY3⟩ : ∃ Y3, runN L (wantI F) N0 low s0 sl = Y3 := ⟨_, rfl⟩
   have HY3 := Lib.hid (show runN L (wantI F) (N0.drop (low - low)) low s0 sl = Y3 by rw [HN2.out]; exact hY3)
   have HX3 := Lib.hid (show nextR L F (F.drop (q + 1)) z lo Y3 = X by rw [← hY3]; exact HX2.out)
   clear g hY3 x0 x1
   go_wp2_with fail
   go_loopw [8] (fun iv w5 => ∃ (i c1 : Nat) (a1 : Option Addr) (sl : List Int) (s : Sc), iv = .int .i64 (i : Int) ∧ low ≤ i ∧ i ≤ z + 1 ∧ Hid (Rwb (Of sb mb) V.heap.size w5 a1 i c1 sl a2 q c2 lo) ∧ Hid (FdAt w5 (w.heap.size + 1 + 1) a1 i c1 a2 q c2) ∧ Hid (ScAt w5 sb mb s) ∧ Hid (s.cnt ≤ 1000 + i) ∧ Hid (Mod (fun b => b = w.heap.size + 1 + 1) V w5) ∧ Hid (runN L (wantI F) (N0.drop (i - low)) i s sl = Y3)) (fun iv _ => z + 1 - (intOf iv).toNat)
   case atStart => exact ⟨low, c1, a1, sl, s0, rfl, Nat.le_refl _, by omega, HR3, HF3, HS3, Lib.hid (by omega), HM3, HY3⟩
   case round =>
    obtain ⟨i, c1, a1, sl, s, rfl, hil, hiz, HR5, HF5, HS5, Hc5, HM5, HY5⟩ := hrel
    rename World => w5
    have HB5 := Lib.hid (Mod.bel_of HBV.out HM5.out (fun i h => by omega))
    have v0 := HM5.out.cell HV0.out (by show ¬ w.heap.size = w.heap.size + 1 + 1; omega)
    have v1 := HM5.out.cell HV1.out (by show ¬ w.heap.size = w.heap.size + 1 + 1; omega)
    rcases Nat.lt_or_ge i (z + 1) with hi | hi
    ·obtain ⟨hiL, hN⟩ := HN0.out i hil (by omega)
     have hY := HY5.out
     rw [hN] at hY
     obtain ⟨nb, nf, rfl, hcs⟩ := HA.out.2 (by have := HLn.out; omega)
     obtain ⟨v, hv, hcc⟩ := hcs i hiL
     obtain ⟨x, hx⟩ : ∃ x, L[i] = x := ⟨_, rfl⟩
     have hxL : x ∈ L := by rw [← hx]; exact List.getElem_mem hiL
     rw [hx] at hv hY
     have hnb : nb < w.heap.size := World.block_lt_of_cell? w _ (hcc 0 _ rfl)
     have hjb : 0 < v.jn → ∀ o, v.jo = some o → o.block < w.heap.size := fun h0 o e => hv.lt (Or.inr ⟨o, e, h0, rfl⟩)
     obtain ⟨hxs, hxk⟩ := Hnd.out x hxL
     have hnof : ∀ t, t = w.heap.size ∨ t = nb → ¬ Of sb mb t := fun t ht h => by rcases ht with ht | ht <;> rcases h with h | h <;> omega
     have bD : Bel w w5.drew := Below.drew HB5.out
     have hjn : x.kids.length = v.jn := hv.kids.1
     have HVs := Lib.hid (visit_any sb mb (some ⟨nb, nf, none⟩) (some ⟨b, off, none⟩) n nc k fc L F x v s w5.drew (hv.on bD) (HS5.out.bel (Below.drew (Bel.refl _))) hxs (by have := Hc5.out; omega) (by omega) (fun x hx => by have := (Hps.out x hx).1; omega) (HF.out.on bD) (by omega) (Hkd.out x hxL) (fun x hx => (Hnd.out x hx).1) (HA.out.on bD) (fun _ o e => by cases e; exact ⟨by show nb ≠ sb; omega, by show nb ≠ mb; omega⟩) (fun h0 o e => by have := hjb h0 o e; exact ⟨by omega, by omega⟩))
     obtain ⟨s2, vv, er, hvis⟩ : ∃ s2 vv er, visP L (wantI F) s x = (s2, vv, er) := ⟨_, _, _, rfl⟩
     have hcn2 : s2.cnt ≤ s.cnt + 1 := by have := vis_cnt L (wantI F) s x; rw [hvis] at this; exact this
     unfold VisPost at HVs
     rw [hvis] at HVs
     have hvk := hv.k
     have hvs := hv.s
     have hvi := hv.i
     obtain ⟨vk, vs, vi, ko, kn, kc, jo, jn, jc⟩ := v
     dsimp only at hvk hvs hvi hjn
     subst hvk hvs hvi
     unfold nodV at HVs
     dsimp only at HVs
     have c0 : w5.cell? ⟨nb, nf + i * 5, none⟩ = some (.int .i64 x.k) := HB5.out.cell' (by simpa using hcc 0 _ rfl)
     have c1' : w5.cell? ⟨nb, nf + i * 5 + 1, none⟩ = some (.string ⟨x.s.toArray⟩) := HB5.out.cell' (by simpa using hcc 1 _ rfl)
     have c2' : w5.cell? ⟨nb, nf + i * 5 + 2, none⟩ = some (.int .i64 x.i) := HB5.out.cell' (by simpa using hcc 2 _ rfl)
     have c3 : w5.cell? ⟨nb, nf + i * 5 + 3, none⟩ = some (.slice ko kn kc) := HB5.out.cell' (by simpa using hcc 3 _ rfl)
     have c4 : w5.cell? ⟨nb, nf + i * 5 + 4, none⟩ = some (.slice jo jn jc) := HB5.out.cell' (by simpa using hcc 4 _ rfl)
     have d2 : w5.cell? ⟨b, off + q * 3 + 2, none⟩ = some (.int .i64 (z : Int)) := HB5.out.cell' HD2.out
     have hin : (i : Int) < (n : Int) := by have := HLn.out; omega
     have hi0 : (0 : Int) ≤ (i : Int) := by omega
     have hiz2 : (i : Int) ≤ (z : Int) := by omega
     have hsb5 : sb < w5.heap.size := World.block_lt_of_cell? w5 _ HS5.out.c0
     have hmb5 : mb < w5.heap.size := by obtain ⟨D, hD, -⟩ := HS5.out.map; exact hD.lt
     have HYs := Lib.hid hY
     have Hvis := Lib.hid hvis
     clear hcs hcc hv hx hxL hY hN hnb hjb bD hvis hxs hxk
     go_wp2_with fail
     refine wp_region_held_drew (S := fun W => W.cell? ⟨w.heap.size, 0, none⟩ = some (.slice (some ⟨nb, nf, none⟩) n nc) ∧ W.cell? ⟨w.heap.size, 1, none⟩ = some (.slice (some ⟨b, off, none⟩) k fc) ∧ W.cell? ⟨nb, nf + i * 5, none⟩ = some (.int .i64 x.k) ∧ W.cell? ⟨nb, nf + i * 5 + 1, none⟩ = some (.string ⟨x.s.toArray⟩) ∧ W.cell? ⟨nb, nf + i * 5 + 2, none⟩ = some (.int .i64 x.i) ∧ W.cell? ⟨nb, nf + i * 5 + 3, none⟩ = some (.slice ko kn kc) ∧ W.cell? ⟨nb, nf + i * 5 + 4, none⟩ = some (.slice jo jn jc)) (by kernel_rfl) ⟨v0, v1, c0, c1', c2', c3, c4⟩ (fun hH => ?_)
     refine take_yes (i := 0) (d := 38) (v := ?_) rfl rfl (by kernel_rfl) (by kernel_rfl) (by kernel_rfl) (fun _ _ _ h => h) (by rfl) ?_ (by assumption) ?_
     rotate_left 1
     ·intro w hSw
      obtain ⟨z0, z1, z2, z3, z4, z5, z6⟩ := hSw
      go_simp
      with_reducible rfl
     try simp only [Act.put, List.setIfInBounds_toArray, List.set_cons_zero, List.set_cons_succ]
     refine take_yes (i := 1) (d := 39) (v := ?_) rfl rfl (by kernel_rfl) (by kernel_rfl) (by kernel_rfl) (fun _ _ _ h => h) (by rfl) ?_ (by assumption) ?_
     rotate_left 1
     ·intro w hSw
      obtain ⟨z0, z1, z2, z3, z4, z5, z6⟩ := hSw
      go_simp
      with_reducible rfl
     try simp only [Act.put, List.setIfInBounds_toArray, List.set_cons_zero, List.set_cons_succ]
     refine take_yes (i := 2) (d := 40) (v := ?_) rfl rfl (by kernel_rfl) (by kernel_rfl) (by kernel_rfl) (fun _ _ _ h => h) (by rfl) ?_ (by assumption) ?_
     rotate_left 1
     ·intro w hSw
      obtain ⟨z0, z1, z2, z3, z4, z5, z6⟩ := hSw
      go_simp
      with_reducible rfl
     try simp only [Act.put, List.setIfInBounds_toArray, List.set_cons_zero, List.set_cons_succ]
     refine take_yes (i := 3) (d := 41) (v := ?_) rfl rfl (by kernel_rfl) (by kernel_rfl) (by kernel_rfl) (fun _ _ _ h => h) (by rfl) ?_ (by assumption) ?_
     rotate_left 1
     ·intro w hSw
      obtain ⟨z0, z1, z2, z3, z4, z5, z6⟩ := hSw
      go_simp
      with_reducible rfl
     try simp only [Act.put, List.setIfInBounds_toArray, List.set_cons_zero, List.set_cons_succ]
     refine take_yes (i := 4) (d := 42) (v := ?_) rfl rfl (by kernel_rfl) (by kernel_rfl) (by kernel_rfl) (fun _ _ _ h => h) (by rfl) ?_ (by assumption) ?_
     rotate_left 1
     ·intro w hSw
      obtain ⟨z0, z1, z2, z3, z4, z5, z6⟩ := hSw
      go_simp
      with_reducible rfl
     try simp only [Act.put, List.setIfInBounds_toArray, List.set_cons_zero, List.set_cons_succ]
     refine take_yes (i := 5) (d := 43) (v := ?_) rfl rfl (by kernel_rfl) (by kernel_rfl) (by kernel_rfl) (fun _ _ _ h => h) (by rfl) ?_ (by assumption) ?_
     rotate_left 1
     ·intro w hSw
      obtain ⟨z0, z1, z2, z3, z4, z5, z6⟩ := hSw
      go_simp
      with_reducible rfl
     try simp only [Act.put, List.setIfInBounds_toArray, List.set_cons_zero, List.set_cons_succ]
     refine take_yes (i := 6) (d := 44) (v := ?_) rfl rfl (by kernel_rfl) (by kernel_rfl) (by kernel_rfl) (fun _ _ _ h => h) (by rfl) ?_ (by assumption) ?_
     rotate_left 1
     ·intro w hSw
      obtain ⟨z0, z1, z2, z3, z4, z5, z6⟩ := hSw
      go_simp
      with_reducible rfl
     try simp only [Act.put, List.setIfInBounds_toArray, List.set_cons_zero, List.set_cons_succ]
     refine wpAnyH_ready (rs := [7]) (by kernel_rfl) (by simp) ?_
     refine AllReadyH.cons rfl (fun K hK => ?_) AllReadyH.nil
     go_simp
     refine HVs.out.mono ?_
     rintro e w8 ⟨rfl, k1, k2⟩
     have K1 := Lib.hid k1
     have K2 := Lib.hid k2
     clear hH
     refine hK.out _ _ ⟨k2.cell (show w5.drew.cell? _ = _ from v0) (hnof _ (Or.inl rfl)), k2.cell (show w5.drew.cell? _ = _ from v1) (hnof _ (Or.inl rfl)), k2.cell (show w5.drew.cell? _ = _ from c0) (hnof _ (Or.inr rfl)), k2.cell (show w5.drew.cell? _ = _ from c1') (hnof _ (Or.inr rfl)), k2.cell (show w5.drew.cell? _ = _ from c2') (hnof _ (Or.inr rfl)), k2.cell (show w5.drew.cell? _ = _ from c3) (hnof _ (Or.inr rfl)), k2.cell (show w5.drew.cell? _ = _ from c4) (hnof _ (Or.inr rfl))⟩ (fun hH => ?_)
     clear hK K k1 k2
     try simp only [Act.put, List.setIfInBounds_toArray, List.set_cons_zero, List.set_cons_succ]
     refine take_yes (i := 8) (d := 37) (v := ?_) rfl rfl (by kernel_rfl) (by kernel_rfl) (by kernel_rfl) (fun _ _ _ h => h) (by rfl) ?_ (by assumption) ?_
     rotate_left 1
     ·intro w hSw
      obtain ⟨z0, z1, z2, z3, z4, z5, z6⟩ := hSw
      go_simp
      with_reducible rfl
     try simp only [Act.put, List.setIfInBounds_toArray, List.set_cons_zero, List.set_cons_succ]
     refine take_yes (i := 9) (d := 46) (v := ?_) rfl rfl (by kernel_rfl) (by kernel_rfl) (by kernel_rfl) (fun _ _ _ h => h) (by rfl) ?_ (by assumption) ?_
     rotate_left 1
     ·intro w hSw
      obtain ⟨z0, z1, z2, z3, z4, z5, z6⟩ := hSw
      go_simp
      with_reducible rfl
     try simp only [Act.put, List.setIfInBounds_toArray, List.set_cons_zero, List.set_cons_succ]
     refine take_yes (i := 10) (d := 47) (v := ?_) rfl rfl (by kernel_rfl) (by kernel_rfl) (by kernel_rfl) (fun _ _ _ h => h) (by rfl) ?_ (by assumption) ?_
     rotate_left 1
     ·intro w hSw
      obtain ⟨z0, z1, z2, z3, z4, z5, z6⟩ := hSw
      go_simp
      with_reducible rfl
     try simp only [Act.put, List.setIfInBounds_toArray, List.set_cons_zero, List.set_cons_succ]
     refine take_yes (i := 11) (d := 9) (v := ?_) rfl rfl (by kernel_rfl) (by kernel_rfl) (by kernel_rfl) (fun _ _ _ h => h) (by rfl) ?_ (by assumption) ?_
     rotate_left 1
     ·intro w hSw
      obtain ⟨z0, z1, z2, z3, z4, z5, z6⟩ := hSw
      go_simp
      with_reducible rfl
     try simp only [Act.put, List.setIfInBounds_toArray, List.set_cons_zero, List.set_cons_succ]
     refine take_yes (i := 12) (d := 10) (v := ?_) rfl rfl (by kernel_rfl) (by kernel_rfl) (by kernel_rfl) (fun _ _ _ h => h) (by rfl) ?_ (by assumption) ?_
     rotate_left 1
     ·intro w hSw
      obtain ⟨z0, z1, z2, z3, z4, z5, z6⟩ := hSw
      go_simp
      with_reducible rfl
     try simp only [Act.put, List.setIfInBounds_toArray, List.set_cons_zero, List.set_cons_succ]
     refine wpAnyH_done (by kernel_rfl) ?_ _
     clear hH v0 v1 c0 c1' c2' c3 c4
     by_cases he : er = 0
     ·subst he
      have HY6 := Lib.hid (show runN L (wantI F) (N0.drop (i + 1 - low)) (i + 1) s2 (sl ++ [vv]) = Y3 by have := HYs.out; rw [run_cons_ok Hvis.out] at this; exact this)
      have h8 : w5.heap.size ≤ w8.heap.size := K2.out.size
      have hV8 : V.heap.size ≤ w5.heap.size := HM5.out.size
      have hVz := Hz.out
      have HR8 := Lib.hid (((HR5.out.on (Below.drew (Bel.refl _))).kept K2.out (fun b _ h => h)).on (Bel.alloc (Bel.refl w8) (.cells #[.int .i64 vv] 3)))
      have hf8 := (HF5.out.on (F := fun _ => False) (Mod.of_bel (Below.drew (Bel.refl _))) (fun h => h)).on K2.out (fun h => by rcases h with h | h <;> omega)
      have q0 := hf8.c0
      have HF8 := Lib.hid (hf8.on (F := fun _ => False) (Mod.of_bel (Bel.alloc (Bel.refl w8) (.cells #[.int .i64 vv] 3))) (fun h => h))
      have HS8 := Lib.hid (K1.out.bel (Bel.alloc (Bel.refl w8) (.cells #[.int .i64 vv] 3)))
      have HM8 := Lib.hid (mod_end (((HM5.out.drew).trans K2.out (fun t h => Or.inr (by rcases h with h | h <;> omega)))) (Bel.alloc (Bel.refl w8) (.cells #[.int .i64 vv] 3)))
      have hbs : V.heap.size ≤ (w8.alloc (.cells #[.int .i64 vv] 3)).heap.size := by rw [alloc_sz]; omega
      have Hav : Hid (∀ t, (w8.alloc (.cells #[.int .i64 vv] 3)).heap.size ≤ t → ¬ Of sb mb t) := Lib.hid (fun t ht h => by rw [alloc_sz] at ht; rcases h with h | h <;> omega)
      have Hnw : Hid (∀ j u, [Value.int .i64 vv][j]? = some u → (w8.alloc (.cells #[.int .i64 vv] 3)).cell? ((⟨w8.heap.size, 0, none⟩ : Addr).add j) = some u) := Lib.hid (World.news_of_block (cs := #[.int .i64 vv]) (t := 3) (fr := (0, 0)) (heap_new w8 _))
      have hi1 : i + 1 ≤ 1099511627776 := by omega
      clear hf8
      go_wp2_with (at_builtin; refine list_app1 _ _ rfl rfl rfl rfl HR8.out hbs Hav.out Hnw.out hi1 ?_; intro o9 c9 w9 k9 g9; refine Hid.out ?_)
      refine Lib.hid ?_
      have HF9 := Lib.hid (HF8.out.on g9.out (fun h => by have := h.1; omega))
      have HS9 := Lib.hid (HS8.out.on g9.out (fun h => h.2 (Or.inl rfl)) (fun h => h.2 (Or.inr rfl)))
      have HM9 := Lib.hid (HM8.out.trans g9.out (fun t h => Or.inr h.1))
      have n0 := HF9.out.c0
      have n1 := HF9.out.f0
      go_wp2
      go_round
      case rel => exact ⟨i + 1, c9, o9, sl ++ [vv], s2, by go_num, by omega, by omega, Lib.hid (k9.out.kept (F := fun t => t = w.heap.size + 1 + 1) ((Mod.refl (fun t => t = w.heap.size + 1 + 1) w9).setCell (p := ⟨w.heap.size + 1 + 1, 0, none⟩) (Or.inl rfl) _) (fun t h e => by omega)), Lib.hid (HF9.out.set0 o9 (i + 1) c9), Lib.hid (HS9.out.on (F := fun t => t = w.heap.size + 1 + 1) ((Mod.refl (fun t => t = w.heap.size + 1 + 1) w9).setCell (p := ⟨w.heap.size + 1 + 1, 0, none⟩) (Or.inl rfl) _) hsb hmb), Lib.hid (by have := Hc5.out; omega), Lib.hid (HM9.out.setCell (p := ⟨w.heap.size + 1 + 1, 0, none⟩) (Or.inl rfl) _), HY6⟩
      case measure => simp [intOf]; omega
     ·have hXe := Lib.hid (show (⟨[], [], (i : Int), er⟩ : Rs) = X by have h1 := HYs.out; rw [run_cons_er Hvis.out he] at h1; have h2 := HX3.out; rw [← h1] at h2; exact h2)
      have h1 : (er == 0) = false := by simpa using he
      have h2 : (er != 0) = true := by simpa using he
      have hVz := Hz.out
      have HM8 := Lib.hid (HM5.out.drew.trans K2.out (fun t h => Or.inr (by rcases h with h | h <;> omega)))
      have hg : ¬ (fun b => b = w.heap.size + 1 + 1) (w.heap.size + 1) := fun h => by omega
      have g0 := HM8.out.cell HR0.out hg
      have g1 := HM8.out.cell HR1.out hg
      have g2 := (mod_froz HM8.out HR0.out hg).trans HRf.out.1
      have g3 := (mod_froz HM8.out HR1.out hg).trans HRf.out.2
      clear hg he
      go_wp2_with fail
      have tc := two_cells (.slice none 0 0) (.slice none 0 0) g0 g1
      refine bodyPost_ret (v := .tuple #[.agg #[.slice none 0 0, .slice none 0 0], .int .i64 (i : Int), .int .i64 er]) (by simp [results, Tryz.results100, go_sem, tc.1, tc.2]) rfl ?_
      rw [← hXe.out]
      exact res_er _ _ (Mod.bel_of HBV.out HM8.out (fun t h => by omega)) (Nat.le_succ _)
    ·obtain rfl : i = z + 1 := by omega
     have hY := HY5.out
     rw [HN1.out, runN] at hY
     have HX4 := Lib.hid (show runF L (wantI F) (F.drop (q + 1)) (z + 1) sl (lo ++ [(s.cnt : Int)]) = X by have h2 := HX3.out; rw [← hY] at h2; exact h2)
     have d2 : w5.cell? ⟨b, off + q * 3 + 2, none⟩ = some (.int .i64 (z : Int)) := HB5.out.cell' HD2.out
     obtain ⟨i0, hi0, hz0, hz1, hz2⟩ := info_parts info_int
     have Hi0 := Lib.hid hi0
     have Hz0 := Lib.hid hz0
     have Hz1 := Lib.hid hz1
     have Hz2 := Lib.hid hz2
     have hml : Hid (q + 1 ≤ maxLen) := Lib.hid (by unfold maxLen; omega)
     have hml2 : Hid ((q + 1) * 8 ≤ 140737488355328) := Lib.hid (by omega)
     have hRq : Rwb (fun _ => False) V.heap.size w5 a1 (z + 1) c1 sl a2 q c2 lo := HR5.out.weak (fun _ h => h.elim)
     have HO := Lib.hid (show ∀ W, Bel w5 W → W.ownsRow V.heap.size 3 1 (.slice a2 q c2) q (encZ lo) from fun W B => (hRq.on B).2.1)
     have HBs := Lib.hid (show ∀ W, Bel w5 W → V.heap.size ≤ W.heap.size from fun W B => Nat.le_trans HM5.out.size B.size)
     have hnw : Hid (∀ W' W'' : World, W''.heap[W'.heap.size]? = some (.cells #[.int .i64 (s.cnt : Int)] 3) → ∀ j u, [.int .i64 (s.cnt : Int)][j]? = some u → W''.cell? ((⟨W'.heap.size, 0, none⟩ : Addr).add j) = some u) := Lib.hid fun W' W'' hW' => World.news_of_block (cs := #[.int .i64 (s.cnt : Int)]) (t := 3) (fr := (0, 0)) hW'
     have HK := Lib.hid (show ∀ (W w7 : World) (gg cap : Nat), Bel w5 W → w7.ownsRow V.heap.size 3 1 (.slice (some ⟨gg, 0, none⟩) (q + 1) cap) (q + 1) (encZ lo ++ [.int .i64 (s.cnt : Int)]) → W.grownBy w7 (Value.slice a2 q c2).ownBlock → ((Value.slice a2 q c2).ownBlock = some gg ∨ gg = W.heap.size) → Rwb (fun _ => False) V.heap.size w7 a1 (z + 1) c1 sl (some ⟨gg, 0, none⟩) (q + 1) cap (lo ++ [(s.cnt : Int)]) ∧ FdAt w7 (w.heap.size + 1 + 1) a1 (z + 1) c1 a2 q c2 ∧ Mod (fun b => b = w.heap.size + 1 + 1) V w7 from fun W w7 gg cap B ho hg hat => by
      obtain ⟨k1, k2⟩ := rwb_grow2 (hRq.on B) ho hg hat (fun _ _ h => h)
      have hVz := Hz.out
      exact ⟨k1, (HF5.out.on (F := fun _ => False) (Mod.of_bel B) (fun h => h)).on k2 (fun h => by have := h.1; omega), (mod_end HM5.out B).trans k2 (fun t h => Or.inr h.1)⟩)
     have m0 := HS5.out.c1
     have m1 := HF5.out.c1
     have m2 := (Bel.alloc (Bel.refl w5) (.cells #[.int .i64 (s.cnt : Int)] 3)).cell' m1
     have m3 := (Bel.alloc (Bel.refl w5) (.cells #[.int .i64 (s.cnt : Int)] 3)).cell' m0
     have hziz : ¬ ((z + 1 : Nat) : Int) ≤ (z : Int) := by omega
     clear hRq hY hi0 hz0 hz1 hz2
     go_upto_region 13 with (fail)
     go_region_law (refine step_append_lies _ (by rfl) _ _ _ (by rfl) V.heap.size 3 i0 _ 1 8 Tryz.underlying38 Hi0.out Hz0.out Hz1.out Hz2.out rfl (by omega) _ _ _ (by rfl) (HO.out _ (by repeat (first | exact Bel.refl _ | refine Below.drew ?_ | refine Bel.alloc ?_ _))) ⟨w5.heap.size, 0, none⟩ 1 1 [.int .i64 (s.cnt : Int)] (by rfl) (by rfl) (hnw.out w5 _ (heap_new w5 _)) (by simp [Value.oneCell']) (by omega) hml.out hml2.out (HBs.out _ (by repeat (first | exact Bel.refl _ | refine Below.drew ?_ | refine Bel.alloc ?_ _))) _ rfl ?_; intro gg cap w7 hown7 hgrow hat hlt; obtain ⟨k1, k2, k3⟩ := HK.out _ w7 gg cap (by repeat (first | exact Bel.refl _ | refine Below.drew ?_ | refine Bel.alloc ?_ _)) hown7 hgrow hat; have n0 := k2.c1; have n1 := k2.f1)
     all_goals
      have KR := Lib.hid (k1.kept (F := fun t => t = w.heap.size + 1 + 1) ((Mod.refl (fun t => t = w.heap.size + 1 + 1) w7).setCell (p := ⟨w.heap.size + 1 + 1, 1, none⟩) (Or.inl rfl) (.slice (some ⟨gg, 0, none⟩) (q + 1) cap)) (fun t h e => by have := Hz.out; omega))
      have KF := Lib.hid (k2.set1 (some ⟨gg, 0, none⟩) (q + 1) cap)
      have KM := Lib.hid (k3.setCell (p := ⟨w.heap.size + 1 + 1, 1, none⟩) (Or.inl rfl) (.slice (some ⟨gg, 0, none⟩) (q + 1) cap))
      clear k1 k2 k3 hown7 hgrow hat hlt n0 n1
      go_wp2
      go_round
      case rel => exact ⟨q + 1, z + 1, c1, cap, a1, some ⟨gg, 0, none⟩, sl, lo ++ [(s.cnt : Int)], by go_num, by omega, by omega, KR, KF, KM, HX4, HAs3, Hlo2⟩
      case measure => simp [intOf]; omega
  ·obtain rfl : q = k := by omega
   have hXf := Lib.hid (show (⟨sl, lo, 0, 0⟩ : Rs) = X by have := HX1.out; rw [List.drop_eq_nil_of_le (by rw [HFk.out]; exact Nat.le_refl _), runF] at this; exact this)
   have hg : ¬ (fun b => b = w.heap.size + 1 + 1) (w.heap.size + 1) := fun h => by omega
   have g0 := HM.out.cell HR0.out hg
   have g1 := HM.out.cell HR1.out hg
   have g2 := (mod_froz HM.out HR0.out hg).trans HRf.out.1
   have g3 := (mod_froz HM.out HR1.out hg).trans HRf.out.2
   have n0 := HFd.out.c0
   have n1 := HFd.out.c1
   clear hg
   go_wp2_with fail
   have tc := two_cells (.slice a1 low c1) (.slice a2 q c2) g0 g1
   refine bodyPost_ret (v := .tuple #[.agg #[.slice a1 low c1, .slice a2 q c2], .int .i64 0, .int .i64 0]) (by simp [results, Tryz.results100, go_sem, tc.1, tc.2]) rfl ?_
   rw [← hXf.out]
   refine ⟨Mod.bel_of HB.out (two_mod wr _ _ _) (fun i h => by omega), a1, a2, low, c1, q, c2, rfl, fun W g => ?_⟩
   have hVz := Hz.out
   have h9 := (HR.out.kept (two_mod wr (w.heap.size + 1) (.slice a1 low c1) (.slice a2 q c2)) (fun b h e => by omega)).kept g (fun b h e => by omega)
   exact ⟨h9.arg1, h9.arg2⟩
end Syn
end Go.Proofs.YtcapkeaedpabjaaGreatDoor

/-
 Layer 9: the resolution of a program; Check, Slots, Locals.
-/
namespace Go.Proofs.YtcapkeaedpabjaaGreatDoor
open Go.RowKit Go.ChangeShapes Go.WideShapes Go.Maps
namespace Syn
/-- A program whose texts are within the reach, of a size that is not too large. -/
structure Fit9 (n k : Nat) (L : List Nd) (F : List Fw) : Prop where
 hn : n ≤ 50000
 hk : k ≤ 1000
 wf : WfN L
 sn : ∀ x ∈ L, x.s.length ≤ 140737488355328 ∧ x.kids.length ≤ 100000
 sf : ∀ f ∈ F, f.params.length ≤ 1000 ∧ ∀ p ∈ f.params, p.length ≤ 140737488355328
theorem chk_proper {L : List Nd} {F : List Fw} (h : chkE L F = 0) : properB L F = true := by
 unfold chkE at h
 split at h
 ·cases h
 ·split at h
  ·cases h
  ·rename_i h2
   simpa using h2
set_option maxRecDepth 100000 in
set_option maxHeartbeats 8000000 in
theorem resolve_any (no fo : Option Addr) (n nc k fc : Nat) (L : List Nd) (F : List Fw) (hf : Fit9 n k L F) (w : World) (hm : Lex.ML w) (hA : NArg w no n L) (hF : FArg w fo k F) :
  Calls Tryz.prog 51 #[.agg #[.slice no n nc, .slice fo k fc]] w (ResPost w (resG L F)) := by
 obtain ⟨hn, hk, hwf, hsn, hsf⟩ := hf
 obtain ⟨V1, hV1⟩ : ∃ V1, w.alloc (.cells #[.slice no n nc, .slice fo k fc] 25) = V1 := ⟨_, rfl⟩
 obtain ⟨V, hV⟩ : ∃ V, V1.alloc (.cells #[.slice none 0 0, .slice none 0 0] 79) = V := ⟨_, rfl⟩
 have hz1 : V1.heap.size = w.heap.size + 1 := by rw [← hV1, alloc_szs]
 have hz : V.heap.size = w.heap.size + 1 + 1 := by rw [← hV, alloc_szs, hz1]
 have B1 : Bel w V1 := by rw [← hV1]; exact Bel.alloc (Bel.refl _) _
 have B2 : Bel V1 V := by rw [← hV]; exact Bel.alloc (Bel.refl _) _
 obtain ⟨v0, v1⟩ : V.cell? ⟨w.heap.size, 0, none⟩ = some (.slice no n nc) ∧ V.cell? ⟨w.heap.size, 1, none⟩ = some (.slice fo k fc) :=
  ⟨B2.cell' (by rw [← hV1]; exact World.cell?_alloc_new ..), B2.cell' (by rw [← hV1]; exact World.cell?_alloc_new ..)⟩
 obtain ⟨r0, r1, r2, r3⟩ : V.cell? ⟨w.heap.size + 1, 0, none⟩ = some (.slice none 0 0) ∧ V.cell? ⟨w.heap.size + 1, 1, none⟩ = some (.slice none 0 0) ∧ V.frozen? ⟨w.heap.size + 1, 0, none⟩ = false ∧ V.frozen? ⟨w.heap.size + 1, 1, none⟩ = false := by
  rw [← hV, ← hz1]
  exact ⟨World.cell?_alloc_new .., World.cell?_alloc_new .., World.frozen?_alloc_new .., World.frozen?_alloc_new ..⟩
 have BV := Bel.trans B1 B2
 have HBV := Lib.hid BV
 have HVe := Lib.hid (show (w.alloc (.cells #[.slice no n nc, .slice fo k fc] 25)).alloc (.cells #[.slice none 0 0, .slice none 0 0] 79) = V by rw [hV1, hV])
 have Hz := Lib.hid hz
 have HR := Lib.hid (show ∀ W, Bel V W → W.cell? ⟨w.heap.size, 0, none⟩ = some (.slice no n nc) ∧ W.cell? ⟨w.heap.size, 1, none⟩ = some (.slice fo k fc) ∧ W.cell? ⟨w.heap.size + 1, 0, none⟩ = some (.slice none 0 0) ∧ W.cell? ⟨w.heap.size + 1, 1, none⟩ = some (.slice none 0 0) ∧ W.frozen? ⟨w.heap.size + 1, 0, none⟩ = false ∧ W.frozen? ⟨w.heap.size + 1, 1, none⟩ = false from fun W B => ⟨B.cell' v0, B.cell' v1, B.cell' r0, B.cell' r1, (mod_froz (Mod.of_bel (F := fun _ => False) B) r0 (fun h => h)).trans r2, (mod_froz (Mod.of_bel (F := fun _ => False) B) r1 (fun h => h)).trans r3⟩)
 have H1 := Lib.hid (check_any no fo n nc k fc L F (by omega) (by omega) V (hm.on BV) (hA.on BV) (hF.on BV) hwf (fun x hx => by have := (hsf x hx).1; omega))
 have H2 := Lib.hid (fun W (B : Bel V W) => checkFuncs_any no fo n nc k fc F (by omega) (fun x hx => (hsf x hx).1) W ((hF.on BV).on B))
 have H3 := Lib.hid (fun W (B : Bel V W) => checkMain_any no fo n nc k fc F (by omega) W ((hF.on BV).on B))
 have hLn := hA.1
 unfold resG
 by_cases hc : chkE L F = 0
 rotate_left
 ·rw [if_pos hc]
  generalize chkE L F = ce at *
  have h1 : (ce == 0) = false := by simpa using hc
  have h2 : (ce != 0) = true := by simpa using hc
  clear hA hF hwf hsn hsf hm hc hV hV1 hz hz1 B1 B2 BV v0 v1 r0 r1 r2 r3
  go_enter Tryz.func51, Tryz.ntmps51
  go_wp2_with fail
  rw [HVe.out]
  refine H1.out.mono ?_
  rintro e w2 ⟨rfl, g⟩
  have G := Lib.hid g
  obtain ⟨x0, x1, g0, g1, g2, g3⟩ := HR.out w2 g
  clear g
  go_wp2_with fail
  have tc := two_cells (.slice none 0 0) (.slice none 0 0) g0 g1
  refine bodyPost_ret (v := .tuple #[.agg #[.slice none 0 0, .slice none 0 0], .int .i64 (-1), .int .i64 ce]) (by simp [results, Tryz.results51, go_sem, tc.1, tc.2]) rfl ?_
  exact res_er _ _ (Bel.trans HBV.out G.out) (Nat.le_succ _)
 rw [if_neg (by simpa using hc)]
 have hpr := chk_proper hc
 have H4 := Lib.hid (fun W (B : Bel V W) => resolveNodes_any no fo n nc k fc L F (by omega) hk W ((hA.on BV).on B) ((hF.on BV).on B) (by rw [← hLn]; exact proper_kids hpr) hsn hsf (by rw [← hLn]; exact asc_chk hc))
 rw [hc] at H1
 cases hd : dupF F 0 F with
 | some b =>
  dsimp only
  rw [hd] at H2
  clear hA hF hwf hsn hsf hm hc hV hV1 hz hz1 B1 B2 BV v0 v1 r0 r1 r2 r3 hpr hd H3 H4
  go_enter Tryz.func51, Tryz.ntmps51
  go_wp2_with fail
  rw [HVe.out]
  refine H1.out.mono ?_
  rintro e w2 ⟨rfl, g⟩
  have G := Lib.hid g
  obtain ⟨x0, x1, g0, g1, g2, g3⟩ := HR.out w2 g
  clear g
  go_wp2_with fail
  refine (H2.out _ G.out).mono ?_
  rintro e w3 ⟨rfl, g⟩
  have G3 := Lib.hid (Bel.trans G.out g)
  clear x0 x1 g0 g1 g2 g3
  obtain ⟨x0, x1, g0, g1, g2, g3⟩ := HR.out w3 G3.out
  clear g
  unfold atE
  dsimp only [Option.map]
  go_wp2_with fail
  have tc := two_cells (.slice none 0 0) (.slice none 0 0) g0 g1
  refine bodyPost_ret (v := .tuple #[.agg #[.slice none 0 0, .slice none 0 0], .int .i64 b, .int .i64 6]) (by simp [results, Tryz.results51, go_sem, tc.1, tc.2]) rfl ?_
  exact res_er _ _ (Bel.trans HBV.out G3.out) (Nat.le_succ _)
 | none =>
  rw [hd] at H2
  dsimp only
  cases hmn : mainE F with
  | some qq =>
   obtain ⟨mp, me⟩ := qq
   have hme : me ≠ 0 := by
    unfold mainE at hmn
    split at hmn
    ·cases hmn; decide
    ·split at hmn
     ·split at hmn
      ·cases hmn
      ·cases hmn; decide
     ·cases hmn
   have h1 : (me == 0) = false := by simpa using hme
   have h2 : (me != 0) = true := by simpa using hme
   dsimp only
   rw [hmn] at H3
   clear hA hF hwf hsn hsf hm hc hV hV1 hz hz1 B1 B2 BV v0 v1 r0 r1 r2 r3 hpr hd H4 hmn hme
   go_enter Tryz.func51, Tryz.ntmps51
   go_wp2_with fail
   rw [HVe.out]
   refine H1.out.mono ?_
   rintro e w2 ⟨rfl, g⟩
   have G := Lib.hid g
   obtain ⟨x0, x1, g0, g1, g2, g3⟩ := HR.out w2 g
   clear g
   go_wp2_with fail
   refine (H2.out _ G.out).mono ?_
   rintro e w3 ⟨rfl, g⟩
   have G3 := Lib.hid (Bel.trans G.out g)
   clear x0 x1 g0 g1 g2 g3
   obtain ⟨x0, x1, g0, g1, g2, g3⟩ := HR.out w3 G3.out
   clear g
   unfold atE
   dsimp only [Option.map]
   go_wp2_with fail
   refine (H3.out _ G3.out).mono ?_
   rintro e w4 ⟨rfl, g⟩
   have G4 := Lib.hid (Bel.trans G3.out g)
   clear x0 x1 g0 g1 g2 g3
   obtain ⟨x0, x1, g0, g1, g2, g3⟩ := HR.out w4 G4.out
   clear g
   unfold atE
   dsimp only
   go_wp2_with fail
   have tc := two_cells (.slice none 0 0) (.slice none 0 0) g0 g1
   refine bodyPost_ret (v := .tuple #[.agg #[.slice none 0 0, .slice none 0 0], .int .i64 mp, .int .i64 me]) (by simp [results, Tryz.results51, go_sem, tc.1, tc.2]) rfl ?_
   exact res_er _ _ (Bel.trans HBV.out G4.out) (Nat.le_succ _)
  | none =>
   dsimp only
   rw [hmn] at H3
   generalize runF L (wantI F) F 0 [] [] = X at *
   clear hA hF hwf hsn hsf hm hc hV hV1 hz hz1 B1 B2 BV v0 v1 r0 r1 r2 r3 hpr hd hmn
   go_enter Tryz.func51, Tryz.ntmps51
   go_wp2_with fail
   rw [HVe.out]
   refine H1.out.mono ?_
   rintro e w2 ⟨rfl, g⟩
   have G := Lib.hid g
   obtain ⟨x0, x1, g0, g1, g2, g3⟩ := HR.out w2 g
   clear g
   go_wp2_with fail
   refine (H2.out _ G.out).mono ?_
   rintro e w3 ⟨rfl, g⟩
   have G3 := Lib.hid (Bel.trans G.out g)
   clear x0 x1 g0 g1 g2 g3
   obtain ⟨x0, x1, g0, g1, g2, g3⟩ := HR.out w3 G3.out
   clear g
   unfold atE
   dsimp only [Option.map]
   go_wp2_with fail
   refine (H3.out _ G3.out).mono ?_
   rintro e w4 ⟨rfl, g⟩
   have G4 := Lib.hid (Bel.trans G3.out g)
   clear x0 x1 g0 g1 g2 g3
   obtain ⟨x0, x1, g0, g1, g2, g3⟩ := HR.out w4 G4.out
   clear g
   unfold atE
   dsimp only
   go_wp2_with fail
   refine (H4.out _ G4.out).mono ?_
   rintro e w5 ⟨g, a1, a2, m1, c1, m2, c2, rfl, hrow⟩
   have G5 := Lib.hid (Bel.trans G4.out g)
   have hsz := Lib.hid (show w.heap.size + 1 < w4.heap.size by have h1 := G4.out.size; have h2 := Hz.out; omega)
   have Hrow := Lib.hid hrow
   clear x0 x1 g0 g1 g2 g3
   obtain ⟨x0, x1, g0, g1, g2, g3⟩ := HR.out w5 G5.out
   clear g hrow
   go_wp2_with fail
   have tc := two_cells (.slice a1 m1 c1) (.slice a2 m2 c2) g0 g1
   refine bodyPost_ret (v := .tuple #[.agg #[.slice a1 m1 c1, .slice a2 m2 c2], .int .i64 X.pos, .int .i64 X.er]) (by simp [results, Tryz.results51, go_sem, tc.1, tc.2]) rfl ?_
   refine ⟨Mod.bel_of (Bel.trans HBV.out G5.out) (two_mod w5 (w.heap.size + 1) _ _) (fun i h => by omega), a1, a2, m1, c1, m2, c2, rfl, fun W g => Hrow.out W ?_⟩
   have hs4 := hsz.out
   exact ((two_mod w5 (w.heap.size + 1) (.slice a1 m1 c1) (.slice a2 m2 c2)).weak (G := fun b => b < w4.heap.size) (fun i h => by omega)).trans g (fun i h => Or.inl (by omega))
set_option maxRecDepth 100000 in
set_option maxHeartbeats 4000000 in
theorem scheck_any (no fo : Option Addr) (n nc k fc : Nat) (L : List Nd) (F : List Fw) (hf : Fit9 n k L F) (w : World) (hm : Lex.ML w) (hA : NArg w no n L) (hF : FArg w fo k F) :
  Calls Tryz.prog 18 #[.agg #[.slice no n nc, .slice fo k fc]] w fun e w' => e = .returned (.tuple #[.int .i64 (resG L F).pos, .int .i64 (resG L F).er]) ∧ Bel w w' := by
 obtain ⟨V, hV⟩ : ∃ V, w.alloc (.cells #[.slice no n nc, .slice fo k fc] 25) = V := ⟨_, rfl⟩
 have BV : Bel w V := by rw [← hV]; exact Bel.alloc (Bel.refl _) _
 obtain ⟨v0, v1⟩ : V.cell? ⟨w.heap.size, 0, none⟩ = some (.slice no n nc) ∧ V.cell? ⟨w.heap.size, 1, none⟩ = some (.slice fo k fc) := by
  rw [← hV]
  exact ⟨World.cell?_alloc_new .., World.cell?_alloc_new ..⟩
 have HBV := Lib.hid BV
 have HVe := Lib.hid hV
 have HR := Lib.hid (resolve_any no fo n nc k fc L F hf V (hm.on BV) (hA.on BV) (hF.on BV))
 generalize resG L F = X at *
 clear hf hm hA hF BV hV
 go_enter Tryz.func18, Tryz.ntmps18
 go_wp2_with fail
 rw [HVe.out]
 refine HR.out.mono ?_
 rintro e w2 ⟨g, a1, a2, m1, c1, m2, c2, rfl, hrow⟩
 have HB2 := Lib.hid (Bel.trans HBV.out g)
 clear g hrow v0 v1
 go_wp2_with fail
 go_ret2
 exact ⟨rfl, Bel.alloc HB2.out _⟩
set_option maxRecDepth 100000 in
set_option maxHeartbeats 4000000 in
theorem slots_any (no fo : Option Addr) (n nc k fc : Nat) (L : List Nd) (F : List Fw) (hf : Fit9 n k L F) (w : World) (hm : Lex.ML w) (hA : NArg w no n L) (hF : FArg w fo k F) :
  Calls Tryz.prog 20 #[.agg #[.slice no n nc, .slice fo k fc]] w fun e w' => ∃ (a : Option Addr) (m c : Nat), e = .returned (.tuple #[.slice a m c, .int .i64 (resG L F).er]) ∧ RArg w' a m (resG L F).sl ∧ Bel w w' := by
 obtain ⟨V, hV⟩ : ∃ V, w.alloc (.cells #[.slice no n nc, .slice fo k fc] 25) = V := ⟨_, rfl⟩
 have BV : Bel w V := by rw [← hV]; exact Bel.alloc (Bel.refl _) _
 obtain ⟨v0, v1⟩ : V.cell? ⟨w.heap.size, 0, none⟩ = some (.slice no n nc) ∧ V.cell? ⟨w.heap.size, 1, none⟩ = some (.slice fo k fc) := by
  rw [← hV]
  exact ⟨World.cell?_alloc_new .., World.cell?_alloc_new ..⟩
 have HBV := Lib.hid BV
 have HVe := Lib.hid hV
 have HR := Lib.hid (resolve_any no fo n nc k fc L F hf V (hm.on BV) (hA.on BV) (hF.on BV))
 generalize resG L F = X at *
 clear hf hm hA hF BV hV
 go_enter Tryz.func20, Tryz.ntmps20
 go_wp2_with fail
 rw [HVe.out]
 refine HR.out.mono ?_
 rintro e w2 ⟨g, a1, a2, m1, c1, m2, c2, rfl, hrow⟩
 have HB2 := Lib.hid (Bel.trans HBV.out g)
 have HW := Lib.hid hrow
 clear g hrow v0 v1
 go_wp2_with fail
 go_ret2
 exact ⟨a1, m1, c1, rfl, (HW.out _ (Mod.of_bel (Bel.alloc (Bel.refl w2) _))).1, Bel.alloc HB2.out _⟩
theorem all_len {L : List Nd} {sl : List Int} : ∀ (F : List Fw) (low : Nat) (lo : List Int), AllRight L sl low F lo → lo.length = F.length
 | [], _, [], _ => rfl
 | f :: F, low, n :: lo, h => by
  rw [AllRight] at h
  rw [List.length_cons, List.length_cons, all_len F _ lo h.2.2]
 | [], _, _ :: _, h => h.elim
 | _ :: _, _, [], h => h.elim
/-- What Locals answers. -/
def locE (R : Rs) (k : Nat) (f : Int) : Int × Int := if R.er ≠ 0 then (0, R.er) else if 0 ≤ f ∧ f < (k : Int) then (R.lo.getD f.toNat 0, 0) else (0, 2)
set_option maxRecDepth 100000 in
set_option maxHeartbeats 2000000 in
theorem hasFunction_any (no fo : Option Addr) (n nc k fc : Nat) (f : Int) (w : World) :
  Calls Tryz.prog 56 #[.agg #[.slice no n nc, .slice fo k fc], .int .i64 f] w fun e w' => e = .returned (.bool (decide (0 ≤ f ∧ f < (k : Int)))) ∧ Bel w w' := by
 have HB := Lib.hid (Bel.alloc (Bel.refl w) (.cells #[.slice no n nc, .slice fo k fc] 25))
 by_cases h0 : 0 ≤ f
 ·by_cases h1 : f < (k : Int)
  ·rw [decide_eq_true ⟨h0, h1⟩]
   go_enter Tryz.func56, Tryz.ntmps56
   go_wp2_with fail
   go_ret
   exact ⟨rfl, HB.out⟩
  ·rw [decide_eq_false (fun h => h1 h.2)]
   go_enter Tryz.func56, Tryz.ntmps56
   go_wp2_with fail
   go_ret
   exact ⟨rfl, HB.out⟩
 ·rw [decide_eq_false (fun h => h0 h.1)]
  go_enter Tryz.func56, Tryz.ntmps56
  go_wp2_with fail
  go_ret
  exact ⟨rfl, HB.out⟩
theorem two_new (w : World) (a b : Value) (t : TypeId) : (w.alloc (.cells #[a, b] t)).cell? ⟨w.heap.size, 0, none⟩ = some a ∧ (w.alloc (.cells #[a, b] t)).cell? ⟨w.heap.size, 1, none⟩ = some b :=
 ⟨World.cell?_alloc_new .., World.cell?_alloc_new ..⟩
set_option maxRecDepth 100000 in
set_option maxHeartbeats 4000000 in
theorem locals_any (no fo : Option Addr) (n nc k fc : Nat) (L : List Nd) (F : List Fw) (hf : Fit9 n k L F) (f : Int) (w : World) (hm : Lex.ML w) (hA : NArg w no n L) (hF : FArg w fo k F) :
  Calls Tryz.prog 22 #[.agg #[.slice no n nc, .slice fo k fc], .int .i64 f] w fun e w' => e = .returned (.tuple #[.int .i64 (locE (resG L F) k f).1, .int .i64 (locE (resG L F) k f).2]) ∧ Bel w w' := by
 obtain ⟨V, hV⟩ : ∃ V, w.alloc (.cells #[.slice no n nc, .slice fo k fc] 25) = V := ⟨_, rfl⟩
 have BV : Bel w V := by rw [← hV]; exact Bel.alloc (Bel.refl _) _
 obtain ⟨v0, v1⟩ : V.cell? ⟨w.heap.size, 0, none⟩ = some (.slice no n nc) ∧ V.cell? ⟨w.heap.size, 1, none⟩ = some (.slice fo k fc) := by
  rw [← hV]
  exact ⟨World.cell?_alloc_new .., World.cell?_alloc_new ..⟩
 have HBV := Lib.hid BV
 have HVe := Lib.hid hV
 have HR := Lib.hid (resolve_any no fo n nc k fc L F hf V (hm.on BV) (hA.on BV) (hF.on BV))
 have hlo : (resG L F).er = 0 → (resG L F).lo.length = k := fun h => by
  obtain ⟨-, h2, -⟩ := res_ok h
  rw [all_len F _ _ h2, hF.1]
 have HH := Lib.hid (fun W => hasFunction_any no fo n nc k fc f W)
 generalize resG L F = X at *
 clear hf hm hA hF BV hV
 obtain ⟨Xs, Xl, Xp, er⟩ := X
 unfold ResPost at HR
 unfold locE
 dsimp only at HR hlo ⊢
 by_cases he : er = 0
 rotate_left
 ·rw [if_pos he]
  have h1 : (er == 0) = false := by simpa using he
  have h2 : (er != 0) = true := by simpa using he
  clear hlo he
  go_enter Tryz.func22, Tryz.ntmps22
  go_wp2_with fail
  rw [HVe.out]
  refine HR.out.mono ?_
  rintro e w2 ⟨g, a1, a2, m1, c1, m2, c2, rfl, hrow⟩
  have HB2 := Lib.hid (Bel.trans HBV.out g)
  have HW := Lib.hid (hrow _ (Mod.of_bel (Bel.alloc (Bel.refl w2) (.cells #[.slice a1 m1 c1, .slice a2 m2 c2] 79)))).2
  have x0 := (Bel.alloc (Bel.refl w2) (.cells #[.slice a1 m1 c1, .slice a2 m2 c2] 79)).cell' (g.cell' v0)
  have x1 := (Bel.alloc (Bel.refl w2) (.cells #[.slice a1 m1 c1, .slice a2 m2 c2] 79)).cell' (g.cell' v1)
  clear g hrow v0 v1
  go_wp2_with fail
  go_ret2
  exact ⟨rfl, Bel.alloc HB2.out _⟩
 ·rw [if_neg (by simpa using he)]
  have hl := hlo he
  subst he
  clear hlo
  by_cases h0 : 0 ≤ f ∧ f < (k : Int)
  rotate_left
  ·rw [if_neg h0]
   rw [decide_eq_false h0] at HH
   clear hl
   go_enter Tryz.func22, Tryz.ntmps22
   go_wp2_with fail
   rw [HVe.out]
   refine HR.out.mono ?_
   rintro e w2 ⟨g, a1, a2, m1, c1, m2, c2, rfl, hrow⟩
   have HB2 := Lib.hid (Bel.trans HBV.out g)
   have HW := Lib.hid (hrow _ (Mod.of_bel (Bel.alloc (Bel.refl w2) (.cells #[.slice a1 m1 c1, .slice a2 m2 c2] 79)))).2
   have x0 := (Bel.alloc (Bel.refl w2) (.cells #[.slice a1 m1 c1, .slice a2 m2 c2] 79)).cell' (g.cell' v0)
   have x1 := (Bel.alloc (Bel.refl w2) (.cells #[.slice a1 m1 c1, .slice a2 m2 c2] 79)).cell' (g.cell' v1)
   clear g hrow v0 v1
   go_wp2_with fail
   refine (HH.out _).mono ?_
   rintro e w3 ⟨rfl, g⟩
   have G := Lib.hid g
   clear g
   go_wp2_with fail
   go_ret2
   exact ⟨rfl, Bel.trans (Bel.alloc HB2.out _) G.out⟩
  ·rw [if_pos h0]
   rw [decide_eq_true h0] at HH
   obtain ⟨q, rfl⟩ : ∃ q : Nat, f = (q : Int) := ⟨f.toNat, by omega⟩
   have hql : q < Xl.length := by omega
   rw [Int.toNat_natCast, List.getD_eq_getElem?_getD, List.getElem?_eq_getElem hql, Option.getD_some]
   obtain ⟨r, hr⟩ : ∃ r, Xl[q] = r := ⟨_, rfl⟩
   rw [hr]
   go_enter Tryz.func22, Tryz.ntmps22
   go_wp2_with fail
   rw [HVe.out]
   refine HR.out.mono ?_
   rintro e w2 ⟨g, a1, a2, m1, c1, m2, c2, rfl, hrow⟩
   have HB2 := Lib.hid (Bel.trans HBV.out g)
   have HW := Lib.hid (hrow _ (Mod.of_bel (Bel.alloc (Bel.refl w2) (.cells #[.slice a1 m1 c1, .slice a2 m2 c2] 79)))).2
   have x0 := (Bel.alloc (Bel.refl w2) (.cells #[.slice a1 m1 c1, .slice a2 m2 c2] 79)).cell' (g.cell' v0)
   have x1 := (Bel.alloc (Bel.refl w2) (.cells #[.slice a1 m1 c1, .slice a2 m2 c2] 79)).cell' (g.cell' v1)
   clear g hrow v0 v1
   have hm2 := HW.out.1
   obtain ⟨b, off, rfl, hc⟩ := HW.out.2 (by omega)
   have y0 := hc q hql
   obtain ⟨n0, n1⟩ := two_new w2 (.slice a1 m1 c1) (.slice (some ⟨b, off, none⟩) m2 c2) 79
   have hqm : (q : Int) < (m2 : Int) := by omega
   have hq0 : (0 : Int) ≤ (q : Int) := by omega
   rw [hr] at y0
   clear hc h0 hr
   go_wp2_with fail
   refine (HH.out _).mono ?_
   rintro e w3 ⟨rfl, g⟩
   have G := Lib.hid g
   have z0 := g.cell' n0
   have z1 := g.cell' n1
   have z2 := g.cell' y0
   clear g y0 n0 n1 x0 x1
   go_wp2_with fail
   go_ret2
   exact ⟨rfl, Bel.trans (Bel.alloc HB2.out _) G.out⟩
end Syn
end Go.Proofs.YtcapkeaedpabjaaGreatDoor
