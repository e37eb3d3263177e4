/-
  Layer 8, texts merged: SuU, SuV, SuW. For every argument within the bounds that each theorem names.
-/
import Derived.Test.YtmifookckpelaaaGreatDoorML4
import Derived.Test.YtmifookckpelaaaGreatDoorMK1

/-
 Layer 9: Reachable.
-/
namespace Go.Proofs.YtmifookckpelaaaGreatDoor
open Go.RowKit Go.ChangeShapes Go.WideShapes Go.Sort
namespace Syn
theorem left_sort {w w1 : World} {g cap n nn : Nat} {os : Array Obj} {zs : List Int} (hown : w1.ownsRow w.heap.size 3 1 (.slice (some ⟨g, 0, none⟩) n cap) n (zs.map (Value.int .i64))) (hbel : Below w.heap.size w w1) (hlen : zs.length = n) :
  RArg (grow (putRow (Value.int .i64) (Sort.ahead w1 nn) g 0 (zs.mergeSort fun x y => decide (x ≤ y)).toArray) os) (some ⟨g, 0, none⟩) n (zs.mergeSort fun x y => decide (x ≤ y)) ∧ Bel w (grow (putRow (Value.int .i64) (Sort.ahead w1 nn) g 0 (zs.mergeSort fun x y => decide (x ≤ y)).toArray) os) := by
 have hl2 : (zs.mergeSort fun x y => decide (x ≤ y)).length = zs.length := List.length_mergeSort zs
 subst hlen
 rcases hown.2 with ⟨h0, _⟩ | ⟨g', cap', cur, hv, hbase, hb, h1, h2, h3, h4⟩
 ·cases h0
 cases hv
 have hs := ownsRow_sortedI (n := nn) (os := os) (ts := zs.mergeSort fun x y => decide (x ≤ y)) hl2 hbase hb h1 h2 h3
 exact ⟨(own_zarg hs).rarg, hbel.grown (grownBy_sortedI _) hbel.size (fun j hj => by cases hj; exact hbase)⟩
theorem calN_in {F : List Fw} : ∀ (r : List Nd) (x : Int), x ∈ calN F r → 0 ≤ x ∧ x < (F.length : Int)
 | [], x, h => by cases h
 | y :: r, x, h => by
  rw [calN] at h
  split at h
  ·rename_i hy
   rcases List.mem_cons.1 h with rfl | h
   ·have := find_lt F y.s
    exact ⟨hy.2, by omega⟩
   ·exact calN_in r x h
  ·exact calN_in r x h
theorem callsL_in {L : List Nd} {F : List Fw} {q : Nat} {x : Int} (h : x ∈ callsL L F q) : 0 ≤ x ∧ x < (F.length : Int) := by
 unfold callsL at h
 split at h
 ·exact calN_in _ x (((csI_is _).2 x).1 h)
 ·cases h
theorem callsL_len (L : List Nd) (F : List Fw) (q : Nat) : (callsL L F q).length ≤ F.length := by
 refine nodup_len _ _ ⟨?_, fun x hx => callsL_in hx⟩
 unfold callsL
 split
 ·exact (csI_is _).1.imp fun h e => by rw [e] at h; exact absurd h (Int.lt_irrefl _)
 ·exact List.Pairwise.nil
def callC (L : List Nd) (F : List Fw) (f : Int) : List Int := callsL L F f.toNat
/-- What Reachable answers. -/
def reachE (R : Rs) (L : List Nd) (F : List Fw) : List Int := if R.er ≠ 0 then [] else (reachG (callC L F) F.length 0 [findI F mainT]).mergeSort (fun x y => decide (x ≤ y))
theorem main_in {F : List Fw} (h : mainE F = none) : 0 ≤ findI F mainT ∧ findI F mainT < (F.length : Int) := by
 have h1 := find_lt F mainT
 unfold mainE at h
 split at h
 ·cases h
 ·rename_i h2
  omega
theorem reach_go {C : Int → List Int} {u i : Nat} {l : List Int} {f : Int} (h : l[i]? = some f) : reachG C (u + 1) i l = reachG C u (i + 1) ((C f).foldl addC l) := by rw [reachG, h]
theorem reach_stop {C : Int → List Int} {u i : Nat} {l : List Int} (h : l.length ≤ i) : reachG C u i l = l := by
 cases u with
 | zero => rw [reachG]
 | succ u => rw [reachG, List.getElem?_eq_none h]
set_option maxRecDepth 100000 in
set_option maxHeartbeats 8000000 in
theorem reachable_any (no fo : Option Addr) (n nc k fc : Nat) (L : List Nd) (F : List Fw) (hf : Fit9 n k L F) (hnc : n ≤ nc) (w : World) (hm : Lex.ML w) (hA : NArg w no n L) (hF : FArg w fo k F) :
  Calls Tryz.prog 39 #[.agg #[.slice no n nc, .slice fo k fc]] w (CsPost w (reachE (resG L F) L F)) := by
 obtain ⟨V, hV⟩ : ∃ V, w.alloc (.cells #[.slice no n nc, .slice fo k fc] 25) = V := ⟨_, rfl⟩
 have BV : Bel w V := by rw [← hV]; exact Bel.alloc (Bel.refl _) _
 obtain ⟨v0, v1⟩ : V.cell? ⟨w.heap.size, 0, none⟩ = some (.slice no n nc) ∧ V.cell? ⟨w.heap.size, 1, none⟩ = some (.slice fo k fc) := by
  rw [← hV]
  exact ⟨World.cell?_alloc_new .., World.cell?_alloc_new ..⟩
 have HBV := Lib.hid BV
 have HVe := Lib.hid hV
 have Hv0 := Lib.hid v0
 have Hv1 := Lib.hid v1
 have HFk := Lib.hid hF.1
 have hk := hf.hk
 have HC := Lib.hid (scheck_any no fo n nc k fc L F hf V (hm.on BV) (hA.on BV) (hF.on BV))
 have HFi := Lib.hid (fun W (g : Bel V W) => find_any no fo n nc k fc F mainT (by omega) W ((hF.on BV).on g))
 have hasc : (resG L F).er = 0 → Asc n 0 F := fun h => by rw [← hA.1]; exact asc_chk (res_chk h)
 have hmain : (resG L F).er = 0 → 0 ≤ findI F mainT ∧ findI F mainT < (k : Int) := fun h => by have := main_in (res_ok h).2.2.2.2.2; rw [hF.1] at this; exact this
 have HO := Lib.hid (fun (h : (resG L F).er = 0) (q : Nat) (hq : q < k) W (g : Bel V W) => callsOf_any no fo n nc k fc L F q hf.hn hnc hf.hk hq (hasc h) W ((hA.on BV).on g) ((hF.on BV).on g))
 have HCi := Lib.hid (show ∀ f, ∀ x ∈ callC L F f, 0 ≤ x ∧ x < (k : Int) from fun f x hx => by have := callsL_in hx; rw [hF.1] at this; exact this)
 have hX2 : fixI (fun g => decide (g.name = mainT)) 0 F = findI F mainT := rfl
 rw [hX2] at HFi
 unfold reachE
 rw [hF.1]
 generalize resG L F = R at *
 obtain ⟨Xs, Xl, Xp, er⟩ := R
 dsimp only at HC HO hmain ⊢
 clear hf hm hA hF BV hV hasc hX2
 by_cases he : er = 0
 rotate_left
 ·rw [if_pos he]
  have h1 : (er == 0) = false := by simpa using he
  have h2 : (er != 0) = true := by simpa using he
  clear he
  go_enter Tryz.func39, Tryz.ntmps39
  go_wp2_with fail
  rw [HVe.out]
  refine HC.out.mono ?_
  rintro e w2 ⟨rfl, g⟩
  have G := Lib.hid g
  clear g v0 v1
  go_wp2_with fail
  go_ret
  exact ⟨none, 0, 0, rfl, rarg_nil' _ _, Bel.trans HBV.out G.out, fun h => absurd h (Nat.lt_irrefl 0)⟩
 rw [if_neg (by simpa using he)]
 have HO2 := Lib.hid (HO.out he)
 obtain ⟨hm0, hm1⟩ := hmain he
 subst he
 clear hmain HO
 obtain ⟨m0, hm2⟩ : ∃ m0 : Nat, findI F mainT = (m0 : Int) := ⟨(findI F mainT).toNat, by omega⟩
 rw [hm2] at HFi hm1 ⊢
 obtain ⟨X, hX⟩ : ∃ X, reachG (callC L F) k 0 [(m0 : Int)] = X := ⟨_, rfl⟩
 rw [hX]
 have HX := Lib.hid (show reachG (callC L F) k 0 [(m0 : Int)] = X ∧ k ≤ 0 + k ∧ OkR k [(m0 : Int)] from ⟨hX, by omega, ⟨by simp, fun x hx => by rw [List.mem_singleton.1 hx]; exact ⟨by omega, hm1⟩⟩⟩)
 unfold mainT at HFi
 clear hX hm0 hm1 hm2
 go_enter Tryz.func39, Tryz.ntmps39
 go_wp2_with fail
 rw [HVe.out]
 refine HC.out.mono ?_
 rintro e w2 ⟨rfl, g⟩
 have G := Lib.hid g
 have x0 := g.cell' v0
 have x1 := g.cell' v1
 clear g v0 v1
 go_wp2_with fail
 refine (HFi.out w2 G.out).mono ?_
 rintro e w3 ⟨rfl, g⟩
 have G3 := Lib.hid (Bel.trans G.out g)
 have hR0 := Lib.hid (show Rwb (fun _ => False) V.heap.size (w3.alloc (.cells #[.int .i64 (m0 : Int)] 3)) (some ⟨w3.heap.size, 0, none⟩) 1 1 [(m0 : Int)] none 0 0 [] from by
  have e1 := World.ownsRow_lit (base := V.heap.size) (e := 3) (size := 1) w3 #[.int .i64 (m0 : Int)] 1 (Nat.le_trans G.out.size g.size) (by decide) (by simp)
  exact ⟨e1, World.ownsRow_nil _ _ _ _, fun b e => ⟨fun q => (by cases q), fun h => h⟩, fun b e => (by cases e)⟩)
 have G4 := Lib.hid (Bel.alloc G3.out (.cells #[.int .i64 (m0 : Int)] 3))
 clear g x0 x1
 go_wp2_with fail
 go_loopw [5, 6] (fun rv iv wr => ∃ (i m c u : Nat) (a : Option Addr) (l : List Int), rv = .slice a m c ∧ iv = .int .i64 (i : Int) ∧ i ≤ m ∧ Hid (Rwb (fun _ => False) V.heap.size wr a m c l none 0 0 []) ∧ Hid (Bel V wr) ∧ Hid (reachG (callC L F) u i l = X ∧ k ≤ i + u ∧ OkR k l) ∧ 0 < m) (fun _ iv _ => k + 1 - (intOf iv).toNat)
 case atStart => exact ⟨0, 1, 1, k, _, _, rfl, rfl, Nat.zero_le _, hR0, G4, HX, Nat.one_pos⟩
 case round =>
  obtain ⟨i, m, c, u, a, l, rfl, rfl, him, HR, HB, HM, hmp⟩ := hrel
  rename World => wr
  have v0 := HB.out.cell' Hv0.out
  have v1 := HB.out.cell' Hv1.out
  obtain ⟨hM, hku, hok⟩ := HM.out
  have hlm : l.length = m := HR.out.nums.1
  have hmk : m ≤ k := by rw [← hlm]; exact nodup_len k l hok
  rcases Nat.lt_or_ge i m with hlt | hge
  ·obtain ⟨fi, hfi⟩ : ∃ fi, l[i]? = some fi := ⟨_, List.getElem?_eq_getElem (by omega)⟩
   have hfi2 : l[i]'(by omega) = fi := by rw [List.getElem?_eq_getElem (by omega)] at hfi; exact Option.some.inj hfi
   obtain ⟨hf0, hf1⟩ := hok.bd fi (List.mem_of_getElem? hfi)
   obtain ⟨q, rfl⟩ : ∃ q : Nat, fi = (q : Int) := ⟨fi.toNat, by omega⟩
   obtain ⟨u, rfl⟩ : ∃ v, u = v + 1 := ⟨u - 1, by omega⟩
   rw [reach_go hfi] at hM
   have hcc : callC L F (q : Int) = callsL L F q := by unfold callC; rw [Int.toNat_natCast]
   have hcin := HCi.out (q : Int)
   have hcll := callsL_len L F q
   rw [HFk.out] at hcll
   rw [hcc] at hM hcin
   obtain ⟨Y, hY⟩ : ∃ Y, (callsL L F q).foldl addC l = Y := ⟨_, rfl⟩
   rw [hY] at hM
   have HM2 := Lib.hid hM
   have HY := Lib.hid (show ((callsL L F q).drop 0).foldl addC l = Y ∧ OkR k l from ⟨hY, hok⟩)
   have HOq := Lib.hid (HO2.out q (by omega) wr.drew (Below.drew HB.out))
   obtain ⟨rb, ro, rfl, hrc⟩ := HR.out.arg1.2 (by omega)
   have c0 := hrc i (by omega)
   rw [hfi2] at c0
   have him1 : (i : Int) < (m : Int) := by omega
   have hi0 : (0 : Int) ≤ (i : Int) := by omega
   have Hku := Lib.hid hku
   have Hmk := Lib.hid hmk
   generalize callsL L F q = cl at *
   clear hM hY hok hfi hfi2 hrc hcc hlm HM
   go_wp2_with fail
   refine wp_region_held_drew (S := fun W => W.cell? ⟨w.heap.size, 0, none⟩ = some (.slice no n nc) ∧ W.cell? ⟨w.heap.size, 1, none⟩ = some (.slice fo k fc) ∧ W.cell? ⟨rb, ro + i, none⟩ = some (.int .i64 (q : Int))) (by kernel_rfl) ⟨v0, v1, c0⟩ (fun hH => ?_)
   refine take_yes (i := 0) (d := 25) (v := ?_) rfl rfl (by kernel_rfl) (by kernel_rfl) (by kernel_rfl) (fun _ _ _ h => h) (by rfl) ?_ (by assumption) ?_
   rotate_left 1
   ·intro w hSw
    obtain ⟨z0, z1, z2⟩ := hSw
    go_simp
    with_reducible rfl
   try simp only [Act.put, List.setIfInBounds_toArray, List.set_cons_zero, List.set_cons_succ]
   refine take_yes (i := 1) (d := 26) (v := ?_) rfl rfl (by kernel_rfl) (by kernel_rfl) (by kernel_rfl) (fun _ _ _ h => h) (by rfl) ?_ (by assumption) ?_
   rotate_left 1
   ·intro w hSw
    obtain ⟨z0, z1, z2⟩ := hSw
    go_simp
    with_reducible rfl
   try simp only [Act.put, List.setIfInBounds_toArray, List.set_cons_zero, List.set_cons_succ]
   refine take_yes (i := 2) (d := 27) (v := ?_) rfl rfl (by kernel_rfl) (by kernel_rfl) (by kernel_rfl) (fun _ _ _ h => h) (by rfl) ?_ (by assumption) ?_
   rotate_left 1
   ·intro w hSw
    obtain ⟨z0, z1, z2⟩ := hSw
    go_simp
    with_reducible rfl
   try simp only [Act.put, List.setIfInBounds_toArray, List.set_cons_zero, List.set_cons_succ]
   refine take_yes (i := 3) (d := 28) (v := ?_) rfl rfl (by kernel_rfl) (by kernel_rfl) (by kernel_rfl) (fun _ _ _ h => h) (by rfl) ?_ (by assumption) ?_
   rotate_left 1
   ·intro w hSw
    obtain ⟨z0, z1, z2⟩ := hSw
    go_simp
    with_reducible rfl
   try simp only [Act.put, List.setIfInBounds_toArray, List.set_cons_zero, List.set_cons_succ]
   refine take_yes (i := 4) (d := 29) (v := ?_) rfl rfl (by kernel_rfl) (by kernel_rfl) (by kernel_rfl) (fun _ _ _ h => h) (by rfl) ?_ (by assumption) ?_
   rotate_left 1
   ·intro w hSw
    obtain ⟨z0, z1, z2⟩ := hSw
    go_simp
    with_reducible rfl
   try simp only [Act.put, List.setIfInBounds_toArray, List.set_cons_zero, List.set_cons_succ]
   refine take_yes (i := 7) (d := 32) (v := ?_) rfl rfl (by kernel_rfl) (by kernel_rfl) (by kernel_rfl) (fun _ _ _ h => h) (by rfl) ?_ (by assumption) ?_
   rotate_left 1
   ·intro w hSw
    obtain ⟨z0, z1, z2⟩ := hSw
    go_simp
    with_reducible rfl
   try simp only [Act.put, List.setIfInBounds_toArray, List.set_cons_zero, List.set_cons_succ]
   refine wpAnyH_ready (rs := [5]) (by kernel_rfl) (by simp) ?_
   refine AllReadyH.cons rfl (fun K hK => ?_) AllReadyH.nil
   go_simp
   refine HOq.out.mono ?_
   rintro e w8 ⟨ca, cm, cc, rfl, k1, k2, k3⟩
   have K3 := Lib.hid k3
   have K1 := Lib.hid k1
   have K2 := Lib.hid k2
   clear hH
   refine hK.out _ _ ⟨k2.cell' (show wr.drew.cell? _ = _ from v0), k2.cell' (show wr.drew.cell? _ = _ from v1), k2.cell' (show wr.drew.cell? _ = _ from c0)⟩ (fun hH => ?_)
   clear hK K k1 k2 k3
   try simp only [Act.put, List.setIfInBounds_toArray, List.set_cons_zero, List.set_cons_succ]
   refine take_yes (i := 6) (d := 31) (v := ?_) rfl rfl (by kernel_rfl) (by kernel_rfl) (by kernel_rfl) (fun _ _ _ h => h) (by rfl) ?_ (by assumption) ?_
   rotate_left 1
   ·intro w hSw
    obtain ⟨z0, z1, z2⟩ := hSw
    go_simp
    with_reducible rfl
   try simp only [Act.put, List.setIfInBounds_toArray, List.set_cons_zero, List.set_cons_succ]
   refine wpAnyH_done (by kernel_rfl) ?_ _
   have W8 := Lib.hid (Bel.trans (Below.drew (Bel.refl wr)) K2.out)
   obtain ⟨T, hT⟩ : ∃ T : Nat → Prop, T = fun t => 0 < cm ∧ ∃ o s, ca = some ⟨t, o, s⟩ := ⟨_, rfl⟩
   have HT1 := Lib.hid (show ∀ t, T t → wr.heap.size ≤ t ∧ t < w8.heap.size from fun t h => by
    rw [hT] at h
    obtain ⟨h0, o1, s1, e1⟩ := h
    obtain ⟨b2, f2, e2, hc2⟩ := K1.out.2 h0
    have e3 := K3.out h0 t o1 s1 e1
    rw [e1] at e2
    cases e2
    exact ⟨e3, World.block_lt_of_cell? w8 _ (hc2 0 (by have := K1.out.1; omega))⟩)
   have HT2 := Lib.hid (show ∀ b2 f2, ca = some ⟨b2, f2, none⟩ → 0 < cm → T b2 from fun b2 f2 e h => by rw [hT]; exact ⟨h, f2, none, e⟩)
   have HR8 := Lib.hid ((HR.out.avoid (T := T) (fun t h0 h => by have := (HT1.out t h).1; omega)).on W8.out)
   have HB8 := Lib.hid (Bel.trans HB.out W8.out)
   have Hcl := Lib.hid hcin
   clear hcin hH hT
   go_wp2_with fail
   go_loopw [5, 32] (fun rv jv w6 => ∃ (j m2 c2 : Nat) (a2 : Option Addr) (l2 : List Int), rv = .slice a2 m2 c2 ∧ jv = .int .i64 (j : Int) ∧ j ≤ cm ∧ m ≤ m2 ∧ Hid (Rwb T V.heap.size w6 a2 m2 c2 l2 none 0 0 []) ∧ Hid (Bel V w6) ∧ Hid (Mod (fun t => V.heap.size ≤ t ∧ ¬ T t) w8 w6) ∧ Hid ((cl.drop j).foldl addC l2 = Y ∧ OkR k l2)) (fun _ jv _ => cm - (intOf jv).toNat)
   case atStart => exact ⟨0, m, c, _, l, rfl, rfl, Nat.zero_le _, Nat.le_refl _, HR8, HB8, Lib.hid (Mod.refl _ _), HY⟩
   case round =>
    obtain ⟨j, m2, c2, a2, l2, rfl, rfl, hj, hm2, HR6, HV6, HB6, HM6⟩ := hrel
    rename World => w6
    have v0 := HV6.out.cell' Hv0.out
    have v1 := HV6.out.cell' Hv1.out
    obtain ⟨hM6, hok6⟩ := HM6.out
    have hlm2 : l2.length = m2 := HR6.out.nums.1
    have hmk2 : m2 ≤ k := by rw [← hlm2]; exact nodup_len k l2 hok6
    rcases Nat.lt_or_ge j cm with hjc | hjc
    ·have hclm : cl.length = cm := K1.out.1
     have hjl : j < cl.length := by omega
     rw [List.drop_eq_getElem_cons hjl, List.foldl_cons] at hM6
     obtain ⟨x, hx⟩ : ∃ x, cl[j] = x := ⟨_, rfl⟩
     have hxb := Hcl.out x (by rw [← hx]; exact List.getElem_mem hjl)
     obtain ⟨cb, co, rfl, hcl⟩ := K1.out.2 (by omega)
     have d0 := HB6.out.cell (hcl j hjl) (fun h => h.2 (HT2.out cb co rfl (by omega)))
     rw [hx] at d0 hM6
     obtain ⟨sb, so, rfl, hsc⟩ := HR6.out.arg1.2 (by omega)
     have HCt := Lib.hid (Tryz.slices_Contains_int sb so m2 c2 l2 x w6 (by omega) (by omega) (fun j h => by rw [hsc j h, List.getD_eq_getElem?_getD, List.getElem?_eq_getElem h, Option.getD_some]))
     rw [List.take_of_length_le (by omega)] at HCt
     have hj1 : (j : Int) < (cm : Int) := by omega
     have hj0 : (0 : Int) ≤ (j : Int) := by omega
     clear hcl hsc hx
     cases hct : l2.contains x with
     | true =>
      have he : addC l2 x = l2 := by unfold addC; rw [if_pos hct]
      rw [he] at hM6
      rw [hct] at HCt
      have HM7 := Lib.hid (show (cl.drop (j + 1)).foldl addC l2 = Y ∧ OkR k l2 from ⟨hM6, hok6⟩)
      clear hM6 hok6 HM6 he hct
      go_wp2_with fail
      refine HCt.out.mono ?_
      rintro e w7 ⟨rfl, rfl⟩
      go_wp2_with fail
      go_round
      case rel => exact ⟨j + 1, m2, c2, _, l2, rfl, by go_num, by omega, hm2, HR6, HV6, HB6, HM7⟩
      case measure => first | (simp [intOf]; done) | (simp [intOf]; omega)
     | false =>
      have he : addC l2 x = l2 ++ [x] := by unfold addC; rw [if_neg (by rw [hct]; simp)]
      have hok7 := hok6.add hxb
      rw [he] at hM6 hok7
      rw [hct] at HCt
      have HM7 := Lib.hid (show (cl.drop (j + 1)).foldl addC (l2 ++ [x]) = Y ∧ OkR k (l2 ++ [x]) from ⟨hM6, hok7⟩)
      have HR7 := Lib.hid (HR6.out.on (Bel.alloc (Bel.refl w6) (.cells #[.int .i64 x] 3)))
      have HB7 := Lib.hid (Bel.alloc (Bel.refl w6) (.cells #[.int .i64 x] 3))
      have HV7 := Lib.hid (Bel.alloc HV6.out (.cells #[.int .i64 x] 3))
      have hbs := HV7.out.size
      have Hnw : Hid (∀ j u, [Value.int .i64 x][j]? = some u → (w6.alloc (.cells #[.int .i64 x] 3)).cell? ((⟨w6.heap.size, 0, none⟩ : Addr).add j) = some u) := Lib.hid (World.news_of_block (cs := #[.int .i64 x]) (t := 3) (fr := (0, 0)) (heap_new w6 _))
      have hi1 : m2 + 1 ≤ 1099511627776 := by omega
      have Hav := Lib.hid (show ∀ t, (w6.alloc (.cells #[.int .i64 x] 3)).heap.size ≤ t → ¬ T t from fun t h0 h => by have h1 := (HT1.out t h).2; have h2 := HB6.out.size; rw [alloc_sz] at h0; omega)
      clear hM6 hok6 HM6 he hct hok7
      go_wp2_with fail
      refine HCt.out.mono ?_
      rintro e w7 ⟨rfl, rfl⟩
      go_wp2_with (at_builtin; refine list_app1 _ _ rfl rfl rfl rfl HR7.out hbs Hav.out Hnw.out hi1 ?_; intro o9 c9 w9 k9 g9; refine Hid.out ?_)
      refine Lib.hid ?_
      have G9 := Lib.hid (Mod.bel_of HV7.out g9.out (fun i h => h.1))
      have M9 := Lib.hid ((mod_end HB6.out HB7.out).trans g9.out (fun t h => Or.inl h))
      clear g9
      go_wp2
      go_round
      case rel => exact ⟨j + 1, m2 + 1, c9, o9, l2 ++ [x], rfl, by go_num, by omega, by omega, k9, G9, M9, HM7⟩
      case measure => first | (simp [intOf]; done) | (simp [intOf]; omega)
    ·obtain rfl : j = cm := by omega
     have hY2 : l2 = Y := by
      rw [List.drop_eq_nil_of_le (by rw [K1.out.1]; exact Nat.le_refl _), List.foldl_nil] at hM6
      exact hM6
     subst hY2
     have HM8 := Lib.hid (show reachG (callC L F) u (i + 1) l2 = X ∧ k ≤ i + 1 + u ∧ OkR k l2 from ⟨HM2.out, by have := Hku.out; omega, hok6⟩)
     have HRw := Lib.hid (HR6.out.weak (T := fun _ => False) (fun _ h => h.elim))
     clear hM6 hok6 HM6
     go_wp2_with fail
     go_round
     case rel => exact ⟨i + 1, m2, c2, u, a2, l2, rfl, by go_num, by omega, HRw, HV6, HM8, by omega⟩
     case measure => first | (simp [intOf]; done) | (simp [intOf]; omega)
  ·obtain rfl : i = m := by omega
   rw [reach_stop (by omega)] at hM
   subst hM
   have hm0 : 0 < i := hmp
   have hown : wr.ownsRow V.heap.size 3 1 (.slice a i c) i (l.map (Value.int .i64)) := HR.out.1
   have hnn : Value.slice a i c ≠ .slice none 0 0 := fun h => by
    injection h with _ h2 _
    omega
   obtain ⟨g, cap, he, hbg, hgl, hncap, hcm, hlen2, hH⟩ := Lib.holds_of_ownsRow hown hnn
   cases he
   have hsort := Lib.hid (Tryz.slices_Sort_int g 0 c l wr hH hgl (by omega))
   rw [hlm] at hsort
   have HL := Lib.hid (fun nn os => left_sort (w := V) (nn := nn) (os := os) hown HB.out hlm)
   have Hbg := Lib.hid hbg
   clear hown hH hnn hncap hcm hgl hbg hlen2 hok
   go_wp2_with fail
   refine hsort.out.mono ?_
   rintro e w5 ⟨rfl, nn, os, rfl⟩
   go_wp2_with fail
   go_ret
   obtain ⟨e1, e2⟩ := HL.out nn os
   exact ⟨_, _, _, rfl, e1, Bel.trans HBV.out e2, fun _ b off sp e => by cases e; exact Nat.le_trans HBV.out.size Hbg.out⟩
end Syn
end Go.Proofs.YtmifookckpelaaaGreatDoor

/-
 Layer 9: Ops.
-/
namespace Go.Proofs.YtmifookckpelaaaGreatDoor
open Go.RowKit Go.ChangeShapes Go.WideShapes Go.Sort
namespace Syn
/-- A string behind a row of strings. -/
theorem list_appT {base : Nat} {Y : World} {m c : Nat} {a1 : Option Addr} {p : List ByteArray} {x : ByteArray} {b : Nat} {ops : Array Oper} {rest : List Oper} {o : Oper} {a : Act} {Q : Exit → Act → World → Prop} (s y : Operand)
  (ho : o.op = .call { callee := .builtin .append, args := #[s, y], argTypes := #[47, 47] }) (hgd : o.guard = none) (hs : a.eval s = .slice a1 m c) (hx : a.eval y = .slice (some ⟨b, 0, none⟩) 1 1)
  (hR : Y.ownsRow base 9 1 (.slice a1 m c) m (encS p)) (hbase : base ≤ Y.heap.size) (h2 : ∀ j u, [Value.string x][j]? = some u → Y.cell? ((⟨b, 0, none⟩ : Addr).add j) = some u) (hm : m + 1 ≤ 1099511627776)
  (h : ∀ o3 c3 w', Hid (w'.ownsRow base 9 1 (.slice o3 (m + 1) c3) (m + 1) (encS (p ++ [x]))) → Hid (Mod (fun b => base ≤ b) Y w') → wpList Tryz.prog ops Q rest (a.put o.dst (.slice o3 (m + 1) c3)) w') : wpList Tryz.prog ops Q (o :: rest) a Y := by
 obtain ⟨i0, hi, hz0, hz1, hz2⟩ := info_parts info_str
 refine wpList_append_own_at _ hgd s y 47 ho base 9 i0 _ 1 16 Tryz.underlying47 hi hz0 hz1 hz2 rfl (by decide) _ m _ hs hR ⟨b, 0, none⟩ 1 1 [.string x] hx rfl h2 (fun u hu => by simp at hu; subst hu; rfl) (by unfold maxLen; omega) (by omega) hbase ?_
 intro v' w' ho' hg _ hat
 obtain ⟨o3, c3, rfl⟩ := own_shape ho'
 exact h o3 c3 w' (Lib.hid (by rw [show encS (p ++ [x]) = encS p ++ [.string x] by simp [encS]]; exact ho')) (Lib.hid (Mod.grown hg (fun i e => (hR.lt i e).1)))
/-- The texts of the nodes that call the host. -/
def opsN : List Nd → List ByteArray
 | [] => []
 | x :: r => if x.k = 12 then ⟨x.s.toArray⟩ :: opsN r else opsN r
theorem opsN_yes {x : Nd} {r : List Nd} (h : x.k = 12) : opsN (x :: r) = ⟨x.s.toArray⟩ :: opsN r := by rw [opsN, if_pos h]
theorem opsN_no {x : Nd} {r : List Nd} (h : ¬ x.k = 12) : opsN (x :: r) = opsN r := by rw [opsN, if_neg h]
/-- What Ops answers. -/
def opsE (R : Rs) (L : List Nd) : List Txt := if R.er ≠ 0 then [] else Idn.srt ((opsN L).map ByteArray.toList)
def OpsPost (w : World) (D : List Txt) (e : Ending) (w' : World) : Prop := ∃ (o : Option Addr) (m c : Nat) (xs : List ByteArray), e = .returned (.slice o m c) ∧ xs.map ByteArray.toList = D ∧ SlArg w' o m xs ∧ Bel w w'
set_option maxRecDepth 100000 in
set_option maxHeartbeats 8000000 in
theorem ops_any (no fo : Option Addr) (n nc k fc : Nat) (L : List Nd) (F : List Fw) (hf : Fit9 n k L F) (w : World) (hm : Lex.ML w) (hA : NArg w no n L) (hF : FArg w fo k F) :
  Calls Tryz.prog 35 #[.agg #[.slice no n nc, .slice fo k fc]] w (OpsPost w (opsE (resG L F) L)) := by
 obtain ⟨V, hV⟩ : ∃ V, w.alloc (.cells #[.slice no n nc, .slice fo k fc] 25) = V := ⟨_, rfl⟩
 have BV : Bel w V := by rw [← hV]; exact Bel.alloc (Bel.refl _) _
 obtain ⟨v0, v1⟩ : V.cell? ⟨w.heap.size, 0, none⟩ = some (.slice no n nc) ∧ V.cell? ⟨w.heap.size, 1, none⟩ = some (.slice fo k fc) := by
  rw [← hV]
  exact ⟨World.cell?_alloc_new .., World.cell?_alloc_new ..⟩
 have HBV := Lib.hid BV
 have HVe := Lib.hid hV
 have Hv0 := Lib.hid v0
 have Hv1 := Lib.hid v1
 have HLn := Lib.hid hA.1
 have hn := hf.hn
 have HA := Lib.hid hA
 have HC := Lib.hid (scheck_any no fo n nc k fc L F hf V (hm.on BV) (hA.on BV) (hF.on BV))
 unfold opsE
 generalize resG L F = R at *
 obtain ⟨Xs, Xl, Xp, er⟩ := R
 dsimp only at HC ⊢
 clear hf hm hA hF BV hV
 by_cases he : er = 0
 rotate_left
 ·rw [if_pos he]
  have h1 : (er == 0) = false := by simpa using he
  have h2 : (er != 0) = true := by simpa using he
  clear he
  go_enter Tryz.func35, Tryz.ntmps35
  go_wp2_with fail
  rw [HVe.out]
  refine HC.out.mono ?_
  rintro e w2 ⟨rfl, g⟩
  have G := Lib.hid g
  clear g v0 v1
  go_wp2_with fail
  go_ret
  exact ⟨none, 0, 0, [], rfl, rfl, SlArg.nil _, Bel.trans HBV.out G.out⟩
 rw [if_neg (by simpa using he)]
 subst he
 obtain ⟨X, hX⟩ : ∃ X, opsN L = X := ⟨_, rfl⟩
 rw [hX]
 have HX := Lib.hid (show [] ++ opsN (L.drop 0) = X from hX)
 clear hX
 go_enter Tryz.func35, Tryz.ntmps35
 go_wp2_with fail
 rw [HVe.out]
 refine HC.out.mono ?_
 rintro e w2 ⟨rfl, g⟩
 have G := Lib.hid g
 have x0 := g.cell' v0
 have x1 := g.cell' v1
 have hR0 := Lib.hid (show w2.ownsRow V.heap.size 9 1 (.slice none 0 0) 0 (encS []) from World.ownsRow_nil _ _ _ _)
 clear g v0 v1
 go_wp2_with fail
 go_loopw [5, 18] (fun av iv wr => ∃ (j m c : Nat) (a : Option Addr) (acc : List ByteArray), av = .slice a m c ∧ iv = .int .i64 (j : Int) ∧ j ≤ n ∧ m ≤ j ∧ Hid (wr.ownsRow V.heap.size 9 1 (.slice a m c) m (encS acc)) ∧ Hid (Bel V wr) ∧ Hid (acc ++ opsN (L.drop j) = X)) (fun _ iv _ => n - (intOf iv).toNat)
 case atStart => exact ⟨0, 0, 0, none, [], rfl, rfl, Nat.zero_le _, Nat.zero_le _, hR0, G, HX⟩
 case round =>
  obtain ⟨j, m, c, a, acc, rfl, rfl, hj, hmj, HR, HB, HM⟩ := hrel
  rename World => wr
  have v0 := HB.out.cell' Hv0.out
  have v1 := HB.out.cell' Hv1.out
  rcases Nat.lt_or_ge j n with hjc | hjc
  ·have hjL : j < L.length := by rw [HLn.out]; exact hjc
   obtain ⟨nb, nf, rfl, hcs⟩ := HA.out.2 (by omega)
   obtain ⟨v, hv, hcc⟩ := hcs j hjL
   have hM := HM.out
   rw [List.drop_eq_getElem_cons hjL] at hM
   obtain ⟨x, hx⟩ : ∃ x, L[j] = x := ⟨_, rfl⟩
   rw [hx] at hv hM
   have hvk := hv.k
   have hvs := hv.s
   obtain ⟨vk, vs, vi, ko, kn, kc, jo, jn, jc⟩ := v
   dsimp only at hvk hvs
   subst hvk hvs
   have BW := Bel.trans HBV.out HB.out
   have c0 : wr.cell? ⟨nb, nf + j * 5, none⟩ = some (.int .i64 x.k) := BW.cell' (by simpa using hcc 0 _ rfl)
   have c1 : wr.cell? ⟨nb, nf + j * 5 + 1, none⟩ = some (.string ⟨x.s.toArray⟩) := BW.cell' (by simpa using hcc 1 _ rfl)
   have c2 : wr.cell? ⟨nb, nf + j * 5 + 2, none⟩ = some (.int .i64 vi) := BW.cell' (by simpa using hcc 2 _ rfl)
   have c3 : wr.cell? ⟨nb, nf + j * 5 + 3, none⟩ = some (.slice ko kn kc) := BW.cell' (by simpa using hcc 3 _ rfl)
   have c4 : wr.cell? ⟨nb, nf + j * 5 + 4, none⟩ = some (.slice jo jn jc) := BW.cell' (by simpa using hcc 4 _ rfl)
   have hj1 : (j : Int) < (n : Int) := by omega
   have hj0 : (0 : Int) ≤ (j : Int) := by omega
   have HBl := Lib.hid (show Bel wr (wr.alloc (.cells #[.int .i64 x.k, .string ⟨x.s.toArray⟩, .int .i64 vi, .slice ko kn kc, .slice jo jn jc] 60)) from Bel.alloc (Bel.refl _) _)
   clear hv hcc hcs hx BW
   by_cases h12 : x.k = 12
   ·have HM2 := Lib.hid (show (acc ++ [⟨x.s.toArray⟩]) ++ opsN (L.drop (j + 1)) = X by rw [← hM, opsN_yes h12, List.append_assoc]; rfl)
    rw [h12] at c0 HBl
    obtain ⟨xs, hxs⟩ : ∃ xs : ByteArray, (⟨x.s.toArray⟩ : ByteArray) = xs := ⟨_, rfl⟩
    rw [hxs] at c1 HBl HM2
    obtain ⟨W1, hW1⟩ : ∃ W1, wr.alloc (.cells #[.int .i64 12, .string xs, .int .i64 vi, .slice ko kn kc, .slice jo jn jc] 60) = W1 := ⟨_, rfl⟩
    rw [hW1] at HBl
    have HB2 := Lib.hid (Bel.alloc (Bel.trans HB.out HBl.out) (.cells #[.string xs] 9))
    have HR2 := Lib.hid (own_kept (F := fun _ => False) HR.out (Mod.of_bel (Bel.trans HBl.out (Bel.alloc (Bel.refl W1) (.cells #[.string xs] 9)))) (fun _ _ h => h))
    have hbs := HB2.out.size
    have Hnw : Hid (∀ j u, [Value.string xs][j]? = some u → (W1.alloc (.cells #[.string xs] 9)).cell? ((⟨W1.heap.size, 0, none⟩ : Addr).add j) = some u) := Lib.hid (World.news_of_block (cs := #[.string xs]) (t := 9) (fr := (0, 0)) (heap_new W1 _))
    have hz1 : W1.heap.size = wr.heap.size + 1 := by rw [← hW1, alloc_szs]
    have hi1 : m + 1 ≤ 1099511627776 := by omega
    rw [hz1] at Hnw
    rw [← hW1] at HR2 HB2 hbs Hnw
    clear hM hxs hW1 hz1
    go_wp2_with (at_builtin; refine list_appT _ _ rfl rfl rfl rfl HR2.out hbs Hnw.out hi1 ?_; intro o9 c9 w9 k9 g9; refine Hid.out ?_)
    refine Lib.hid ?_
    have G9 := Lib.hid (Mod.bel_of HB2.out g9.out (fun i h => h))
    clear g9
    go_wp2
    go_round
    case rel => exact ⟨j + 1, m + 1, c9, o9, acc ++ [xs], rfl, by go_num, by omega, by omega, k9, G9, HM2⟩
    case measure => first | (simp [intOf]; done) | (simp [intOf]; omega)
   ·have HM2 := Lib.hid (show acc ++ opsN (L.drop (j + 1)) = X by rw [← hM, opsN_no h12])
    have b12 : (x.k == 12) = false := by simpa using h12
    have HR2 := Lib.hid (own_kept (F := fun _ => False) HR.out (Mod.of_bel HBl.out) (fun _ _ h => h))
    have HB2 := Lib.hid (Bel.trans HB.out HBl.out)
    clear hM h12
    go_wp2_with fail
    go_round
    case rel => exact ⟨j + 1, m, c, a, acc, rfl, by go_num, by omega, by omega, HR2, HB2, HM2⟩
    case measure => first | (simp [intOf]; done) | (simp [intOf]; omega)
  ·obtain rfl : j = n := by omega
   have hXa : acc = X := by
    have := HM.out
    rw [List.drop_eq_nil_of_le (by rw [HLn.out]; exact Nat.le_refl _), opsN, List.append_nil] at this
    exact this
   subst hXa
   have HS := Lib.hid (Idn.sorted_any a m c acc (by omega) wr (own_sarg HR.out))
   go_wp2_with fail
   refine HS.out.mono ?_
   rintro e w3 ⟨⟨v, rfl, o3, k3, c3, D, rfl, hD, hown⟩, g⟩
   have HB3 := Lib.hid (Bel.trans HBV.out (Bel.trans HB.out g))
   clear g
   go_wp2_with fail
   go_ret
   exact ⟨o3, k3, c3, D, rfl, hD, own_sarg hown, HB3.out⟩
end Syn
end Go.Proofs.YtmifookckpelaaaGreatDoor

/-
 Layer 9: the law Reaches.
-/
namespace Go.Proofs.YtmifookckpelaaaGreatDoor
open Go.RowKit Go.ChangeShapes Go.WideShapes
namespace Syn
theorem fit_small2 {L : List Nd} {F : List Fw} {n k : Nat} (hs : SmallP L F) (hr : Rch L F) (hn : L.length = n) (hk : F.length = k) : Fit9 n k L F :=
 ⟨by have := hs.hn; omega, by have := hs.hk; omega, hr.wf, fun x hx => ⟨(hr.sn x hx).1, by have := (hs.nd x hx).1; omega⟩, fun f hf => ⟨by have := hs.fn f hf; omega, (hr.sf f hf).2⟩⟩
theorem info_boolz : (Tryz.prog.info? 4).map (fun i => (i.zero, i.size, i.bytes)) = some (some (.bool false), 1, 1) := by kernel_rfl
/-- Which functions a row of bools names. -/
def SeenI (G n : Nat) (l : List Int) (w : World) : Prop := ∀ j : Nat, j < n → w.cell? ⟨G, j, none⟩ = some (.bool (decide ((j : Int) ∈ l))) ∧ w.frozen? ⟨G, j, none⟩ = false
theorem seenI0 (w : World) (n : Nat) (t : TypeId) : SeenI w.heap.size n [] (w.alloc (.cells (madeCells #[.bool false] n) t)) := fun j hj => ⟨by
 rw [World.cell?_alloc_new]
 have : (madeCells #[Value.bool false] n).toList[j]? = some (.bool false) := by rw [toList_madeCells_one, List.getElem?_replicate, if_pos hj]
 simpa using this, World.frozen?_alloc_new _ _ _ _⟩
theorem SeenI.step {G n x : Nat} {l : List Int} {w : World} (h : SeenI G n l w) (hx : x < n) : SeenI G n (l ++ [(x : Int)]) (w.setCell ⟨G, x, none⟩ (.bool true)) := fun j hj => by
 refine ⟨?_, by rw [World.frozen?_setCell]; exact (h j hj).2⟩
 by_cases e : j = x
 ·subst e
  rw [World.cell?_setCell_same _ _ _ (h j hj).1]
  simp
 ·rw [World.cell?_setCell_other _ _ _ _ (fun h => e (Addr.mk.inj h).2.1.symm), (h j hj).1]
  have : ¬ ((j : Int) = (x : Int)) := by omega
  simp [this]
theorem SeenI.on {G n : Nat} {l : List Int} {w w' : World} (h : SeenI G n l w) (g : Bel w w') : SeenI G n l w' := fun j hj => ⟨g.cell' (h j hj).1, (mod_froz (Mod.of_bel (F := fun _ => False) g) (h j hj).1 (fun h => h)).trans (h j hj).2⟩
theorem dup_ge {F0 : List Fw} : ∀ (F : List Fw) (i : Nat), dupF F0 i F = none → ∀ (q : Nat) (f : Fw), F[q]? = some f → ((i + q : Nat) : Int) ≤ findI F0 f.name
 | [], _, _, q, f, h => by simp at h
 | g :: F, i, hd, q, f, h => by
  rw [dupF] at hd
  split at hd
  ·cases hd
  ·rename_i hn
   cases q with
   | zero =>
    simp only [List.getElem?_cons_zero, Option.some.injEq] at h
    subst h
    have : ¬ findI F0 g.name < (i : Int) := fun a => hn (Or.inr (Or.inl a))
    omega
   | succ q =>
    rw [List.getElem?_cons_succ] at h
    have := dup_ge F (i + 1) hd q f h
    omega
theorem fix_le (s : Txt) : ∀ (F : List Fw) (i q : Nat) (f : Fw), F[q]? = some f → f.name = s → fixI (fun f => decide (f.name = s)) i F ≤ ((i + q : Nat) : Int)
 | [], _, q, f, h, _ => by simp at h
 | g :: F, i, q, f, h, hs => by
  rw [fixI]
  split
  ·omega
  ·rename_i hg
   cases q with
   | zero =>
    simp only [List.getElem?_cons_zero, Option.some.injEq] at h
    subst h
    exact absurd (decide_eq_true hs) hg
   | succ q =>
    rw [List.getElem?_cons_succ] at h
    have := fix_le s F (i + 1) q f h hs
    omega
theorem dup_find {F : List Fw} (hd : dupF F 0 F = none) (q : Nat) (f : Fw) (h : F[q]? = some f) : findI F f.name = (q : Int) := by
 have h1 := dup_ge F 0 hd q f h
 have h2 := fix_le f.name F 0 q f h rfl
 have h3 : findI F f.name = fixI (fun g => decide (g.name = f.name)) 0 F := rfl
 rw [Nat.zero_add] at h1 h2
 omega
/-- What Reachable says of a program that is in order. -/
theorem reach_is {L : List Nd} {F : List Fw} (h : (resG L F).er = 0) : (reachE (resG L F) L F).Nodup ∧ (∀ x ∈ reachE (resG L F) L F, 0 ≤ x ∧ x < (F.length : Int)) ∧ (∀ (q : Nat) (f : Fw), F[q]? = some f → f.name = mainT → (q : Int) ∈ reachE (resG L F) L F) ∧ ∀ q : Nat, (q : Int) ∈ reachE (resG L F) L F → ∀ x ∈ callsL L F q, x ∈ reachE (resG L F) L F := by
 obtain ⟨-, -, -, hc, hd, hm⟩ := res_ok h
 obtain ⟨h1, h2⟩ := main_in hm
 unfold reachE
 rw [if_neg (by simpa using h)]
 have hC : ∀ f, ∀ x ∈ callC L F f, 0 ≤ x ∧ x < (F.length : Int) := fun f x hx => callsL_in hx
 obtain ⟨k1, ⟨D, k2⟩, k3⟩ := reach_ok hC F.length 0 [findI F mainT] ⟨by simp, fun x hx => by rw [List.mem_singleton.1 hx]; exact ⟨h1, h2⟩⟩ (by omega) (by simp) (fun j f hj => absurd hj (Nat.not_lt_zero j))
 refine ⟨(List.mergeSort_perm _ _).nodup_iff.2 k1.nd, fun x hx => k1.bd x (List.mem_mergeSort.1 hx), fun q f hf hn => ?_, fun q hq x hx => ?_⟩
 ·rw [List.mem_mergeSort, k2]
  have e : findI F mainT = (q : Int) := by
   rw [← hn]
   exact dup_find hd q f hf
  rw [e]
  exact List.mem_append_left _ (List.mem_singleton.2 rfl)
 ·rw [List.mem_mergeSort] at hq ⊢
  exact k3 _ hq x (by unfold callC; rw [Int.toNat_natCast]; exact hx)
theorem ops_mem : ∀ (L : List Nd) (i : Nat) (x : Nd), L[i]? = some x → x.k = 12 → (⟨x.s.toArray⟩ : ByteArray) ∈ opsN L
 | [], i, x, h, _ => by simp at h
 | y :: L, i, x, h, hk => by
  cases i with
  | zero =>
   simp only [List.getElem?_cons_zero, Option.some.injEq] at h
   subst h
   rw [opsN_yes hk]
   exact List.mem_cons_self ..
  | succ i =>
   rw [List.getElem?_cons_succ] at h
   have := ops_mem L i x h hk
   by_cases hy : y.k = 12
   ·rw [opsN_yes hy]
    exact List.mem_cons_of_mem _ this
   ·rw [opsN_no hy]
    exact this
theorem opsN_len : ∀ L : List Nd, (opsN L).length ≤ L.length
 | [] => Nat.le_refl _
 | x :: r => by
  have := opsN_len r
  rw [opsN]
  split
  ·rw [List.length_cons, List.length_cons]; omega
  ·rw [List.length_cons]; omega
theorem make_boolz (n : Nat) (hn : n ≤ 64) (W : World) : (Instr.makeSlice 57 (.int .i64 (n : Int)) (.int .i64 (n : Int))).run Tryz.prog W = .ok (.slice (some ⟨W.heap.size, 0, none⟩) n n) (W.alloc (.cells (madeCells #[.bool false] n) 4)) := by
 obtain ⟨i0, hi, hz0, hz1, hz2⟩ := info_parts info_boolz
 have h := run_make (P := Tryz.prog) (w := W) 57 4 i0 _ Tryz.underlying57 hi hz0 .i64 .i64 (n : Int) (n : Int) (by omega) (by omega) (by rw [hz2]; omega) (by omega)
 rw [h, hz1]
 simp only [Int.toNat_natCast, Nat.mul_one]
 rfl
set_option maxRecDepth 100000 in
set_option maxHeartbeats 16000000 in
theorem law_reaches9 (no fo : Option Addr) (n nc k fc : Nat) (L : List Nd) (F : List Fw) (hn : n ≤ 4611686018427387904) (hk : k ≤ 4611686018427387904) (hnc : n ≤ nc) (w : World) (hm : Lex.ML w) (hA : NArg w no n L) (hF : FArg w fo k F) (hr : Rch L F) :
  Calls Tryz.prog 11 #[.agg #[.slice no n nc, .slice fo k fc]] w fun e w' => e = .returned (.bool true) ∧ Bel w w' := by
 obtain ⟨V, hV⟩ : ∃ V, w.alloc (.cells #[.slice no n nc, .slice fo k fc] 25) = V := ⟨_, rfl⟩
 have BV : Bel w V := by rw [← hV]; exact Bel.alloc (Bel.refl _) _
 obtain ⟨v0, v1⟩ : V.cell? ⟨w.heap.size, 0, none⟩ = some (.slice no n nc) ∧ V.cell? ⟨w.heap.size, 1, none⟩ = some (.slice fo k fc) := by
  rw [← hV]
  exact ⟨World.cell?_alloc_new .., World.cell?_alloc_new ..⟩
 have hLn := hA.1
 have hFk := hF.1
 have HBV := Lib.hid BV
 have HVe := Lib.hid hV
 have HP := Lib.hid (show ∀ W, Bel V W → W.cell? ⟨w.heap.size, 0, none⟩ = some (.slice no n nc) ∧ W.cell? ⟨w.heap.size, 1, none⟩ = some (.slice fo k fc) from fun W g => ⟨g.cell' v0, g.cell' v1⟩)
 have HW := Lib.hid (fun W (g : Bel V W) => awake9_any W ((hm.on BV).on g))
 have HS := Lib.hid (small_any no fo n nc k fc L F hn hk V (hA.on BV) (hF.on BV) hr.wf (fun x hx => (hr.fn x hx).1))
 have HC := Lib.hid (fun (hs : SmallP L F) W (g : Bel V W) => scheck_any no fo n nc k fc L F (fit_small2 hs hr hLn hFk) W ((hm.on BV).on g) ((hA.on BV).on g) ((hF.on BV).on g))
 have HRe := Lib.hid (fun (hs : SmallP L F) W (g : Bel V W) => reachable_any no fo n nc k fc L F (fit_small2 hs hr hLn hFk) hnc W ((hm.on BV).on g) ((hA.on BV).on g) ((hF.on BV).on g))
 have HCa := Lib.hid (fun (hs : SmallP L F) (f : Int) W (g : Bel V W) => calls_any no fo n nc k fc L F (fit_small2 hs hr hLn hFk) hnc f W ((hm.on BV).on g) ((hA.on BV).on g) ((hF.on BV).on g))
 have HOp := Lib.hid (fun (hs : SmallP L F) W (g : Bel V W) => ops_any no fo n nc k fc L F (fit_small2 hs hr hLn hFk) W ((hm.on BV).on g) ((hA.on BV).on g) ((hF.on BV).on g))
 have HF := Lib.hid (show ∀ q f, F[q]? = some f → ∃ b off, fo = some ⟨b, off, none⟩ ∧ ∀ W, Bel V W → W.cell? ⟨b, off + q * 3, none⟩ = some (.string ⟨f.name.toArray⟩) from fun q f hf => by
  obtain ⟨hqf, hfe⟩ := List.getElem?_eq_some_iff.1 hf
  obtain ⟨b, off, rfl, hcf⟩ := hF.2 (by omega)
  obtain ⟨⟨fs, po, pk, pc, fj⟩, hfv, hfc⟩ := hcf q hqf
  rw [hfe] at hfv
  exact ⟨b, off, rfl, fun W g => (Bel.trans BV g).cell' (by have := hfc 0 _ rfl; rw [hfv.s] at this; simpa using this)⟩)
 have HN := Lib.hid (show ∀ q x, L[q]? = some x → ∃ b off, no = some ⟨b, off, none⟩ ∧ ∀ W, Bel V W → W.cell? ⟨b, off + q * 5, none⟩ = some (.int .i64 x.k) ∧ W.cell? ⟨b, off + q * 5 + 1, none⟩ = some (.string ⟨x.s.toArray⟩) from fun q x hx => by
  obtain ⟨hqf, hfe⟩ := List.getElem?_eq_some_iff.1 hx
  obtain ⟨b, off, rfl, hcf⟩ := hA.2 (by omega)
  obtain ⟨v, hv, hc⟩ := hcf q hqf
  rw [hfe] at hv
  exact ⟨b, off, rfl, fun W g => ⟨(Bel.trans BV g).cell' (by have := hc 0 _ rfl; rw [hv.k] at this; simpa using this), (Bel.trans BV g).cell' (by have := hc 1 _ rfl; rw [hv.s] at this; simpa using this)⟩⟩)
 have HLn := Lib.hid hLn
 have HFk := Lib.hid hFk
 clear hA hF hr hm BV hV v0 v1 hLn hFk
 go_enter Tryz.func11, Tryz.ntmps11
 go_wp2_with fail
 rw [HVe.out]
 refine HS.out.mono ?_
 rintro e w1 ⟨bs, rfl, hsm, g⟩
 have G1 := Lib.hid g
 obtain ⟨x0, x1⟩ := HP.out w1 g
 clear g
 cases bs with
 | false =>
  go_wp2_with fail
  refine (HW.out _ G1.out).mono ?_
  rintro e w2 ⟨rfl, g⟩
  go_wp2_with fail
  go_ret
  exact ⟨rfl, Bel.trans HBV.out (Bel.trans G1.out g)⟩
 | true =>
 have hs := Lib.hid (hsm rfl)
 have hk20 : k ≤ 20 := by have := hs.out.hk; rw [HFk.out] at this; exact this
 have hn200 : n ≤ 200 := by have := hs.out.hn; rw [HLn.out] at this; exact this
 clear hsm
 go_wp2_with fail
 refine (HC.out hs.out _ G1.out).mono ?_
 rintro e w3 ⟨rfl, g⟩
 have G3 := Lib.hid (Bel.trans G1.out g)
 clear g x0 x1
 obtain ⟨x0, x1⟩ := HP.out w3 G3.out
 by_cases he : (resG L F).er = 0
 rotate_left
 ·have h1 : ((resG L F).er == 0) = false := by simpa using he
  have h2 : ((resG L F).er != 0) = true := by simpa using he
  have hre := HRe.out hs.out w3 G3.out
  have hr0 : reachE (resG L F) L F = [] := by unfold reachE; rw [if_pos he]
  have ho0 : opsE (resG L F) L = [] := by unfold opsE; rw [if_pos he]
  rw [hr0] at hre
  rw [ho0] at HOp
  have HRe3 := Lib.hid hre
  generalize (resG L F).er = er at *
  generalize (resG L F).pos = pos at *
  clear he hr0 ho0 hre HCa HRe
  go_wp2_with fail
  refine HRe3.out.mono ?_
  rintro e w4 ⟨ra, rm, rc, rfl, hrow, g, -⟩
  obtain rfl : 0 = rm := hrow.1
  have G4 := Lib.hid (Bel.trans G3.out g)
  clear g x0 x1 hrow
  obtain ⟨x0, x1⟩ := HP.out w4 G4.out
  go_wp2_with fail
  refine (HOp.out hs.out w4 G4.out).mono ?_
  rintro e w5 ⟨oa, om, oc, xs, rfl, hx, hrow, g⟩
  obtain rfl : xs = [] := List.map_eq_nil_iff.1 hx
  obtain rfl : 0 = om := hrow.1
  have G5 := Lib.hid (Bel.trans G4.out g)
  clear g x0 x1 hrow hx
  go_wp2_with fail
  refine (HW.out _ G5.out).mono ?_
  rintro e w6 ⟨rfl, g⟩
  go_wp2_with fail
  go_ret
  exact ⟨rfl, Bel.trans HBV.out (Bel.trans G5.out g)⟩
 have Hri := Lib.hid (reach_is he)
 have hce : ∀ q : Nat, q < k → callsE (resG L F) L F k (q : Int) = callsL L F q := fun q hq => by
  unfold callsE
  rw [if_neg (by simpa using he), if_pos (by omega), Int.toNat_natCast]
 have HCa2 := Lib.hid (show ∀ q : Nat, q < k → ∀ W, Bel V W → Calls Tryz.prog 37 #[.agg #[.slice no n nc, .slice fo k fc], .int .i64 (q : Int)] W (CsPost W (callsL L F q)) from fun q hq W g => by
  have := HCa.out hs.out (q : Int) W g
  rw [hce q hq] at this
  exact this)
 have hop : opsE (resG L F) L = Idn.srt ((opsN L).map ByteArray.toList) := by unfold opsE; rw [if_neg (by simpa using he)]
 rw [hop] at HOp
 rw [he]
 generalize reachE (resG L F) L F = l at *
 generalize (resG L F).pos = pos at *
 clear HCa HC hce hop he
 go_wp2_with fail
 refine (HRe.out hs.out w3 G3.out).mono ?_
 rintro e w4 ⟨ra, rm, rc, rfl, hrow, g, -⟩
 have G4 := Lib.hid (Bel.trans G3.out g)
 have Hrow := Lib.hid hrow
 have hmk := make_boolz k (by omega)
 clear g x0 x1 hrow
 obtain ⟨x0, x1⟩ := HP.out w4 G4.out
 have hS0 := Lib.hid (seenI0 w4 k 4)
 have G5 := Lib.hid (Bel.alloc G4.out (.cells (madeCells #[.bool false] k) 4))
 obtain ⟨W5, hW5⟩ : ∃ W5, w4.alloc (.cells (madeCells #[.bool false] k) 4) = W5 := ⟨_, rfl⟩
 have HW5 := Lib.hid hW5
 rw [hW5] at hS0 G5
 have Hrow5 := Lib.hid (show RArg W5 ra rm l by rw [← hW5]; exact Hrow.out.on (Bel.alloc (Bel.refl _) _))
 have hG := Lib.hid (show V.heap.size ≤ w4.heap.size from G4.out.size)
 have hrlt := Lib.hid (show ∀ b off, ra = some ⟨b, off, none⟩ → 0 < rm → b < w4.heap.size from fun b off e h => by
  obtain ⟨b2, f2, e2, hc2⟩ := Hrow.out.2 h
  rw [e] at e2
  cases e2
  exact World.block_lt_of_cell? w4 _ (hc2 0 (by have := Hrow.out.1; omega)))
 clear hW5
 go_wp2_with fail
 go_loopw [49] (fun iv wr => ∃ j : Nat, iv = .int .i64 (j : Int) ∧ j ≤ rm ∧ Hid (SeenI w4.heap.size k (l.take j) wr) ∧ Hid (Mod (fun t => t = w4.heap.size) W5 wr)) (fun iv _ => rm - (intOf iv).toNat)
 case atStart => exact ⟨0, rfl, Nat.zero_le _, Lib.hid (by rw [HW5.out, List.take_zero]; exact hS0.out), Lib.hid (by rw [HW5.out]; exact Mod.refl _ _)⟩
 case round =>
  obtain ⟨j, rfl, hj, HSn, HM⟩ := hrel
  rename World => wr
  have HB := Lib.hid (Mod.bel_of G5.out HM.out (fun i h => by rw [h]; exact hG.out))
  obtain ⟨x0, x1⟩ := HP.out wr HB.out
  have hlm : l.length = rm := Hrow.out.1
  obtain ⟨hnd, hbd, hmn, hcl⟩ := Hri.out
  rcases Nat.lt_or_ge j rm with hjm | hjm
  ·have hjl : j < l.length := by omega
   obtain ⟨y, hy⟩ : ∃ y, l[j] = y := ⟨_, rfl⟩
   have hyb := hbd y (by rw [← hy]; exact List.getElem_mem hjl)
   rw [HFk.out] at hyb
   obtain ⟨yn, rfl⟩ : ∃ yn : Nat, y = (yn : Int) := ⟨y.toNat, by omega⟩
   have hno : ¬ (yn : Int) ∈ l.take j := fun hin => by
    obtain ⟨i, hi, e⟩ := List.getElem_of_mem hin
    rw [List.length_take] at hi
    rw [List.getElem_take] at e
    exact List.pairwise_iff_getElem.1 hnd i j (by omega) hjl (by omega) (by rw [e, hy])
   obtain ⟨rb, ro, rfl, hrc⟩ := Hrow5.out.2 (by omega)
   have hrb := hrlt.out rb ro rfl (by omega)
   have c0 := HM.out.cell (hrc j hjl) (by show ¬ rb = w4.heap.size; omega)
   rw [hy] at c0
   obtain ⟨s0, f0⟩ := HSn.out yn (by omega)
   rw [decide_eq_false hno] at s0
   have HS2 := Lib.hid (show SeenI w4.heap.size k (l.take (j + 1)) (wr.setCell ⟨w4.heap.size, yn, none⟩ (.bool true)) from by
    rw [List.take_succ_eq_append_getElem hjl, hy]
    exact HSn.out.step (by omega))
   have HM2 := Lib.hid (HM.out.setCell (p := ⟨w4.heap.size, yn, none⟩) (Or.inl rfl) (.bool true))
   have hj1 : (j : Int) < (rm : Int) := by omega
   have hj0 : (0 : Int) ≤ (j : Int) := by omega
   have y0 : ¬ (yn : Int) < 0 := by omega
   have y1 : (yn : Int) < (k : Int) := by omega
   have y2 : ¬ (k : Int) ≤ (yn : Int) := by omega
   have y3 : (0 : Int) ≤ (yn : Int) := by omega
   have hrm : rm ≤ k := by have := nodup_len F.length l ⟨hnd, hbd⟩; rw [HFk.out] at this; omega
   clear hno hrc hy hyb hnd hbd hmn hcl hlm
   go_wp2_with fail
   go_round
   case rel => exact ⟨j + 1, by go_num, by omega, HS2, HM2⟩
   case measure => simp [intOf]; omega
  ·obtain rfl : j = rm := by omega
   have HSl := Lib.hid (show SeenI w4.heap.size k l wr by have := HSn.out; rw [List.take_of_length_le (by omega)] at this; exact this)
   clear hnd hbd hlm hmn hcl
   have Hcl := Lib.hid (show ∀ q : Nat, (q : Int) ∈ l → ∀ x ∈ callsL L F q, x ∈ l from Hri.out.2.2.2)
   have Hmn := Lib.hid (show ∀ (q : Nat) (f : Fw), F[q]? = some f → f.name = mainT → (q : Int) ∈ l from Hri.out.2.2.1)
   go_wp2_with fail
   go_loopw [74] (fun iv w7 => ∃ q : Nat, iv = .int .i64 (q : Int) ∧ q ≤ k ∧ Hid (SeenI w4.heap.size k l w7) ∧ Hid (Bel V w7)) (fun iv _ => k - (intOf iv).toNat)
   case atStart => exact ⟨0, rfl, Nat.zero_le _, HSl, HB⟩
   case round =>
    obtain ⟨q, rfl, hq, HSq, HB7⟩ := hrel
    rename World => w7
    obtain ⟨x0, x1⟩ := HP.out w7 HB7.out
    rcases Nat.lt_or_ge q k with hqk | hqk
    ·have hql : q < F.length := by rw [HFk.out]; exact hqk
     obtain ⟨f, hfe⟩ : ∃ f, F[q]? = some f := ⟨_, List.getElem?_eq_getElem hql⟩
     obtain ⟨fb, ff, rfl, hfn⟩ := HF.out q f hfe
     have d0 := hfn w7 HB7.out
     obtain ⟨s0, -⟩ := HSq.out q hqk
     have HCq := Lib.hid (HCa2.out q hqk w7 HB7.out)
     have Hbx := Lib.hid (show ∀ x ∈ callsL L F q, 0 ≤ x ∧ x < (k : Int) from fun x hx => by have := callsL_in hx; rw [HFk.out] at this; exact this)
     have Hbl := Lib.hid (callsL_len L F q)
     have Hcq := Lib.hid (Hcl.out q)
     have hmq := Hmn.out q f hfe
     obtain ⟨bq, hbq⟩ : ∃ bq, decide ((q : Int) ∈ l) = bq := ⟨_, rfl⟩
     have Hbq := Lib.hid (show bq = true → (q : Int) ∈ l from fun h => by rw [← hbq] at h; exact of_decide_eq_true h)
     rw [hbq] at s0
     have Hs0 := Lib.hid s0
     have hq1 : (q : Int) < (k : Int) := by omega
     have hq0 : (0 : Int) ≤ (q : Int) := by omega
     obtain ⟨nm, hnm⟩ : ∃ nm, f.name = nm := ⟨_, rfl⟩
     rw [hnm] at d0 hmq
     have hmb : nm = [109, 97, 105, 110] → bq = true := fun h => by rw [← hbq]; exact decide_eq_true (hmq h)
     generalize callsL L F q = cl at *
     clear hmq hnm hbq hfn hfe
     by_cases hmain : nm = [109, 97, 105, 110]
     ·have hb1 := hmb hmain
      subst hb1
      rw [hmain] at d0
      clear hmb hmain
      go_wp2_with fail
      refine HCq.out.mono ?_
      rintro e w8 ⟨ca, cm, cc, rfl, k1, k2, -⟩
      have HB8 := Lib.hid (Bel.trans HB7.out k2)
      have HS8 := Lib.hid (HSq.out.on k2)
      have K1 := Lib.hid k1
      have s8 := k2.cell' Hs0.out
      have Hs8 := Lib.hid s8
      clear k1 k2 x0 x1 s0 d0 s8
      go_wp2_with fail
      go_loopw [95] (fun iv w9 => ∃ j : Nat, iv = .int .i64 (j : Int) ∧ j ≤ cm ∧ w9 = w8) (fun iv _ => cm - (intOf iv).toNat)
      case atStart => exact ⟨0, rfl, Nat.zero_le _, rfl⟩
      case round =>
       obtain ⟨j, rfl, hj, hw⟩ := hrel
       obtain rfl := hw.symm
       have hcm : cl.length = cm := K1.out.1
       have hcl2 := Hbl.out
       rw [HFk.out] at hcl2
       rcases Nat.lt_or_ge j cm with hjc | hjc
       ·have hjl : j < cl.length := by omega
        obtain ⟨y, hy⟩ : ∃ y, cl[j] = y := ⟨_, rfl⟩
        have hym : y ∈ cl := by rw [← hy]; exact List.getElem_mem hjl
        have hyb := Hbx.out y hym
        obtain ⟨yn, rfl⟩ : ∃ yn : Nat, y = (yn : Int) := ⟨y.toNat, by omega⟩
        obtain ⟨cb, co, rfl, hcc⟩ := K1.out.2 (by omega)
        have c0 := hcc j hjl
        rw [hy] at c0
        obtain ⟨s1, -⟩ := HS8.out yn (by omega)
        have s0 := Hs8.out
        have hj1 : (j : Int) < (cm : Int) := by omega
        have hj0 : (0 : Int) ≤ (j : Int) := by omega
        have y0 : ¬ (yn : Int) < 0 := by omega
        have y1 : (yn : Int) < (k : Int) := by omega
        have y2 : ¬ (k : Int) ≤ (yn : Int) := by omega
        have y3 : (0 : Int) ≤ (yn : Int) := by omega
        have hin : true = true → decide ((yn : Int) ∈ l) = true := fun h => decide_eq_true (Hcq.out (Hbq.out (by first | exact h | trivial)) _ hym)
        generalize decide ((yn : Int) ∈ l) = by1 at *
        clear hcc hy hym hyb
        have hi := hin rfl
        subst hi
        clear hin
        go_wp2_with fail
        go_round
        case rel => exact ⟨j + 1, by go_num, by omega, by first | rfl | trivial⟩
        case measure => first | (simp [intOf]; done) | (simp [intOf]; omega)
       ·obtain rfl : j = cm := by omega
        go_wp2_with fail
        go_round
        case rel => exact ⟨q + 1, by go_num, by omega, HS8, HB8⟩
        case measure => first | (simp [intOf]; done) | (simp [intOf]; omega)
     ·have bm : (nm == [109, 97, 105, 110]) = false := by simpa using hmain
      clear hmb hmain
      go_wp2_with fail
      refine HCq.out.mono ?_
      rintro e w8 ⟨ca, cm, cc, rfl, k1, k2, -⟩
      have HB8 := Lib.hid (Bel.trans HB7.out k2)
      have HS8 := Lib.hid (HSq.out.on k2)
      have K1 := Lib.hid k1
      have s8 := k2.cell' Hs0.out
      have Hs8 := Lib.hid s8
      clear k1 k2 x0 x1 s0 d0 s8
      go_wp2_with fail
      go_loopw [95] (fun iv w9 => ∃ j : Nat, iv = .int .i64 (j : Int) ∧ j ≤ cm ∧ w9 = w8) (fun iv _ => cm - (intOf iv).toNat)
      case atStart => exact ⟨0, rfl, Nat.zero_le _, rfl⟩
      case round =>
       obtain ⟨j, rfl, hj, hw⟩ := hrel
       obtain rfl := hw.symm
       have hcm : cl.length = cm := K1.out.1
       have hcl2 := Hbl.out
       rw [HFk.out] at hcl2
       rcases Nat.lt_or_ge j cm with hjc | hjc
       ·have hjl : j < cl.length := by omega
        obtain ⟨y, hy⟩ : ∃ y, cl[j] = y := ⟨_, rfl⟩
        have hym : y ∈ cl := by rw [← hy]; exact List.getElem_mem hjl
        have hyb := Hbx.out y hym
        obtain ⟨yn, rfl⟩ : ∃ yn : Nat, y = (yn : Int) := ⟨y.toNat, by omega⟩
        obtain ⟨cb, co, rfl, hcc⟩ := K1.out.2 (by omega)
        have c0 := hcc j hjl
        rw [hy] at c0
        obtain ⟨s1, -⟩ := HS8.out yn (by omega)
        have s0 := Hs8.out
        have hj1 : (j : Int) < (cm : Int) := by omega
        have hj0 : (0 : Int) ≤ (j : Int) := by omega
        have y0 : ¬ (yn : Int) < 0 := by omega
        have y1 : (yn : Int) < (k : Int) := by omega
        have y2 : ¬ (k : Int) ≤ (yn : Int) := by omega
        have y3 : (0 : Int) ≤ (yn : Int) := by omega
        have hin : bq = true → decide ((yn : Int) ∈ l) = true := fun h => decide_eq_true (Hcq.out (Hbq.out (by first | exact h | trivial)) _ hym)
        generalize decide ((yn : Int) ∈ l) = by1 at *
        clear hcc hy hym hyb
        cases bq with
        | true =>
         have hi := hin rfl
         subst hi
         clear hin
         go_wp2_with fail
         go_round
         case rel => exact ⟨j + 1, by go_num, by omega, by first | rfl | trivial⟩
         case measure => first | (simp [intOf]; done) | (simp [intOf]; omega)
        | false =>
         clear hin s1
         go_wp2_with fail
         go_round
         case rel => exact ⟨j + 1, by go_num, by omega, by first | rfl | trivial⟩
         case measure => first | (simp [intOf]; done) | (simp [intOf]; omega)
       ·obtain rfl : j = cm := by omega
        go_wp2_with fail
        go_round
        case rel => exact ⟨q + 1, by go_num, by omega, HS8, HB8⟩
        case measure => first | (simp [intOf]; done) | (simp [intOf]; omega)
    ·obtain rfl : q = k := by omega
     go_wp2_with fail
     refine (HOp.out hs.out w7 HB7.out).mono ?_
     rintro e w9 ⟨oa, om, oc, xs, rfl, hxs, hrow, g⟩
     have HB9 := Lib.hid (Bel.trans HB7.out g)
     have Hxs := Lib.hid hxs
     have Horow := Lib.hid hrow
     clear g x0 x1 hxs hrow
     obtain ⟨x0, x1⟩ := HP.out w9 HB9.out
     have Hall := Lib.hid (show ∀ (i : Nat) (x : Nd), L[i]? = some x → x.k = 12 → ∃ y ∈ xs, y.data.toList = x.s from fun i x hx hk => by
      have h1 : (⟨x.s.toArray⟩ : ByteArray) ∈ opsN L := ops_mem L i x hx hk
      have h2 : x.s ∈ xs.map ByteArray.toList := by
       rw [Hxs.out, Idn.srt_mem]
       exact List.mem_map.2 ⟨_, h1, Go.ByteArray.toList_mk _⟩
      obtain ⟨y, hy1, hy2⟩ := List.mem_map.1 h2
      exact ⟨y, hy1, by rw [← hy2]; exact (Go.ByteArray.toList_mk y.data.toList).symm⟩)
     have hxl : xs.length = om := Horow.out.1
     have hom0 : om ≤ n := by
      have h1 := congrArg List.length Hxs.out
      rw [List.length_map] at h1
      have h2 := Idn.srt_len ((opsN L).map ByteArray.toList) ((opsN L).map ByteArray.toList).length (Nat.le_refl _)
      rw [List.take_length, List.length_map] at h2
      have h3 := opsN_len L
      have h4 := HLn.out
      omega
     go_wp2_with fail
     go_loopw [127] (fun iv wa => ∃ i : Nat, iv = .int .i64 (i : Int) ∧ i ≤ n ∧ wa = w9) (fun iv _ => n - (intOf iv).toNat)
     case atStart => exact ⟨0, rfl, Nat.zero_le _, rfl⟩
     case round =>
      obtain ⟨i, rfl, hi, hw⟩ := hrel
      obtain rfl := hw.symm
      rcases Nat.lt_or_ge i n with hin | hin
      ·have hil : i < L.length := by rw [HLn.out]; exact hin
       obtain ⟨x, hxe⟩ : ∃ x, L[i]? = some x := ⟨_, List.getElem?_eq_getElem hil⟩
       obtain ⟨nb, nf, rfl, hnn⟩ := HN.out i x hxe
       obtain ⟨c0, c1⟩ := hnn w9 HB9.out
       have hal := Hall.out i x hxe
       have hi1 : (i : Int) < (n : Int) := by omega
       have hi0 : (0 : Int) ≤ (i : Int) := by omega
       obtain ⟨kd, hkd⟩ : ∃ kd, x.k = kd := ⟨_, rfl⟩
       obtain ⟨st, hst⟩ : ∃ st, x.s = st := ⟨_, rfl⟩
       rw [hkd] at c0 hal
       rw [hst] at c1 hal
       clear hkd hst hnn hxe
       obtain ⟨fb0, hfb⟩ : ∃ fb0, (kd != 12) = fb0 := ⟨_, rfl⟩
       have Hst := Lib.hid (show fb0 = true ∨ ∃ y ∈ xs.drop 0, y.data.toList = st from by
        by_cases h12 : kd = 12
        ·exact Or.inr (hal h12)
        ·exact Or.inl (by rw [← hfb]; simpa using h12))
       have hom : om ≤ n := hom0
       clear hal
       go_wp2_with fail
       go_loopw [14, 139] (fun bv iv wa => ∃ (j : Nat) (fb : Bool), bv = .bool fb ∧ iv = .int .i64 (j : Int) ∧ j ≤ om ∧ wa = w9 ∧ Hid (fb = true ∨ ∃ y ∈ xs.drop j, y.data.toList = st)) (fun _ iv _ => om - (intOf iv).toNat)
       case atStart => exact ⟨0, fb0, rfl, rfl, Nat.zero_le _, rfl, Hst⟩
       case round =>
        obtain ⟨j, fb, rfl, rfl, hj, hw, HO5⟩ := hrel
        obtain rfl := hw.symm
        rcases Nat.lt_or_ge j om with hjo | hjo
        ·have hjl : j < xs.length := by omega
         obtain ⟨ob, oo, rfl, hoc⟩ := Idn.sl_addr Horow.out (by omega)
         have e0 := hoc j hjl
         rw [List.getD_eq_getElem?_getD, List.getElem?_eq_getElem hjl, Option.getD_some] at e0
         have h5 := HO5.out
         rw [List.drop_eq_getElem_cons hjl] at h5
         obtain ⟨y, hy⟩ : ∃ y, xs[j] = y := ⟨_, rfl⟩
         rw [hy] at e0 h5
         have hyy : y = ⟨y.data.toList.toArray⟩ := rfl
         rw [hyy] at e0
         have hj1 : (j : Int) < (om : Int) := by omega
         have hj0 : (0 : Int) ≤ (j : Int) := by omega
         obtain ⟨yt, hyt⟩ : ∃ yt, y.data.toList = yt := ⟨_, rfl⟩
         rw [hyt] at e0
         clear hoc hy hyy
         cases fb with
         | true =>
          clear h5 hyt
          go_wp2_with fail
          go_round
          case rel => exact ⟨j + 1, true, rfl, by go_num, by omega, by first | rfl | trivial, Lib.hid (Or.inl rfl)⟩
          case measure => first | (simp [intOf]; done) | (simp [intOf]; omega)
         | false =>
          by_cases hys : yt = st
          ·subst hys
           clear h5
           go_wp2_with fail
           go_round
           case rel => exact ⟨j + 1, true, rfl, by go_num, by omega, by first | rfl | trivial, Lib.hid (Or.inl rfl)⟩
           case measure => first | (simp [intOf]; done) | (simp [intOf]; omega)
          ·have hb : (yt == st) = false := by simpa using hys
           have HO6 := Lib.hid (show false = true ∨ ∃ y ∈ xs.drop (j + 1), y.data.toList = st from by
            rcases h5 with h | ⟨y2, h1, h2⟩
            ·cases h
            ·rcases List.mem_cons.1 h1 with h1 | h1
             ·exact absurd (by rw [← hyt, ← h1]; exact h2) hys
             ·exact Or.inr ⟨y2, h1, h2⟩)
           clear h5 hys hyt
           go_wp2_with fail
           go_round
           case rel => exact ⟨j + 1, false, rfl, by go_num, by omega, by first | rfl | trivial, HO6⟩
           case measure => first | (simp [intOf]; done) | (simp [intOf]; omega)
        ·obtain rfl : j = om := by omega
         have hft : fb = true := by
          rcases HO5.out with h | ⟨y, h1, -⟩
          ·exact h
          ·rw [List.drop_eq_nil_of_le (by omega)] at h1
           cases h1
         subst hft
         go_wp2_with fail
         go_round
         case rel => exact ⟨i + 1, by go_num, by omega, by first | rfl | trivial⟩
         case measure => first | (simp [intOf]; done) | (simp [intOf]; omega)
      ·obtain rfl : i = n := by omega
       go_wp2_with fail
       refine (HW.out _ HB9.out).mono ?_
       rintro e wz ⟨rfl, g⟩
       go_wp2_with fail
       go_ret
       exact ⟨rfl, Bel.trans HBV.out (Bel.trans HB9.out g)⟩
end Syn
end Go.Proofs.YtmifookckpelaaaGreatDoor
