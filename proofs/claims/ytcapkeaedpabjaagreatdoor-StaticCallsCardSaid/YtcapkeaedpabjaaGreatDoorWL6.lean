/-
  Layer 8, texts merged: SuU, SuV, SuW. For every argument within the bounds that each theorem names.
-/
import Derived.Test.YtcapkeaedpabjaaGreatDoorWL5
import Derived.Test.YtcapkeaedpabjaaGreatDoorWK3

/-
 Layer 9: Reachable.
-/
namespace Go.Proofs.YtcapkeaedpabjaaGreatDoor
open Go.RowKit Go.ChangeShapes Go.WideShapes Go.Sort
namespace Syn
theorem left_sort {w w1 : World} {g cap n nn : Nat} {os : Array Obj} {zs : List Int} (hown : w1.ownsRow w.heap.size 3 1 (.slice (some ⟨g, 0, none⟩) n cap) n (zs.map (Value.int .i64))) (hbel : Below w.heap.size w w1) (hlen : zs.length = n) :
  RArg (grow (putRow (Value.int .i64) (Sort.ahead w1 nn) g 0 (zs.mergeSort fun x y => decide (x ≤ y)).toArray) os) (some ⟨g, 0, none⟩) n (zs.mergeSort fun x y => decide (x ≤ y)) ∧ Bel w (grow (putRow (Value.int .i64) (Sort.ahead w1 nn) g 0 (zs.mergeSort fun x y => decide (x ≤ y)).toArray) os) := by
 have hl2 : (zs.mergeSort fun x y => decide (x ≤ y)).length = zs.length := List.length_mergeSort zs
 subst hlen
 rcases hown.2 with ⟨h0, _⟩ | ⟨g', cap', cur, hv, hbase, hb, h1, h2, h3, h4⟩
 ·cases h0
 cases hv
 have hs := ownsRow_sortedI (n := nn) (os := os) (ts := zs.mergeSort fun x y => decide (x ≤ y)) hl2 hbase hb h1 h2 h3
 exact ⟨(own_zarg hs).rarg, hbel.grown (grownBy_sortedI _) hbel.size (fun j hj => by cases hj; exact hbase)⟩
theorem calN_in {F : List Fw} : ∀ (r : List Nd) (x : Int), x ∈ calN F r → 0 ≤ x ∧ x < (F.length : Int)
 | [], x, h => by cases h
 | y :: r, x, h => by
  rw [calN] at h
  split at h
  ·rename_i hy
   rcases List.mem_cons.1 h with rfl | h
   ·have := find_lt F y.s
    exact ⟨hy.2, by omega⟩
   ·exact calN_in r x h
  ·exact calN_in r x h
theorem callsL_in {L : List Nd} {F : List Fw} {q : Nat} {x : Int} (h : x ∈ callsL L F q) : 0 ≤ x ∧ x < (F.length : Int) := by
 unfold callsL at h
 split at h
 ·exact calN_in _ x (((csI_is _).2 x).1 h)
 ·cases h
theorem callsL_len (L : List Nd) (F : List Fw) (q : Nat) : (callsL L F q).length ≤ F.length := by
 refine nodup_len _ _ ⟨?_, fun x hx => callsL_in hx⟩
 unfold callsL
 split
 ·exact (csI_is _).1.imp fun h e => by rw [e] at h; exact absurd h (Int.lt_irrefl _)
 ·exact List.Pairwise.nil
def callC (L : List Nd) (F : List Fw) (f : Int) : List Int := callsL L F f.toNat
/-- What Reachable answers. -/
def reachE (R : Rs) (L : List Nd) (F : List Fw) : List Int := if R.er ≠ 0 then [] else (reachG (callC L F) F.length 0 [findI F mainT]).mergeSort (fun x y => decide (x ≤ y))
theorem main_in {F : List Fw} (h : mainE F = none) : 0 ≤ findI F mainT ∧ findI F mainT < (F.length : Int) := by
 have h1 := find_lt F mainT
 unfold mainE at h
 split at h
 ·cases h
 ·rename_i h2
  omega
theorem reach_go {C : Int → List Int} {u i : Nat} {l : List Int} {f : Int} (h : l[i]? = some f) : reachG C (u + 1) i l = reachG C u (i + 1) ((C f).foldl addC l) := by rw [reachG, h]
theorem reach_stop {C : Int → List Int} {u i : Nat} {l : List Int} (h : l.length ≤ i) : reachG C u i l = l := by
 cases u with
 | zero => rw [reachG]
 | succ u => rw [reachG, List.getElem?_eq_none h]
set_option maxRecDepth 100000 in
set_option maxHeartbeats 8000000 in
theorem reachable_any (no fo : Option Addr) (n nc k fc : Nat) (L : List Nd) (F : List Fw) (hf : Fit9 n k L F) (hnc : n ≤ nc) (w : World) (hm : Lex.ML w) (hA : NArg w no n L) (hF : FArg w fo k F) :
  Calls Tryz.prog 30 #[.agg #[.slice no n nc, .slice fo k fc]] w (CsPost w (reachE (resG L F) L F)) := by
 obtain ⟨V, hV⟩ : ∃ V, w.alloc (.cells #[.slice no n nc, .slice fo k fc] 25) = V := ⟨_, rfl⟩
 have BV : Bel w V := by rw [← hV]; exact Bel.alloc (Bel.refl _) _
 obtain ⟨v0, v1⟩ : V.cell? ⟨w.heap.size, 0, none⟩ = some (.slice no n nc) ∧ V.cell? ⟨w.heap.size, 1, none⟩ = some (.slice fo k fc) := by
  rw [← hV]
  exact ⟨World.cell?_alloc_new .., World.cell?_alloc_new ..⟩
 have HBV := Lib.hid BV
 have HVe := Lib.hid hV
 have Hv0 := Lib.hid v0
 have Hv1 := Lib.hid v1
 have HFk := Lib.hid hF.1
 have hk := hf.hk
 have HC := Lib.hid (scheck_any no fo n nc k fc L F hf V (hm.on BV) (hA.on BV) (hF.on BV))
 have HFi := Lib.hid (fun W (g : Bel V W) => find_any no fo n nc k fc F mainT (by omega) W ((hF.on BV).on g))
 have hasc : (resG L F).er = 0 → Asc n 0 F := fun h => by rw [← hA.1]; exact asc_chk (res_chk h)
 have hmain : (resG L F).er = 0 → 0 ≤ findI F mainT ∧ findI F mainT < (k : Int) := fun h => by have := main_in (res_ok h).2.2.2.2.2; rw [hF.1] at this; exact this
 have HO := Lib.hid (fun (h : (resG L F).er = 0) (q : Nat) (hq : q < k) W (g : Bel V W) => callsOf_any no fo n nc k fc L F q hf.hn hnc hf.hk hq (hasc h) W ((hA.on BV).on g) ((hF.on BV).on g))
 have HCi := Lib.hid (show ∀ f, ∀ x ∈ callC L F f, 0 ≤ x ∧ x < (k : Int) from fun f x hx => by have := callsL_in hx; rw [hF.1] at this; exact this)
 have hX2 : fixI (fun g => decide (g.name = mainT)) 0 F = findI F mainT := rfl
 rw [hX2] at HFi
 unfold reachE
 rw [hF.1]
 generalize resG L F = R at *
 obtain ⟨Xs, Xl, Xp, er⟩ := R
 dsimp only at HC HO hmain ⊢
 clear hf hm hA hF BV hV hasc hX2
 by_cases he : er = 0
 rotate_left
 ·rw [if_pos he]
  have h1 : (er == 0) = false := by simpa using he
  have h2 : (er != 0) = true := by simpa using he
  clear he
  go_enter Tryz.func30, Tryz.ntmps30
  go_wp2_with fail
  rw [HVe.out]
  refine HC.out.mono ?_
  rintro e w2 ⟨rfl, g⟩
  have G := Lib.hid g
  clear g v0 v1
  go_wp2_with fail
  go_ret
  exact ⟨none, 0, 0, rfl, rarg_nil' _ _, Bel.trans HBV.out G.out, fun h => absurd h (Nat.lt_irrefl 0)⟩
 rw [if_neg (by simpa using he)]
 have HO2 := Lib.hid (HO.out he)
 obtain ⟨hm0, hm1⟩ := hmain he
 subst he
 clear hmain HO
 obtain ⟨m0, hm2⟩ : ∃ m0 : Nat, findI F mainT = (m0 : Int) := ⟨(findI F mainT).toNat, by omega⟩
 rw [hm2] at HFi hm1 ⊢
 obtain ⟨X, hX⟩ : ∃ X, reachG (callC L F) k 0 [(m0 : Int)] = X := ⟨_, rfl⟩
 rw [hX]
 have HX := Lib.hid (show reachG (callC L F) k 0 [(m0 : Int)] = X ∧ k ≤ 0 + k ∧ OkR k [(m0 : Int)] from ⟨hX, by omega, ⟨by simp, fun x hx => by rw [List.mem_singleton.1 hx]; exact ⟨by omega, hm1⟩⟩⟩)
 unfold mainT at HFi
 clear hX hm0 hm1 hm2
 go_enter Tryz.func30, Tryz.ntmps30
 go_wp2_with fail
 rw [HVe.out]
 refine HC.out.mono ?_
 rintro e w2 ⟨rfl, g⟩
 have G := Lib.hid g
 have x0 := g.cell' v0
 have x1 := g.cell' v1
 clear g v0 v1
 go_wp2_with fail
 refine (HFi.out w2 G.out).mono ?_
 rintro e w3 ⟨rfl, g⟩
 have G3 := Lib.hid (Bel.trans G.out g)
 have hR0 := Lib.hid (show Rwb (fun _ => False) V.heap.size (w3.alloc (.cells #[.int .i64 (m0 : Int)] 3)) (some ⟨w3.heap.size, 0, none⟩) 1 1 [(m0 : Int)] none 0 0 [] from by
  have e1 := World.ownsRow_lit (base := V.heap.size) (e := 3) (size := 1) w3 #[.int .i64 (m0 : Int)] 1 (Nat.le_trans G.out.size g.size) (by decide) (by simp)
  exact ⟨e1, World.ownsRow_nil _ _ _ _, fun b e => ⟨fun q => (by cases q), fun h => h⟩, fun b e => (by cases e)⟩)
 have G4 := Lib.hid (Bel.alloc G3.out (.cells #[.int .i64 (m0 : Int)] 3))
 clear g x0 x1
 go_wp2_with fail
 go_loopw [5, 6] (fun rv iv wr => ∃ (i m c u : Nat) (a : Option Addr) (l : List Int), rv = .slice a m c ∧ iv = .int .i64 (i : Int) ∧ i ≤ m ∧ Hid (Rwb (fun _ => False) V.heap.size wr a m c l none 0 0 []) ∧ Hid (Bel V wr) ∧ Hid (reachG (callC L F) u i l = X ∧ k ≤ i + u ∧ OkR k l) ∧ 0 < m) (fun _ iv _ => k + 1 - (intOf iv).toNat)
 case atStart => exact ⟨0, 1, 1, k, _, _, rfl, rfl, Nat.zero_le _, hR0, G4, HX, Nat.one_pos⟩
 case round =>
  obtain ⟨i, m, c, u, a, l, rfl, rfl, him, HR, HB, HM, hmp⟩ := hrel
  rename World => wr
  have v0 := HB.out.cell' Hv0.out
  have v1 := HB.out.cell' Hv1.out
  obtain ⟨hM, hku, hok⟩ := HM.out
  have hlm : l.length = m := HR.out.nums.1
  have hmk : m ≤ k := by rw [← hlm]; exact nodup_len k l hok
  rcases Nat.lt_or_ge i m with hlt | hge
  ·obtain ⟨fi, hfi⟩ : ∃ fi, l[i]? = some fi := ⟨_, List.getElem?_eq_getElem (by omega)⟩
   have hfi2 : l[i]'(by omega) = fi := by rw [List.getElem?_eq_getElem (by omega)] at hfi; exact Option.some.inj hfi
   obtain ⟨hf0, hf1⟩ := hok.bd fi (List.mem_of_getElem? hfi)
   obtain ⟨q, rfl⟩ : ∃ q : Nat, fi = (q : Int) := ⟨fi.toNat, by omega⟩
   obtain ⟨u, rfl⟩ : ∃ v, u = v + 1 := ⟨u - 1, by omega⟩
   rw [reach_go hfi] at hM
   have hcc : callC L F (q : Int) = callsL L F q := by unfold callC; rw [Int.toNat_natCast]
   have hcin := HCi.out (q : Int)
   have hcll := callsL_len L F q
   rw [HFk.out] at hcll
   rw [hcc] at hM hcin
   obtain ⟨Y, hY⟩ : ∃ Y, (callsL L F q).foldl addC l = Y := ⟨_, rfl⟩
   rw [hY] at hM
   have HM2 := Lib.hid hM
   have HY := Lib.hid (show ((callsL L F q).drop 0).foldl addC l = Y ∧ OkR k l from ⟨hY, hok⟩)
   have HOq := Lib.hid (HO2.out q (by omega) wr.drew (Below.drew HB.out))
   obtain ⟨rb, ro, rfl, hrc⟩ := HR.out.arg1.2 (by omega)
   have c0 := hrc i (by omega)
   rw [hfi2] at c0
   have him1 : (i : Int) < (m : Int) := by omega
   have hi0 : (0 : Int) ≤ (i : Int) := by omega
   have Hku := Lib.hid hku
   have Hmk := Lib.hid hmk
   generalize callsL L F q = cl at *
   clear hM hY hok hfi hfi2 hrc hcc hlm HM
   go_wp2_with fail
   refine wp_region_held_drew (S := fun W => W.cell? ⟨w.heap.size, 0, none⟩ = some (.slice no n nc) ∧ W.cell? ⟨w.heap.size, 1, none⟩ = some (.slice fo k fc) ∧ W.cell? ⟨rb, ro + i, none⟩ = some (.int .i64 (q : Int))) (by kernel_rfl) ⟨v0, v1, c0⟩ (fun hH => ?_)
   refine take_yes (i := 0) (d := 25) (v := ?_) rfl rfl (by kernel_rfl) (by kernel_rfl) (by kernel_rfl) (fun _ _ _ h => h) (by rfl) ?_ (by assumption) ?_
   rotate_left 1
   ·intro w hSw
    obtain ⟨z0, z1, z2⟩ := hSw
    go_simp
    with_reducible rfl
   try simp only [Act.put, List.setIfInBounds_toArray, List.set_cons_zero, List.set_cons_succ]
   refine take_yes (i := 1) (d := 26) (v := ?_) rfl rfl (by kernel_rfl) (by kernel_rfl) (by kernel_rfl) (fun _ _ _ h => h) (by rfl) ?_ (by assumption) ?_
   rotate_left 1
   ·intro w hSw
    obtain ⟨z0, z1, z2⟩ := hSw
    go_simp
    with_reducible rfl
   try simp only [Act.put, List.setIfInBounds_toArray, List.set_cons_zero, List.set_cons_succ]
   refine take_yes (i := 2) (d := 27) (v := ?_) rfl rfl (by kernel_rfl) (by kernel_rfl) (by kernel_rfl) (fun _ _ _ h => h) (by rfl) ?_ (by assumption) ?_
   rotate_left 1
   ·intro w hSw
    obtain ⟨z0, z1, z2⟩ := hSw
    go_simp
    with_reducible rfl
   try simp only [Act.put, List.setIfInBounds_toArray, List.set_cons_zero, List.set_cons_succ]
   refine take_yes (i := 3) (d := 28) (v := ?_) rfl rfl (by kernel_rfl) (by kernel_rfl) (by kernel_rfl) (fun _ _ _ h => h) (by rfl) ?_ (by assumption) ?_
   rotate_left 1
   ·intro w hSw
    obtain ⟨z0, z1, z2⟩ := hSw
    go_simp
    with_reducible rfl
   try simp only [Act.put, List.setIfInBounds_toArray, List.set_cons_zero, List.set_cons_succ]
   refine take_yes (i := 4) (d := 29) (v := ?_) rfl rfl (by kernel_rfl) (by kernel_rfl) (by kernel_rfl) (fun _ _ _ h => h) (by rfl) ?_ (by assumption) ?_
   rotate_left 1
   ·intro w hSw
    obtain ⟨z0, z1, z2⟩ := hSw
    go_simp
    with_reducible rfl
   try simp only [Act.put, List.setIfInBounds_toArray, List.set_cons_zero, List.set_cons_succ]
   refine take_yes (i := 7) (d := 32) (v := ?_) rfl rfl (by kernel_rfl) (by kernel_rfl) (by kernel_rfl) (fun _ _ _ h => h) (by rfl) ?_ (by assumption) ?_
   rotate_left 1
   ·intro w hSw
    obtain ⟨z0, z1, z2⟩ := hSw
    go_simp
    with_reducible rfl
   try simp only [Act.put, List.setIfInBounds_toArray, List.set_cons_zero, List.set_cons_succ]
   refine wpAnyH_ready (rs := [5]) (by kernel_rfl) (by simp) ?_
   refine AllReadyH.cons rfl (fun K hK => ?_) AllReadyH.nil
   go_simp
   refine HOq.out.mono ?_
   rintro e w8 ⟨ca, cm, cc, rfl, k1, k2, k3⟩
   have K3 := Lib.hid k3
   have K1 := Lib.hid k1
   have K2 := Lib.hid k2
   clear hH
   refine hK.out _ _ ⟨k2.cell' (show wr.drew.cell? _ = _ from v0), k2.cell' (show wr.drew.cell? _ = _ from v1), k2.cell' (show wr.drew.cell? _ = _ from c0)⟩ (fun hH => ?_)
   clear hK K k1 k2 k3
   try simp only [Act.put, List.setIfInBounds_toArray, List.set_cons_zero, List.set_cons_succ]
   refine take_yes (i := 6) (d := 31) (v := ?_) rfl rfl (by kernel_rfl) (by kernel_rfl) (by kernel_rfl) (fun _ _ _ h => h) (by rfl) ?_ (by assumption) ?_
   rotate_left 1
   ·intro w hSw
    obtain ⟨z0, z1, z2⟩ := hSw
    go_simp
    with_reducible rfl
   try simp only [Act.put, List.setIfInBounds_toArray, List.set_cons_zero, List.set_cons_succ]
   refine wpAnyH_done (by kernel_rfl) ?_ _
   have W8 := Lib.hid (Bel.trans (Below.drew (Bel.refl wr)) K2.out)
   obtain ⟨T, hT⟩ : ∃ T : Nat → Prop, T = fun t => 0 < cm ∧ ∃ o s, ca = some ⟨t, o, s⟩ := ⟨_, rfl⟩
   have HT1 := Lib.hid (show ∀ t, T t → wr.heap.size ≤ t ∧ t < w8.heap.size from fun t h => by
    rw [hT] at h
    obtain ⟨h0, o1, s1, e1⟩ := h
    obtain ⟨b2, f2, e2, hc2⟩ := K1.out.2 h0
    have e3 := K3.out h0 t o1 s1 e1
    rw [e1] at e2
    cases e2
    exact ⟨e3, World.block_lt_of_cell? w8 _ (hc2 0 (by have := K1.out.1; omega))⟩)
   have HT2 := Lib.hid (show ∀ b2 f2, ca = some ⟨b2, f2, none⟩ → 0 < cm → T b2 from fun b2 f2 e h => by rw [hT]; exact ⟨h, f2, none, e⟩)
   have HR8 := Lib.hid ((HR.out.avoid (T := T) (fun t h0 h => by have := (HT1.out t h).1; omega)).on W8.out)
   have HB8 := Lib.hid (Bel.trans HB.out W8.out)
   have Hcl := Lib.hid hcin
   clear hcin hH hT
   go_wp2_with fail
   go_loopw [5, 32] (fun rv jv w6 => ∃ (j m2 c2 : Nat) (a2 : Option Addr) (l2 : List Int), rv = .slice a2 m2 c2 ∧ jv = .int .i64 (j : Int) ∧ j ≤ cm ∧ m ≤ m2 ∧ Hid (Rwb T V.heap.size w6 a2 m2 c2 l2 none 0 0 []) ∧ Hid (Bel V w6) ∧ Hid (Mod (fun t => V.heap.size ≤ t ∧ ¬ T t) w8 w6) ∧ Hid ((cl.drop j).foldl addC l2 = Y ∧ OkR k l2)) (fun _ jv _ => cm - (intOf jv).toNat)
   case atStart => exact ⟨0, m, c, _, l, rfl, rfl, Nat.zero_le _, Nat.le_refl _, HR8, HB8, Lib.hid (Mod.refl _ _), HY⟩
   case round =>
    obtain ⟨j, m2, c2, a2, l2, rfl, rfl, hj, hm2, HR6, HV6, HB6, HM6⟩ := hrel
    rename World => w6
    have v0 := HV6.out.cell' Hv0.out
    have v1 := HV6.out.cell' Hv1.out
    obtain ⟨hM6, hok6⟩ := HM6.out
    have hlm2 : l2.length = m2 := HR6.out.nums.1
    have hmk2 : m2 ≤ k := by rw [← hlm2]; exact nodup_len k l2 hok6
    rcases Nat.lt_or_ge j cm with hjc | hjc
    ·have hclm : cl.length = cm := K1.out.1
     have hjl : j < cl.length := by omega
     rw [List.drop_eq_getElem_cons hjl, List.foldl_cons] at hM6
     obtain ⟨x, hx⟩ : ∃ x, cl[j] = x := ⟨_, rfl⟩
     have hxb := Hcl.out x (by rw [← hx]; exact List.getElem_mem hjl)
     obtain ⟨cb, co, rfl, hcl⟩ := K1.out.2 (by omega)
     have d0 := HB6.out.cell (hcl j hjl) (fun h => h.2 (HT2.out cb co rfl (by omega)))
     rw [hx] at d0 hM6
     obtain ⟨sb, so, rfl, hsc⟩ := HR6.out.arg1.2 (by omega)
     have HCt := Lib.hid (Tryz.slices_Contains_int sb so m2 c2 l2 x w6 (by omega) (by omega) (fun j h => by rw [hsc j h, List.getD_eq_getElem?_getD, List.getElem?_eq_getElem h, Option.getD_some]))
     rw [List.take_of_length_le (by omega)] at HCt
     have hj1 : (j : Int) < (cm : Int) := by omega
     have hj0 : (0 : Int) ≤ (j : Int) := by omega
     clear hcl hsc hx
     cases hct : l2.contains x with
     | true =>
      have he : addC l2 x = l2 := by unfold addC; rw [if_pos hct]
      rw [he] at hM6
      rw [hct] at HCt
      have HM7 := Lib.hid (show (cl.drop (j + 1)).foldl addC l2 = Y ∧ OkR k l2 from ⟨hM6, hok6⟩)
      clear hM6 hok6 HM6 he hct
      go_wp2_with fail
      refine HCt.out.mono ?_
      rintro e w7 ⟨rfl, rfl⟩
      go_wp2_with fail
      go_round
      case rel => exact ⟨j + 1, m2, c2, _, l2, rfl, by go_num, by omega, hm2, HR6, HV6, HB6, HM7⟩
      case measure => first | (simp [intOf]; done) | (simp [intOf]; omega)
     | false =>
      have he : addC l2 x = l2 ++ [x] := by unfold addC; rw [if_neg (by rw [hct]; simp)]
      have hok7 := hok6.add hxb
      rw [he] at hM6 hok7
      rw [hct] at HCt
      have HM7 := Lib.hid (show (cl.drop (j + 1)).foldl addC (l2 ++ [x]) = Y ∧ OkR k (l2 ++ [x]) from ⟨hM6, hok7⟩)
      have HR7 := Lib.hid (HR6.out.on (Bel.alloc (Bel.refl w6) (.cells #[.int .i64 x] 3)))
      have HB7 := Lib.hid (Bel.alloc (Bel.refl w6) (.cells #[.int .i64 x] 3))
      have HV7 := Lib.hid (Bel.alloc HV6.out (.cells #[.int .i64 x] 3))
      have hbs := HV7.out.size
      have Hnw : Hid (∀ j u, [Value.int .i64 x][j]? = some u → (w6.alloc (.cells #[.int .i64 x] 3)).cell? ((⟨w6.heap.size, 0, none⟩ : Addr).add j) = some u) := Lib.hid (World.news_of_block (cs := #[.int .i64 x]) (t := 3) (fr := (0, 0)) (heap_new w6 _))
      have hi1 : m2 + 1 ≤ 1099511627776 := by omega
      have Hav := Lib.hid (show ∀ t, (w6.alloc (.cells #[.int .i64 x] 3)).heap.size ≤ t → ¬ T t from fun t h0 h => by have h1 := (HT1.out t h).2; have h2 := HB6.out.size; rw [alloc_sz] at h0; omega)
      clear hM6 hok6 HM6 he hct hok7
      go_wp2_with fail
      refine HCt.out.mono ?_
      rintro e w7 ⟨rfl, rfl⟩
      go_wp2_with (at_builtin; refine list_app1 _ _ rfl rfl rfl rfl HR7.out hbs Hav.out Hnw.out hi1 ?_; intro o9 c9 w9 k9 g9; refine Hid.out ?_)
      refine Lib.hid ?_
      have G9 := Lib.hid (Mod.bel_of HV7.out g9.out (fun i h => h.1))
      have M9 := Lib.hid ((mod_end HB6.out HB7.out).trans g9.out (fun t h => Or.inl h))
      clear g9
      go_wp2
      go_round
      case rel => exact ⟨j + 1, m2 + 1, c9, o9, l2 ++ [x], rfl, by go_num, by omega, by omega, k9, G9, M9, HM7⟩
      case measure => first | (simp [intOf]; done) | (simp [intOf]; omega)
    ·obtain rfl : j = cm := by omega
     have hY2 : l2 = Y := by
      rw [List.drop_eq_nil_of_le (by rw [K1.out.1]; exact Nat.le_refl _), List.foldl_nil] at hM6
      exact hM6
     subst hY2
     have HM8 := Lib.hid (show reachG (callC L F) u (i + 1) l2 = X ∧ k ≤ i + 1 + u ∧ OkR k l2 from ⟨HM2.out, by have := Hku.out; omega, hok6⟩)
     have HRw := Lib.hid (HR6.out.weak (T := fun _ => False) (fun _ h => h.elim))
     clear hM6 hok6 HM6
     go_wp2_with fail
     go_round
     case rel => exact ⟨i + 1, m2, c2, u, a2, l2, rfl, by go_num, by omega, HRw, HV6, HM8, by omega⟩
     case measure => first | (simp [intOf]; done) | (simp [intOf]; omega)
  ·obtain rfl : i = m := by omega
   rw [reach_stop (by omega)] at hM
   subst hM
   have hm0 : 0 < i := hmp
   have hown : wr.ownsRow V.heap.size 3 1 (.slice a i c) i (l.map (Value.int .i64)) := HR.out.1
   have hnn : Value.slice a i c ≠ .slice none 0 0 := fun h => by
    injection h with _ h2 _
    omega
   obtain ⟨g, cap, he, hbg, hgl, hncap, hcm, hlen2, hH⟩ := Lib.holds_of_ownsRow hown hnn
   cases he
   have hsort := Lib.hid (Tryz.slices_Sort_int g 0 c l wr hH hgl (by omega))
   rw [hlm] at hsort
   have HL := Lib.hid (fun nn os => left_sort (w := V) (nn := nn) (os := os) hown HB.out hlm)
   have Hbg := Lib.hid hbg
   clear hown hH hnn hncap hcm hgl hbg hlen2 hok
   go_wp2_with fail
   refine hsort.out.mono ?_
   rintro e w5 ⟨rfl, nn, os, rfl⟩
   go_wp2_with fail
   go_ret
   obtain ⟨e1, e2⟩ := HL.out nn os
   exact ⟨_, _, _, rfl, e1, Bel.trans HBV.out e2, fun _ b off sp e => by cases e; exact Nat.le_trans HBV.out.size Hbg.out⟩
end Syn
end Go.Proofs.YtcapkeaedpabjaaGreatDoor

/-
 Layer 9: Ops.
-/
namespace Go.Proofs.YtcapkeaedpabjaaGreatDoor
open Go.RowKit Go.ChangeShapes Go.WideShapes Go.Sort
namespace Syn
end Syn
end Go.Proofs.YtcapkeaedpabjaaGreatDoor

/-
 Layer 9: the law Reaches.
-/
namespace Go.Proofs.YtcapkeaedpabjaaGreatDoor
open Go.RowKit Go.ChangeShapes Go.WideShapes
namespace Syn
theorem info_boolz : (Tryz.prog.info? 4).map (fun i => (i.zero, i.size, i.bytes)) = some (some (.bool false), 1, 1) := by kernel_rfl
/-- Which functions a row of bools names. -/
def SeenI (G n : Nat) (l : List Int) (w : World) : Prop := ∀ j : Nat, j < n → w.cell? ⟨G, j, none⟩ = some (.bool (decide ((j : Int) ∈ l))) ∧ w.frozen? ⟨G, j, none⟩ = false
theorem SeenI.step {G n x : Nat} {l : List Int} {w : World} (h : SeenI G n l w) (hx : x < n) : SeenI G n (l ++ [(x : Int)]) (w.setCell ⟨G, x, none⟩ (.bool true)) := fun j hj => by
 refine ⟨?_, by rw [World.frozen?_setCell]; exact (h j hj).2⟩
 by_cases e : j = x
 ·subst e
  rw [World.cell?_setCell_same _ _ _ (h j hj).1]
  simp
 ·rw [World.cell?_setCell_other _ _ _ _ (fun h => e (Addr.mk.inj h).2.1.symm), (h j hj).1]
  have : ¬ ((j : Int) = (x : Int)) := by omega
  simp [this]
theorem SeenI.on {G n : Nat} {l : List Int} {w w' : World} (h : SeenI G n l w) (g : Bel w w') : SeenI G n l w' := fun j hj => ⟨g.cell' (h j hj).1, (mod_froz (Mod.of_bel (F := fun _ => False) g) (h j hj).1 (fun h => h)).trans (h j hj).2⟩
theorem dup_ge {F0 : List Fw} : ∀ (F : List Fw) (i : Nat), dupF F0 i F = none → ∀ (q : Nat) (f : Fw), F[q]? = some f → ((i + q : Nat) : Int) ≤ findI F0 f.name
 | [], _, _, q, f, h => by simp at h
 | g :: F, i, hd, q, f, h => by
  rw [dupF] at hd
  split at hd
  ·cases hd
  ·rename_i hn
   cases q with
   | zero =>
    simp only [List.getElem?_cons_zero, Option.some.injEq] at h
    subst h
    have : ¬ findI F0 g.name < (i : Int) := fun a => hn (Or.inr (Or.inl a))
    omega
   | succ q =>
    rw [List.getElem?_cons_succ] at h
    have := dup_ge F (i + 1) hd q f h
    omega
theorem fix_le (s : Txt) : ∀ (F : List Fw) (i q : Nat) (f : Fw), F[q]? = some f → f.name = s → fixI (fun f => decide (f.name = s)) i F ≤ ((i + q : Nat) : Int)
 | [], _, q, f, h, _ => by simp at h
 | g :: F, i, q, f, h, hs => by
  rw [fixI]
  split
  ·omega
  ·rename_i hg
   cases q with
   | zero =>
    simp only [List.getElem?_cons_zero, Option.some.injEq] at h
    subst h
    exact absurd (decide_eq_true hs) hg
   | succ q =>
    rw [List.getElem?_cons_succ] at h
    have := fix_le s F (i + 1) q f h hs
    omega
theorem dup_find {F : List Fw} (hd : dupF F 0 F = none) (q : Nat) (f : Fw) (h : F[q]? = some f) : findI F f.name = (q : Int) := by
 have h1 := dup_ge F 0 hd q f h
 have h2 := fix_le f.name F 0 q f h rfl
 have h3 : findI F f.name = fixI (fun g => decide (g.name = f.name)) 0 F := rfl
 rw [Nat.zero_add] at h1 h2
 omega
/-- What Reachable says of a program that is in order. -/
theorem reach_is {L : List Nd} {F : List Fw} (h : (resG L F).er = 0) : (reachE (resG L F) L F).Nodup ∧ (∀ x ∈ reachE (resG L F) L F, 0 ≤ x ∧ x < (F.length : Int)) ∧ (∀ (q : Nat) (f : Fw), F[q]? = some f → f.name = mainT → (q : Int) ∈ reachE (resG L F) L F) ∧ ∀ q : Nat, (q : Int) ∈ reachE (resG L F) L F → ∀ x ∈ callsL L F q, x ∈ reachE (resG L F) L F := by
 obtain ⟨-, -, -, hc, hd, hm⟩ := res_ok h
 obtain ⟨h1, h2⟩ := main_in hm
 unfold reachE
 rw [if_neg (by simpa using h)]
 have hC : ∀ f, ∀ x ∈ callC L F f, 0 ≤ x ∧ x < (F.length : Int) := fun f x hx => callsL_in hx
 obtain ⟨k1, ⟨D, k2⟩, k3⟩ := reach_ok hC F.length 0 [findI F mainT] ⟨by simp, fun x hx => by rw [List.mem_singleton.1 hx]; exact ⟨h1, h2⟩⟩ (by omega) (by simp) (fun j f hj => absurd hj (Nat.not_lt_zero j))
 refine ⟨(List.mergeSort_perm _ _).nodup_iff.2 k1.nd, fun x hx => k1.bd x (List.mem_mergeSort.1 hx), fun q f hf hn => ?_, fun q hq x hx => ?_⟩
 ·rw [List.mem_mergeSort, k2]
  have e : findI F mainT = (q : Int) := by
   rw [← hn]
   exact dup_find hd q f hf
  rw [e]
  exact List.mem_append_left _ (List.mem_singleton.2 rfl)
 ·rw [List.mem_mergeSort] at hq ⊢
  exact k3 _ hq x (by unfold callC; rw [Int.toNat_natCast]; exact hx)
theorem make_boolz (n : Nat) (hn : n ≤ 64) (W : World) : (Instr.makeSlice 93 (.int .i64 (n : Int)) (.int .i64 (n : Int))).run Tryz.prog W = .ok (.slice (some ⟨W.heap.size, 0, none⟩) n n) (W.alloc (.cells (madeCells #[.bool false] n) 4)) := by
 obtain ⟨i0, hi, hz0, hz1, hz2⟩ := info_parts info_boolz
 have h := run_make (P := Tryz.prog) (w := W) 93 4 i0 _ Tryz.underlying93 hi hz0 .i64 .i64 (n : Int) (n : Int) (by omega) (by omega) (by rw [hz2]; omega) (by omega)
 rw [h, hz1]
 simp only [Int.toNat_natCast, Nat.mul_one]
 rfl
end Syn
end Go.Proofs.YtcapkeaedpabjaaGreatDoor
