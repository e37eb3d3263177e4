/-
  Layer 8, texts merged: SuE, SuF, SuG, SuH. For every argument within the bounds that each theorem names.
-/
import Derived.Test.YtcapkeaedpabjaaGreatDoorWL2

/-
 Layer 9: leaving a block; a node's visit.
-/
namespace Go.Proofs.YtcapkeaedpabjaaGreatDoor
open Go.RowKit Go.ChangeShapes Go.WideShapes Go.Maps
namespace Syn
theorem leave_one (L : List Nd) (s : Sc) (z : Int) (r : List Int) : leaveP L s (z :: r) = leaveP L (match L[z.toNat]? with | some x => if x.k = 13 then s.del x.s else s | none => s) r := rfl
set_option maxRecDepth 100000 in
set_option maxHeartbeats 8000000 in
theorem leave_any (sb mb : Nat) (no jo : Option Addr) (n nc m jc : Nat) (L : List Nd) (kids : List Int) (hm : m ≤ 100000) (hk : ∀ z ∈ kids, 0 ≤ z ∧ z < (n : Int)) (hs : ∀ x ∈ L, x.s.length ≤ 140737488355328) (S : Sc) (hcn : S.cnt ≤ 100000) (w : World) (hA : NArg w no n L) (hK : ZArg w jo m kids) (hS : ScAt w sb mb S)
  (hfar : 0 < n → ∀ o, no = some o → o.block ≠ sb ∧ o.block ≠ mb) (hfar2 : 0 < m → ∀ o, jo = some o → o.block ≠ sb ∧ o.block ≠ mb) :
  Calls Tryz.prog 211 #[.pointer (some ⟨sb, 0, none⟩), .slice no n nc, .slice jo m jc] w fun e w' => e = .returned (.tuple #[]) ∧ ScAt w' sb mb (leaveP L S kids) ∧ Mod (Of sb mb) w w' := by
 have HA := Lib.hid hA
 have HK := Lib.hid hK
 have Hk := Lib.hid hk
 have Hs := Lib.hid hs
 have HL := Lib.hid hK.1
 have hne := hS.ne
 have HN := Lib.hid hfar
 have HJ := Lib.hid hfar2
 obtain ⟨R, hR⟩ : ∃ R, leaveP L S kids = R := ⟨_, rfl⟩
 have HR := Lib.hid hR
 have HS := Lib.hid hS
 rw [hR]
 clear hA hK hk hs hR hS hfar hfar2
 go_enter Tryz.func211, Tryz.ntmps211
 go_wp2_with fail
 go_loopw [10] (fun iv wr => ∃ (j : Nat) (s : Sc), iv = .int .i64 (j : Int) ∧ j ≤ m ∧ Hid (ScAt wr sb mb s) ∧ Hid (leaveP L s (kids.drop j) = R) ∧ Hid (Mod (Of sb mb) w wr) ∧ Hid (s.cnt ≤ 100000)) (fun iv _ => m - (intOf iv).toNat)
 case atStart => exact ⟨0, S, rfl, Nat.zero_le _, HS, HR, Lib.hid (Mod.refl _ _), Lib.hid hcn⟩
 case round =>
  obtain ⟨j, s, rfl, hj, HSc, HM, HB, Hc⟩ := hrel
  rename World => wr
  rcases Nat.lt_or_ge j m with hjm | hjm
  ·have hjl : j < kids.length := by rw [HL.out]; exact hjm
   obtain ⟨b2, off2, rfl, hck⟩ := za_addr HK.out (by omega)
   obtain ⟨hb2s, hb2m⟩ := HJ.out (by omega) _ rfl
   have hno2 : ¬ Of sb mb b2 := fun h => by rcases h with h | h; exact hb2s h; exact hb2m h
   have cK := HB.out.cell (hck j hjl) hno2
   obtain ⟨hz0, hzn⟩ := Hk.out kids[j] (List.getElem_mem hjl)
   obtain ⟨q, hq⟩ : ∃ q : Nat, kids[j] = (q : Int) := ⟨kids[j].toNat, by omega⟩
   have hM := HM.out
   rw [List.drop_eq_getElem_cons hjl, leave_one] at hM
   rw [hq] at cK hzn hM
   have hqL : q < L.length := by rw [HA.out.1]; omega
   obtain ⟨b, off, rfl, hcs⟩ := HA.out.2 (by omega)
   obtain ⟨hbs, hbm⟩ := HN.out (by omega) _ rfl
   have hno : ¬ Of sb mb b := fun h => by rcases h with h | h; exact hbs h; exact hbm h
   obtain ⟨v, hv, hcc⟩ := hcs q hqL
   rw [Int.toNat_natCast, List.getElem?_eq_getElem hqL] at hM
   simp only at hM
   obtain ⟨x, hx⟩ : ∃ x, L[q] = x := ⟨_, rfl⟩
   have hxs : x.s.length ≤ 140737488355328 := by rw [← hx]; exact Hs.out _ (List.getElem_mem hqL)
   rw [hx] at hM hv
   have e0 : wr.cell? ⟨b, off + q * 5, none⟩ = some (.int .i64 x.k) := HB.out.cell (by have := hcc 0 _ rfl; rw [hv.k] at this; simpa using this) hno
   have e1 : wr.cell? ⟨b, off + q * 5 + 1, none⟩ = some (.string ⟨x.s.toArray⟩) := HB.out.cell (by have := hcc 1 _ rfl; rw [hv.s] at this; simpa using this) hno
   have hjm' : (j : Int) < (m : Int) := by omega
   have hzq : (0 : Int) ≤ (q : Int) := by omega
   clear hcs hcc hck hv hx hz0 hjl hno hno2 hq
   by_cases h13 : x.k = 13
   ·rw [if_pos h13] at hM
    rw [h13] at e0
    have HM2 := Lib.hid hM
    obtain ⟨c0, c1, f1, hne2, D, hown, hvw⟩ := HSc.out
    obtain ⟨w1, hrun, hown1, hturn⟩ := hown.drew.drop mlaw Tryz.underlying161 (mkey x.s hxs) 0
    clear hM
    go_wp2_with fail
    refine wp_region_held_drew (S := fun W => W.cell? ⟨sb, 0, none⟩ = some (.map (some mb)) ∧ W.cell? ⟨b, off + q * 5 + 1, none⟩ = some (.string ⟨x.s.toArray⟩)) (by kernel_rfl) ⟨c0, e1⟩ (fun hH => ?_)
    refine take_yes (i := 0) (d := 20) (v := ?_) rfl rfl (by kernel_rfl) (by kernel_rfl) (by kernel_rfl) (fun _ _ _ h => h) (by rfl) ?_ (by assumption) ?_
    rotate_left 1
    ·intro w hSw
     obtain ⟨z0, z1⟩ := hSw
     go_simp
     with_reducible rfl
    try simp only [Act.put, List.setIfInBounds_toArray, List.set_cons_zero, List.set_cons_succ]
    refine take_yes (i := 1) (d := 21) (v := ?_) rfl rfl (by kernel_rfl) (by kernel_rfl) (by kernel_rfl) (fun _ _ _ h => h) (by rfl) ?_ (by assumption) ?_
    rotate_left 1
    ·intro w hSw
     obtain ⟨z0, z1⟩ := hSw
     go_simp
     with_reducible rfl
    try simp only [Act.put, List.setIfInBounds_toArray, List.set_cons_zero, List.set_cons_succ]
    refine take_yes (i := 2) (d := 22) (v := ?_) rfl rfl (by kernel_rfl) (by kernel_rfl) (by kernel_rfl) (fun _ _ _ h => h) (by rfl) ?_ (by assumption) ?_
    rotate_left 1
    ·intro w hSw
     obtain ⟨z0, z1⟩ := hSw
     go_simp
     with_reducible rfl
    try simp only [Act.put, List.setIfInBounds_toArray, List.set_cons_zero, List.set_cons_succ]
    refine take_yes (i := 3) (d := 23) (v := ?_) rfl rfl (by kernel_rfl) (by kernel_rfl) (by kernel_rfl) (fun _ _ _ h => h) (by rfl) ?_ (by assumption) ?_
    rotate_left 1
    ·intro w hSw
     obtain ⟨z0, z1⟩ := hSw
     go_simp
     with_reducible rfl
    try simp only [Act.put, List.setIfInBounds_toArray, List.set_cons_zero, List.set_cons_succ]
    refine take_yes (i := 4) (d := 24) (v := ?_) rfl rfl (by kernel_rfl) (by kernel_rfl) (by kernel_rfl) (fun _ _ _ h => h) (by rfl) ?_ (by assumption) ?_
    rotate_left 1
    ·intro w hSw
     obtain ⟨z0, z1⟩ := hSw
     go_simp
     with_reducible rfl
    try simp only [Act.put, List.setIfInBounds_toArray, List.set_cons_zero, List.set_cons_succ]
    refine take_yes (i := 5) (d := 25) (v := ?_) rfl rfl (by kernel_rfl) (by kernel_rfl) (by kernel_rfl) (fun _ _ _ h => h) (by rfl) ?_ (by assumption) ?_
    rotate_left 1
    ·intro w hSw
     obtain ⟨z0, z1⟩ := hSw
     go_simp
     with_reducible rfl
    try simp only [Act.put, List.setIfInBounds_toArray, List.set_cons_zero, List.set_cons_succ]
    refine take_yes (i := 6) (d := 26) (v := ?_) rfl rfl (by kernel_rfl) (by kernel_rfl) (by kernel_rfl) (fun _ _ _ h => h) (by rfl) ?_ (by assumption) ?_
    rotate_left 1
    ·intro w hSw
     obtain ⟨z0, z1⟩ := hSw
     go_simp
     with_reducible rfl
    try simp only [Act.put, List.setIfInBounds_toArray, List.set_cons_zero, List.set_cons_succ]
    refine take_yes (i := 7) (d := 27) (v := ?_) rfl rfl (by kernel_rfl) (by kernel_rfl) (by kernel_rfl) (fun _ _ _ h => h) (by rfl) ?_ (by assumption) ?_
    rotate_left 1
    ·intro w hSw
     obtain ⟨z0, z1⟩ := hSw
     go_simp
     with_reducible rfl
    try simp only [Act.put, List.setIfInBounds_toArray, List.set_cons_zero, List.set_cons_succ]
    refine take_yes (i := 8) (d := 28) (v := ?_) rfl rfl (by kernel_rfl) (by kernel_rfl) (by kernel_rfl) (fun _ _ _ h => h) (by rfl) ?_ (by assumption) ?_
    rotate_left 1
    ·intro w hSw
     obtain ⟨z0, z1⟩ := hSw
     go_simp
     with_reducible rfl
    try simp only [Act.put, List.setIfInBounds_toArray, List.set_cons_zero, List.set_cons_succ]
    refine wpAnyH_ready (rs := [9]) (by kernel_rfl) (by simp) ?_
    refine AllReadyH.cons rfl (fun K hK => ?_) AllReadyH.nil
    go_simp
    have t0 := (turn_mod hturn).cell (show wr.drew.cell? ⟨sb, 0, none⟩ = _ from c0) hne2.symm
    have t1 := (turn_mod hturn).cell (show wr.drew.cell? ⟨sb, 1, none⟩ = _ from c1) hne2.symm
    have t2 := (turn_mod hturn).cell (show wr.drew.cell? ⟨b, off + q * 5 + 1, none⟩ = _ from e1) hbm
    have t3 := (hturn.frozen ⟨sb, 1, none⟩).trans f1
    have S3 := Lib.hid (show ScAt w1 sb mb (s.del x.s) from ⟨t0, t1, t3, hne2, _, hown1, hvw.del x.s⟩)
    have B3 := Lib.hid (show Mod (Of sb mb) w w1 from HB.out.drew.trans (turn_mod hturn) (fun i h => Or.inl (Or.inr h)))
    refine hK.out _ _ ⟨t0, t2⟩ (fun hH2 => ?_)
    clear hK K hH hH2 hown1 hturn
    try simp only [Act.put, List.setIfInBounds_toArray, List.set_cons_zero, List.set_cons_succ]
    refine wpAnyH_done (by kernel_rfl) ?_ _
    go_wp2_with fail
    go_round
    case rel => exact ⟨j + 1, s.del x.s, by go_num, by omega, S3, HM2, B3, Lib.hid (by have := Hc.out; exact this)⟩
    case measure => simp [intOf]; omega
   ·rw [if_neg h13] at hM
    have HM2 := Lib.hid hM
    have h13b : (x.k == 13) = false := by simpa using h13
    clear hM
    go_wp2_with fail
    go_round
    case rel => exact ⟨j + 1, s, by go_num, by omega, HSc, HM2, HB, Hc⟩
    case measure => simp [intOf]; omega
  ·have S2 := Lib.hid (show ScAt wr sb mb R by have := HM.out; rw [List.drop_eq_nil_of_le (by rw [HL.out]; exact hjm)] at this; rw [← this]; exact HSc.out)
   obtain rfl : j = m := by omega
   go_wp2_with fail
   go_end0
   exact ⟨rfl, S2.out, HB.out⟩
end Syn
end Go.Proofs.YtcapkeaedpabjaaGreatDoor

/-
 Layer 9: a node's visit.
-/
namespace Go.Proofs.YtcapkeaedpabjaaGreatDoor
open Go.RowKit Go.ChangeShapes Go.WideShapes Go.Maps
namespace Syn
/-- What visit says. -/
def VisPost (L : List Nd) (F : List Fw) (S : Sc) (x : Nd) (sb mb : Nat) (w : World) (e : Ending) (w' : World) : Prop :=
 e = .returned (.tuple #[.int .i64 (visP L (wantI F) S x).2.1, .int .i64 (visP L (wantI F) S x).2.2]) ∧ ScAt w' sb mb (visP L (wantI F) S x).1 ∧ Mod (Of sb mb) w w'
theorem mod_bel {F : Nat → Prop} {a b c : World} (h : Bel a b) (g : Mod F b c) : Mod F a c := (Mod.of_bel (F := F) h).trans g (fun _ k => Or.inl k)
theorem mod_end {F : Nat → Prop} {a b c : World} (h : Mod F a b) (g : Bel b c) : Mod F a c := h.trans (Mod.of_bel (F := F) g) (fun _ k => Or.inl k)
theorem ScAt.bel {w w' : World} {sb mb : Nat} {s : Sc} (h : ScAt w sb mb s) (g : Bel w w') : ScAt w' sb mb s := h.on (F := fun _ => False) (Mod.of_bel g) (fun h => h) (fun h => h)
set_option maxRecDepth 100000 in
set_option maxHeartbeats 4000000 in
theorem visit_5 (sb mb : Nat) (no fo : Option Addr) (n nc k fc : Nat) (L : List Nd) (F : List Fw) (x : Nd) (v : Nv) (S : Sc) (w : World) (hv : NFit w v x) (hS : ScAt w sb mb S) (hs : x.s.length ≤ 140737488355328) (hk : x.k = 5) :
  Calls Tryz.prog 156 #[.agg #[.slice no n nc, .slice fo k fc], .pointer (some ⟨sb, 0, none⟩), nodV v] w (VisPost L F S x sb mb w) := by
 have hvk := hv.k
 have hvs := hv.s
 have hjn := hv.kids.1
 have hZ := hv.kids
 obtain ⟨vk, vs, vi, ko, kn, kc, jo, jn, jc⟩ := v
 dsimp only at hvk hvs hjn hZ
 subst hvk hvs
 unfold nodV
 dsimp only
 rw [hk]
 obtain ⟨V, hV⟩ : ∃ V, (w.alloc (.cells #[.slice no n nc, .slice fo k fc] 25)).alloc (.cells #[.int .i64 5, .string ⟨x.s.toArray⟩, .int .i64 vi, .slice ko kn kc, .slice jo jn jc] 65) = V := ⟨_, rfl⟩
 have BV : Bel w V := by rw [← hV]; exact Bel.alloc (Bel.alloc (Bel.refl w) _) _
 have hz : (w.alloc (.cells #[.slice no n nc, .slice fo k fc] 25)).heap.size = w.heap.size + 1 := alloc_szs _ _
 obtain ⟨y0, y1, y2, y3, y4⟩ := box5 (w.alloc (.cells #[.slice no n nc, .slice fo k fc] 25)) (.int .i64 5) (.string ⟨x.s.toArray⟩) (.int .i64 vi) (.slice ko kn kc) (.slice jo jn jc) 65
 rw [hV, hz] at y0 y1 y2 y3 y4
 have hP : V.cell? ⟨w.heap.size, 0, none⟩ = some (.slice no n nc) ∧ V.cell? ⟨w.heap.size, 1, none⟩ = some (.slice fo k fc) := by
  have BB : Bel (w.alloc (.cells #[.slice no n nc, .slice fo k fc] 25)) V := by rw [← hV]; exact Bel.alloc (Bel.refl _) _
  exact ⟨BB.cell' (World.cell?_alloc_new ..), BB.cell' (World.cell?_alloc_new ..)⟩
 obtain ⟨p0, p1⟩ := hP
 have HBV := Lib.hid BV
 have HSV := Lib.hid (hS.bel BV)
 have HS := Lib.hid hS
 have HZ := Lib.hid (hZ.on BV)
 have HV := Lib.hid hV
 clear hv hS hZ BV hz hV
 have hp : visP L (wantI F) S x = (S, outI (S.vis x.s), findX (S.vis x.s)) := by
  unfold visP
  rw [if_pos (by omega)]
  cases S.vis x.s <;> rfl
 unfold VisPost
 rw [hp]
 have HC := Lib.hid (find_any2 sb mb S x.s hs V HSV.out)
 unfold findE at HC
 generalize outI (S.vis x.s) = r at *
 generalize findX (S.vis x.s) = er at *
 clear hp hk
 go_enter Tryz.func156, Tryz.ntmps156
 go_wp2_with fail
 rw [HV.out]
 refine HC.out.mono ?_
 rintro e w2 ⟨rfl, rfl⟩
 go_wp2_with fail
 go_ret2
 exact ⟨rfl, HSV.out, Mod.of_bel HBV.out⟩
set_option maxRecDepth 100000 in
set_option maxHeartbeats 4000000 in
theorem visit_14 (sb mb : Nat) (no fo : Option Addr) (n nc k fc : Nat) (L : List Nd) (F : List Fw) (x : Nd) (v : Nv) (S : Sc) (w : World) (hv : NFit w v x) (hS : ScAt w sb mb S) (hs : x.s.length ≤ 140737488355328) (hk : x.k = 14) :
  Calls Tryz.prog 156 #[.agg #[.slice no n nc, .slice fo k fc], .pointer (some ⟨sb, 0, none⟩), nodV v] w (VisPost L F S x sb mb w) := by
 have hvk := hv.k
 have hvs := hv.s
 have hjn := hv.kids.1
 have hZ := hv.kids
 obtain ⟨vk, vs, vi, ko, kn, kc, jo, jn, jc⟩ := v
 dsimp only at hvk hvs hjn hZ
 subst hvk hvs
 unfold nodV
 dsimp only
 rw [hk]
 obtain ⟨V, hV⟩ : ∃ V, (w.alloc (.cells #[.slice no n nc, .slice fo k fc] 25)).alloc (.cells #[.int .i64 14, .string ⟨x.s.toArray⟩, .int .i64 vi, .slice ko kn kc, .slice jo jn jc] 65) = V := ⟨_, rfl⟩
 have BV : Bel w V := by rw [← hV]; exact Bel.alloc (Bel.alloc (Bel.refl w) _) _
 have hz : (w.alloc (.cells #[.slice no n nc, .slice fo k fc] 25)).heap.size = w.heap.size + 1 := alloc_szs _ _
 obtain ⟨y0, y1, y2, y3, y4⟩ := box5 (w.alloc (.cells #[.slice no n nc, .slice fo k fc] 25)) (.int .i64 14) (.string ⟨x.s.toArray⟩) (.int .i64 vi) (.slice ko kn kc) (.slice jo jn jc) 65
 rw [hV, hz] at y0 y1 y2 y3 y4
 have hP : V.cell? ⟨w.heap.size, 0, none⟩ = some (.slice no n nc) ∧ V.cell? ⟨w.heap.size, 1, none⟩ = some (.slice fo k fc) := by
  have BB : Bel (w.alloc (.cells #[.slice no n nc, .slice fo k fc] 25)) V := by rw [← hV]; exact Bel.alloc (Bel.refl _) _
  exact ⟨BB.cell' (World.cell?_alloc_new ..), BB.cell' (World.cell?_alloc_new ..)⟩
 obtain ⟨p0, p1⟩ := hP
 have HBV := Lib.hid BV
 have HSV := Lib.hid (hS.bel BV)
 have HS := Lib.hid hS
 have HZ := Lib.hid (hZ.on BV)
 have HV := Lib.hid hV
 clear hv hS hZ BV hz hV
 have hp : visP L (wantI F) S x = (S, outI (S.vis x.s), findX (S.vis x.s)) := by
  unfold visP
  rw [if_pos (by omega)]
  cases S.vis x.s <;> rfl
 unfold VisPost
 rw [hp]
 have HC := Lib.hid (find_any2 sb mb S x.s hs V HSV.out)
 unfold findE at HC
 generalize outI (S.vis x.s) = r at *
 generalize findX (S.vis x.s) = er at *
 clear hp hk
 go_enter Tryz.func156, Tryz.ntmps156
 go_wp2_with fail
 rw [HV.out]
 refine HC.out.mono ?_
 rintro e w2 ⟨rfl, rfl⟩
 go_wp2_with fail
 go_ret2
 exact ⟨rfl, HSV.out, Mod.of_bel HBV.out⟩
set_option maxRecDepth 100000 in
set_option maxHeartbeats 4000000 in
theorem visit_13 (sb mb : Nat) (no fo : Option Addr) (n nc k fc : Nat) (L : List Nd) (F : List Fw) (x : Nd) (v : Nv) (S : Sc) (w : World) (hv : NFit w v x) (hS : ScAt w sb mb S) (hs : x.s.length ≤ 140737488355328) (hc : S.cnt ≤ 100000) (hk : x.k = 13) :
  Calls Tryz.prog 156 #[.agg #[.slice no n nc, .slice fo k fc], .pointer (some ⟨sb, 0, none⟩), nodV v] w (VisPost L F S x sb mb w) := by
 have hvk := hv.k
 have hvs := hv.s
 have hjn := hv.kids.1
 have hZ := hv.kids
 obtain ⟨vk, vs, vi, ko, kn, kc, jo, jn, jc⟩ := v
 dsimp only at hvk hvs hjn hZ
 subst hvk hvs
 unfold nodV
 dsimp only
 rw [hk]
 obtain ⟨V, hV⟩ : ∃ V, (w.alloc (.cells #[.slice no n nc, .slice fo k fc] 25)).alloc (.cells #[.int .i64 13, .string ⟨x.s.toArray⟩, .int .i64 vi, .slice ko kn kc, .slice jo jn jc] 65) = V := ⟨_, rfl⟩
 have BV : Bel w V := by rw [← hV]; exact Bel.alloc (Bel.alloc (Bel.refl w) _) _
 have hz : (w.alloc (.cells #[.slice no n nc, .slice fo k fc] 25)).heap.size = w.heap.size + 1 := alloc_szs _ _
 obtain ⟨y0, y1, y2, y3, y4⟩ := box5 (w.alloc (.cells #[.slice no n nc, .slice fo k fc] 25)) (.int .i64 13) (.string ⟨x.s.toArray⟩) (.int .i64 vi) (.slice ko kn kc) (.slice jo jn jc) 65
 rw [hV, hz] at y0 y1 y2 y3 y4
 have hP : V.cell? ⟨w.heap.size, 0, none⟩ = some (.slice no n nc) ∧ V.cell? ⟨w.heap.size, 1, none⟩ = some (.slice fo k fc) := by
  have BB : Bel (w.alloc (.cells #[.slice no n nc, .slice fo k fc] 25)) V := by rw [← hV]; exact Bel.alloc (Bel.refl _) _
  exact ⟨BB.cell' (World.cell?_alloc_new ..), BB.cell' (World.cell?_alloc_new ..)⟩
 obtain ⟨p0, p1⟩ := hP
 have HBV := Lib.hid BV
 have HSV := Lib.hid (hS.bel BV)
 have HS := Lib.hid hS
 have HZ := Lib.hid (hZ.on BV)
 have HV := Lib.hid hV
 clear hv hS hZ BV hz hV
 have hp : visP L (wantI F) S x = (declS S x.s, (declE S x.s).1, (declE S x.s).2) := by
  unfold visP declS declE
  rw [if_neg (by omega), if_pos hk]
  cases S.vis x.s with
  | some n => rfl
  | none => simp only; split <;> rfl
 unfold VisPost
 rw [hp]
 have HC := Lib.hid (declare_any sb mb S x.s hs hc V HSV.out)
 generalize (declE S x.s).1 = r at *
 generalize (declE S x.s).2 = er at *
 clear hp hk
 go_enter Tryz.func156, Tryz.ntmps156
 go_wp2_with fail
 rw [HV.out]
 refine HC.out.mono ?_
 rintro e w2 ⟨rfl, k1, k2⟩
 go_wp2_with fail
 go_ret2
 exact ⟨rfl, k1, mod_bel HBV.out k2⟩
set_option maxRecDepth 100000 in
set_option maxHeartbeats 4000000 in
theorem visit_11 (sb mb : Nat) (no fo : Option Addr) (n nc k fc : Nat) (L : List Nd) (F : List Fw) (x : Nd) (v : Nv) (S : Sc) (w : World) (hv : NFit w v x) (hS : ScAt w sb mb S) (hk2 : k ≤ 4611686018427387904) (hwF : ∀ x ∈ F, x.params.length ≤ 4611686018427387904) (hF : FArg w fo k F) (hk : x.k = 11) :
  Calls Tryz.prog 156 #[.agg #[.slice no n nc, .slice fo k fc], .pointer (some ⟨sb, 0, none⟩), nodV v] w (VisPost L F S x sb mb w) := by
 have hvk := hv.k
 have hvs := hv.s
 have hjn := hv.kids.1
 have hZ := hv.kids
 obtain ⟨vk, vs, vi, ko, kn, kc, jo, jn, jc⟩ := v
 dsimp only at hvk hvs hjn hZ
 subst hvk hvs
 unfold nodV
 dsimp only
 rw [hk]
 obtain ⟨V, hV⟩ : ∃ V, (w.alloc (.cells #[.slice no n nc, .slice fo k fc] 25)).alloc (.cells #[.int .i64 11, .string ⟨x.s.toArray⟩, .int .i64 vi, .slice ko kn kc, .slice jo jn jc] 65) = V := ⟨_, rfl⟩
 have BV : Bel w V := by rw [← hV]; exact Bel.alloc (Bel.alloc (Bel.refl w) _) _
 have hz : (w.alloc (.cells #[.slice no n nc, .slice fo k fc] 25)).heap.size = w.heap.size + 1 := alloc_szs _ _
 obtain ⟨y0, y1, y2, y3, y4⟩ := box5 (w.alloc (.cells #[.slice no n nc, .slice fo k fc] 25)) (.int .i64 11) (.string ⟨x.s.toArray⟩) (.int .i64 vi) (.slice ko kn kc) (.slice jo jn jc) 65
 rw [hV, hz] at y0 y1 y2 y3 y4
 have hP : V.cell? ⟨w.heap.size, 0, none⟩ = some (.slice no n nc) ∧ V.cell? ⟨w.heap.size, 1, none⟩ = some (.slice fo k fc) := by
  have BB : Bel (w.alloc (.cells #[.slice no n nc, .slice fo k fc] 25)) V := by rw [← hV]; exact Bel.alloc (Bel.refl _) _
  exact ⟨BB.cell' (World.cell?_alloc_new ..), BB.cell' (World.cell?_alloc_new ..)⟩
 obtain ⟨p0, p1⟩ := hP
 have HBV := Lib.hid BV
 have HSV := Lib.hid (hS.bel BV)
 have HS := Lib.hid hS
 have HZ := Lib.hid (hZ.on BV)
 have HV := Lib.hid hV
 clear hv hS hZ BV hz hV
 have hp : visP L (wantI F) S x = (S, -1, argE x.kids.length (wantI F x)) := by
  unfold visP
  rw [if_neg (by omega), if_neg (by omega), if_pos (by omega)]
 unfold VisPost
 rw [hp, hjn]
 have hW : wantI F x = parI F x.s := by unfold wantI; rw [if_neg (by omega)]
 rw [hW]
 have HC := Lib.hid (paramsOf_any no fo n nc k fc F x.s hk2 hwF V (hF.on HBV.out))
 have HD := Lib.hid (fun W => checkArgs_any 11 ⟨x.s.toArray⟩ vi ko jo kn kc jn jc (parI F x.s) W)
 unfold okN at HC
 generalize (if parI F x.s < 0 then (0 : Int) else parI F x.s) = r1 at *
 generalize decide (0 ≤ parI F x.s) = r2 at *
 generalize argE (jn : Int) (parI F x.s) = er at *
 clear hp hk hW hwF hF hk2
 go_enter Tryz.func156, Tryz.ntmps156
 go_wp2_with fail
 rw [HV.out]
 refine HC.out.mono ?_
 rintro e w2 ⟨rfl, g⟩
 have e0 := g.cell' y0
 have e1 := g.cell' y1
 have e2 := g.cell' y2
 have e3 := g.cell' y3
 have e4 := g.cell' y4
 have G := Lib.hid g
 clear g
 go_wp2_with fail
 refine (HD.out _).mono ?_
 rintro e w3 ⟨rfl, g⟩
 have G2 := Lib.hid (Bel.trans G.out g)
 clear g
 go_wp2_with fail
 go_ret2
 exact ⟨rfl, HSV.out.bel G2.out, Mod.of_bel (Bel.trans HBV.out G2.out)⟩
set_option maxRecDepth 100000 in
set_option maxHeartbeats 4000000 in
theorem visit_12 (sb mb : Nat) (no fo : Option Addr) (n nc k fc : Nat) (L : List Nd) (F : List Fw) (x : Nd) (v : Nv) (S : Sc) (w : World) (hv : NFit w v x) (hS : ScAt w sb mb S)  (hk : x.k = 12) :
  Calls Tryz.prog 156 #[.agg #[.slice no n nc, .slice fo k fc], .pointer (some ⟨sb, 0, none⟩), nodV v] w (VisPost L F S x sb mb w) := by
 have hvk := hv.k
 have hvs := hv.s
 have hjn := hv.kids.1
 have hZ := hv.kids
 obtain ⟨vk, vs, vi, ko, kn, kc, jo, jn, jc⟩ := v
 dsimp only at hvk hvs hjn hZ
 subst hvk hvs
 unfold nodV
 dsimp only
 rw [hk]
 obtain ⟨V, hV⟩ : ∃ V, (w.alloc (.cells #[.slice no n nc, .slice fo k fc] 25)).alloc (.cells #[.int .i64 12, .string ⟨x.s.toArray⟩, .int .i64 vi, .slice ko kn kc, .slice jo jn jc] 65) = V := ⟨_, rfl⟩
 have BV : Bel w V := by rw [← hV]; exact Bel.alloc (Bel.alloc (Bel.refl w) _) _
 have hz : (w.alloc (.cells #[.slice no n nc, .slice fo k fc] 25)).heap.size = w.heap.size + 1 := alloc_szs _ _
 obtain ⟨y0, y1, y2, y3, y4⟩ := box5 (w.alloc (.cells #[.slice no n nc, .slice fo k fc] 25)) (.int .i64 12) (.string ⟨x.s.toArray⟩) (.int .i64 vi) (.slice ko kn kc) (.slice jo jn jc) 65
 rw [hV, hz] at y0 y1 y2 y3 y4
 have hP : V.cell? ⟨w.heap.size, 0, none⟩ = some (.slice no n nc) ∧ V.cell? ⟨w.heap.size, 1, none⟩ = some (.slice fo k fc) := by
  have BB : Bel (w.alloc (.cells #[.slice no n nc, .slice fo k fc] 25)) V := by rw [← hV]; exact Bel.alloc (Bel.refl _) _
  exact ⟨BB.cell' (World.cell?_alloc_new ..), BB.cell' (World.cell?_alloc_new ..)⟩
 obtain ⟨p0, p1⟩ := hP
 have HBV := Lib.hid BV
 have HSV := Lib.hid (hS.bel BV)
 have HS := Lib.hid hS
 have HZ := Lib.hid (hZ.on BV)
 have HV := Lib.hid hV
 clear hv hS hZ BV hz hV
 have hp : visP L (wantI F) S x = (S, -1, argE x.kids.length (wantI F x)) := by
  unfold visP
  rw [if_neg (by omega), if_neg (by omega), if_pos (by omega)]
 unfold VisPost
 rw [hp, hjn]
 have hW : wantI F x = hstI x.s := by unfold wantI; rw [if_pos hk]
 rw [hW]
 have HC := Lib.hid (hst_any x.s V)
 have HD := Lib.hid (fun W => checkArgs_any 12 ⟨x.s.toArray⟩ vi ko jo kn kc jn jc (hstI x.s) W)
 unfold okN at HC
 generalize (if hstI x.s < 0 then (0 : Int) else hstI x.s) = r1 at *
 generalize decide (0 ≤ hstI x.s) = r2 at *
 generalize argE (jn : Int) (hstI x.s) = er at *
 clear hp hk hW
 go_enter Tryz.func156, Tryz.ntmps156
 go_wp2_with fail
 rw [HV.out]
 refine HC.out.mono ?_
 rintro e w2 ⟨rfl, rfl⟩
 have g := Bel.refl w2
 have e0 := g.cell' y0
 have e1 := g.cell' y1
 have e2 := g.cell' y2
 have e3 := g.cell' y3
 have e4 := g.cell' y4
 have G := Lib.hid g
 clear g
 go_wp2_with fail
 refine (HD.out _).mono ?_
 rintro e w3 ⟨rfl, g⟩
 have G2 := Lib.hid (Bel.trans G.out g)
 clear g
 go_wp2_with fail
 go_ret2
 exact ⟨rfl, HSV.out.bel G2.out, Mod.of_bel (Bel.trans HBV.out G2.out)⟩
set_option maxRecDepth 100000 in
set_option maxHeartbeats 4000000 in
theorem visit_19 (sb mb : Nat) (no fo : Option Addr) (n nc k fc : Nat) (L : List Nd) (F : List Fw) (x : Nd) (v : Nv) (S : Sc) (w : World) (hv : NFit w v x) (hS : ScAt w sb mb S) (hj : v.jn ≤ 100000) (hkd : ∀ z ∈ x.kids, 0 ≤ z ∧ z < (n : Int)) (hsL : ∀ x ∈ L, x.s.length ≤ 140737488355328) (hc : S.cnt ≤ 100000) (hA : NArg w no n L) (hf1 : 0 < n → ∀ o, no = some o → o.block ≠ sb ∧ o.block ≠ mb) (hf2 : 0 < v.jn → ∀ o, v.jo = some o → o.block ≠ sb ∧ o.block ≠ mb) (hk : x.k = 19) :
  Calls Tryz.prog 156 #[.agg #[.slice no n nc, .slice fo k fc], .pointer (some ⟨sb, 0, none⟩), nodV v] w (VisPost L F S x sb mb w) := by
 have hvk := hv.k
 have hvs := hv.s
 have hjn := hv.kids.1
 have hZ := hv.kids
 obtain ⟨vk, vs, vi, ko, kn, kc, jo, jn, jc⟩ := v
 dsimp only at hvk hvs hjn hZ
 subst hvk hvs
 unfold nodV
 dsimp only
 rw [hk]
 obtain ⟨V, hV⟩ : ∃ V, (w.alloc (.cells #[.slice no n nc, .slice fo k fc] 25)).alloc (.cells #[.int .i64 19, .string ⟨x.s.toArray⟩, .int .i64 vi, .slice ko kn kc, .slice jo jn jc] 65) = V := ⟨_, rfl⟩
 have BV : Bel w V := by rw [← hV]; exact Bel.alloc (Bel.alloc (Bel.refl w) _) _
 have hz : (w.alloc (.cells #[.slice no n nc, .slice fo k fc] 25)).heap.size = w.heap.size + 1 := alloc_szs _ _
 obtain ⟨y0, y1, y2, y3, y4⟩ := box5 (w.alloc (.cells #[.slice no n nc, .slice fo k fc] 25)) (.int .i64 19) (.string ⟨x.s.toArray⟩) (.int .i64 vi) (.slice ko kn kc) (.slice jo jn jc) 65
 rw [hV, hz] at y0 y1 y2 y3 y4
 have hP : V.cell? ⟨w.heap.size, 0, none⟩ = some (.slice no n nc) ∧ V.cell? ⟨w.heap.size, 1, none⟩ = some (.slice fo k fc) := by
  have BB : Bel (w.alloc (.cells #[.slice no n nc, .slice fo k fc] 25)) V := by rw [← hV]; exact Bel.alloc (Bel.refl _) _
  exact ⟨BB.cell' (World.cell?_alloc_new ..), BB.cell' (World.cell?_alloc_new ..)⟩
 obtain ⟨p0, p1⟩ := hP
 have HBV := Lib.hid BV
 have HSV := Lib.hid (hS.bel BV)
 have HS := Lib.hid hS
 have HZ := Lib.hid (hZ.on BV)
 have HV := Lib.hid hV
 clear hv hS hZ BV hz hV
 have hp : visP L (wantI F) S x = (leaveP L S x.kids, -1, 0) := by
  unfold visP
  rw [if_neg (by omega), if_neg (by omega), if_neg (by omega), if_pos hk]
 unfold VisPost
 rw [hp]
 have HC := Lib.hid (leave_any sb mb no jo n nc jn jc L x.kids hj hkd hsL S hc V (hA.on HBV.out) HZ.out HSV.out hf1 (fun h0 o e => hf2 (by simpa using h0) o (by simpa using e)))
 clear hp hk
 go_enter Tryz.func156, Tryz.ntmps156
 go_wp2_with fail
 rw [HV.out]
 refine HC.out.mono ?_
 rintro e w2 ⟨rfl, k1, k2⟩
 go_wp2_with fail
 go_ret2
 exact ⟨rfl, k1, mod_bel HBV.out k2⟩
set_option maxRecDepth 100000 in
set_option maxHeartbeats 4000000 in
theorem visit_no (sb mb : Nat) (no fo : Option Addr) (n nc k fc : Nat) (L : List Nd) (F : List Fw) (x : Nd) (v : Nv) (S : Sc) (w : World) (hv : NFit w v x) (hS : ScAt w sb mb S) (h5 : x.k ≠ 5) (h14 : x.k ≠ 14) (h13 : x.k ≠ 13) (h11 : x.k ≠ 11) (h12 : x.k ≠ 12) (h19 : x.k ≠ 19) :
  Calls Tryz.prog 156 #[.agg #[.slice no n nc, .slice fo k fc], .pointer (some ⟨sb, 0, none⟩), nodV v] w (VisPost L F S x sb mb w) := by
 have hp : visP L (wantI F) S x = (S, -1, 0) := by
  unfold visP
  rw [if_neg (by omega), if_neg h13, if_neg (by omega), if_neg h19]
 unfold VisPost
 rw [hp]
 have hvk := hv.k
 obtain ⟨vk, vs, vi, ko, kn, kc, jo, jn, jc⟩ := v
 dsimp only at hvk
 unfold nodV
 dsimp only
 rw [← hvk] at h5 h14 h13 h11 h12 h19
 have b5 : (vk == 5) = false := by simpa using h5
 have b14 : (vk == 14) = false := by simpa using h14
 have b13 : (vk == 13) = false := by simpa using h13
 have b11 : (vk == 11) = false := by simpa using h11
 have b12 : (vk == 12) = false := by simpa using h12
 have b19 : (vk == 19) = false := by simpa using h19
 have HB := Lib.hid (Bel.alloc (Bel.alloc (Bel.refl w) (.cells #[.slice no n nc, .slice fo k fc] 25)) (.cells #[.int .i64 vk, .string ⟨vs.toArray⟩, .int .i64 vi, .slice ko kn kc, .slice jo jn jc] 65))
 have HS := Lib.hid hS
 clear hv hS hp hvk h5 h14 h13 h11 h12 h19
 go_enter Tryz.func156, Tryz.ntmps156
 go_wp2_with fail
 go_ret2
 exact ⟨rfl, HS.out.bel HB.out, Mod.of_bel HB.out⟩
end Syn
end Go.Proofs.YtcapkeaedpabjaaGreatDoor

/-
 Layer 9: names that are there twice; main.
-/
namespace Go.Proofs.YtcapkeaedpabjaaGreatDoor
open Go.RowKit Go.ChangeShapes Go.WideShapes Go.Maps
namespace Syn
/-- A place and an error. -/
def atE (o : Option (Int × Int)) : Value := match o with | some q => .tuple #[.int .i64 q.1, .int .i64 q.2] | none => .tuple #[.int .i64 0, .int .i64 0]
set_option maxRecDepth 100000 in
set_option maxHeartbeats 8000000 in
theorem checkFuncs_any (no fo : Option Addr) (n nc k fc : Nat) (F : List Fw) (hk : k ≤ 100000) (hps : ∀ x ∈ F, x.params.length ≤ 1000) (w : World) (hF : FArg w fo k F) :
  Calls Tryz.prog 98 #[.agg #[.slice no n nc, .slice fo k fc]] w fun e w' => e = .returned (atE ((dupF F 0 F).map fun b => (b, 6))) ∧ Bel w w' := by
 obtain ⟨V, hV⟩ : ∃ V, w.alloc (.cells #[.slice no n nc, .slice fo k fc] 25) = V := ⟨_, rfl⟩
 have BV : Bel w V := by rw [← hV]; exact Bel.alloc (Bel.refl w) _
 obtain ⟨v0, v1⟩ : V.cell? ⟨w.heap.size, 0, none⟩ = some (.slice no n nc) ∧ V.cell? ⟨w.heap.size, 1, none⟩ = some (.slice fo k fc) := by
  rw [← hV]
  exact ⟨World.cell?_alloc_new .., World.cell?_alloc_new ..⟩
 obtain ⟨X, hX⟩ : ∃ X, dupF F 0 F = X := ⟨_, rfl⟩
 rw [hX]
 have HX := Lib.hid (show dupF F 0 (F.drop 0) = X from hX)
 have HBV := Lib.hid BV
 have HF := Lib.hid (hF.on BV)
 have HFk := Lib.hid hF.1
 have HP := Lib.hid hps
 have HV0 := Lib.hid v0
 have HV1 := Lib.hid v1
 have HV := Lib.hid hV
 clear hX BV hF hps hV v0
 go_enter Tryz.func98, Tryz.ntmps98
 go_wp2_with fail
 go_loopw [11] (fun iv wr => ∃ j : Nat, iv = .int .i64 (j : Int) ∧ j ≤ k ∧ Hid (dupF F j (F.drop j) = X) ∧ Hid (Bel V wr)) (fun iv _ => k - (intOf iv).toNat)
 case atStart => exact ⟨0, rfl, Nat.zero_le _, HX, Lib.hid (by rw [← HV.out]; exact Bel.refl _)⟩
 case round =>
  obtain ⟨j, rfl, hj, HM, HB⟩ := hrel
  rename World => wr
  have v0 := HB.out.cell' HV0.out
  have v1 := HB.out.cell' HV1.out
  rcases Nat.lt_or_ge j k with hjk | hjk
  ·have hjl : j < F.length := by rw [HFk.out]; exact hjk
   have hM := HM.out
   rw [List.drop_eq_getElem_cons hjl, dupF] at hM
   obtain ⟨b, off, rfl, hcs⟩ := HF.out.2 (by omega)
   obtain ⟨⟨vs, po, pk, pc, vj⟩, hv, hcc⟩ := hcs j hjl
   obtain ⟨f, hf⟩ : ∃ f, F[j] = f := ⟨_, rfl⟩
   have hfp : f.params.length ≤ 1000 := by rw [← hf]; exact HP.out _ (List.getElem_mem hjl)
   rw [hf] at hM hv
   have d0 : wr.cell? ⟨b, off + j * 3, none⟩ = some (.string ⟨f.name.toArray⟩) := HB.out.cell' (by have := hcc 0 _ rfl; rw [hv.s] at this; simpa using this)
   have d1 : wr.cell? ⟨b, off + j * 3 + 1, none⟩ = some (.slice po pk pc) := HB.out.cell' (by simpa using hcc 1 _ rfl)
   have d2 : wr.cell? ⟨b, off + j * 3 + 2, none⟩ = some (.int .i64 f.body) := HB.out.cell' (by have := hcc 2 _ rfl; rw [hv.j] at this; simpa using this)
   have hps := hv.ps.on HB.out
   dsimp only at hps
   have hpk : pk ≤ 1000 := by have := hps.1; rw [List.length_map] at this; omega
   have HBl := Lib.hid (fun W => blt_any f.name W)
   have HFi := Lib.hid (fun W (g : Bel V W) => find_any no (some ⟨b, off, none⟩) n nc k fc F f.name (by omega) W (HF.out.on g))
   have HTw := Lib.hid (fun W (g : Bel wr W) => hasTwice_any po pk pc f.params hpk W (hps.on g))
   have hX2 : fixI (fun g => decide (g.name = f.name)) 0 F = findI F f.name := rfl
   rw [hX2] at HFi
   obtain ⟨hf1, hf2⟩ := find_lt F f.name
   have hjk' : (j : Int) < (k : Int) := by omega
   have HB2 := Lib.hid (Bel.alloc (Bel.refl wr) (.cells #[.string ⟨f.name.toArray⟩, .slice po pk pc, .int .i64 f.body] 61))
   have hBl := Lib.hid HB.out
   obtain ⟨y0, y1, y2⟩ : (wr.alloc (.cells #[.string ⟨f.name.toArray⟩, .slice po pk pc, .int .i64 f.body] 61)).cell? ⟨wr.heap.size, 0, none⟩ = some (.string ⟨f.name.toArray⟩) ∧ (wr.alloc (.cells #[.string ⟨f.name.toArray⟩, .slice po pk pc, .int .i64 f.body] 61)).cell? ⟨wr.heap.size, 1, none⟩ = some (.slice po pk pc) ∧ (wr.alloc (.cells #[.string ⟨f.name.toArray⟩, .slice po pk pc, .int .i64 f.body] 61)).cell? ⟨wr.heap.size, 2, none⟩ = some (.int .i64 f.body) := ⟨World.cell?_alloc_new .., World.cell?_alloc_new .., World.cell?_alloc_new ..⟩
   have p0 := HB2.out.cell' v0
   have p1 := HB2.out.cell' v1
   unfold okN at HBl
   generalize (if bltI f.name < 0 then (0 : Int) else bltI f.name) = r1 at *
   clear hcs hcc hv hf hX2 hps hfp
   by_cases hb : 0 ≤ bltI f.name
   ·rw [if_pos (Or.inl hb)] at hM
    rw [decide_eq_true hb] at HBl
    have HM2 := Lib.hid hM
    clear hM hb HFi HTw hf1 hf2
    go_wp2_with fail
    refine (HBl.out _).mono ?_
    rintro e w2 ⟨rfl, rfl⟩
    go_wp2_with fail
    go_ret2
    rw [← HM2.out]
    exact ⟨rfl, Bel.trans HBV.out (Bel.trans hBl.out HB2.out)⟩
   ·rw [decide_eq_false hb] at HBl
    by_cases hlt : findI F f.name < (j : Int)
    ·rw [if_pos (Or.inr (Or.inl hlt))] at hM
     have HM2 := Lib.hid hM
     clear hM HTw hf1 hf2
     generalize findI F f.name = z at *
     go_wp2_with fail
     refine (HBl.out _).mono ?_
     rintro e w2 ⟨rfl, rfl⟩
     go_wp2_with fail
     refine (HFi.out _ (Bel.trans hBl.out HB2.out)).mono ?_
     rintro e w3 ⟨rfl, g⟩
     have e2 := g.cell' y2
     have G := Lib.hid g
     clear g
     go_wp2_with fail
     go_ret2
     rw [← HM2.out]
     exact ⟨rfl, Bel.trans HBV.out (Bel.trans hBl.out (Bel.trans HB2.out G.out))⟩
    ·cases ht : twiceB f.params with
     | true =>
      rw [if_pos (Or.inr (Or.inr ht))] at hM
      rw [ht] at HTw
      have HM2 := Lib.hid hM
      clear hM hf1 hf2 ht
      generalize findI F f.name = z at *
      go_wp2_with fail
      refine (HBl.out _).mono ?_
      rintro e w2 ⟨rfl, rfl⟩
      go_wp2_with fail
      refine (HFi.out _ (Bel.trans hBl.out HB2.out)).mono ?_
      rintro e w3 ⟨rfl, g⟩
      have e1 := g.cell' y1
      have e2 := g.cell' y2
      have HB3 := Lib.hid (Bel.trans HB2.out g)
      clear g
      go_wp2_with fail
      refine (HTw.out _ HB3.out).mono ?_
      rintro e w4 ⟨rfl, g⟩
      have f2 := g.cell' e2
      have HB4 := Lib.hid (Bel.trans HB3.out g)
      clear g
      go_wp2_with fail
      go_ret2
      rw [← HM2.out]
      exact ⟨rfl, Bel.trans HBV.out (Bel.trans hBl.out HB4.out)⟩
     | false =>
      rw [if_neg (by rw [ht]; rintro (h | h | h); exact hb h; exact hlt h; cases h)] at hM
      rw [ht] at HTw
      have HM2 := Lib.hid hM
      clear hM hf1 hf2 ht
      generalize findI F f.name = z at *
      go_wp2_with fail
      refine (HBl.out _).mono ?_
      rintro e w2 ⟨rfl, rfl⟩
      go_wp2_with fail
      refine (HFi.out _ (Bel.trans hBl.out HB2.out)).mono ?_
      rintro e w3 ⟨rfl, g⟩
      have e1 := g.cell' y1
      have HB3 := Lib.hid (Bel.trans HB2.out g)
      clear g
      go_wp2_with fail
      refine (HTw.out _ HB3.out).mono ?_
      rintro e w4 ⟨rfl, g⟩
      have HB4 := Lib.hid (Bel.trans HB3.out g)
      clear g
      go_wp2_with fail
      go_round
      case rel => exact ⟨j + 1, by go_num, by omega, HM2, Lib.hid (Bel.trans hBl.out HB4.out)⟩
      case measure => simp [intOf]; omega
  ·have hz : Hid (X = none) := Lib.hid (by have := HM.out; rw [List.drop_eq_nil_of_le (by rw [HFk.out]; exact hjk), dupF] at this; exact this.symm)
   obtain rfl : j = k := by omega
   go_wp2_with fail
   go_ret2
   rw [hz.out]
   exact ⟨rfl, Bel.trans HBV.out HB.out⟩
set_option maxRecDepth 100000 in
set_option maxHeartbeats 4000000 in
theorem checkMain_any (no fo : Option Addr) (n nc k fc : Nat) (F : List Fw) (hk : k ≤ 100000) (w : World) (hF : FArg w fo k F) :
  Calls Tryz.prog 99 #[.agg #[.slice no n nc, .slice fo k fc]] w fun e w' => e = .returned (atE (mainE F)) ∧ Bel w w' := by
 obtain ⟨V, hV⟩ : ∃ V, w.alloc (.cells #[.slice no n nc, .slice fo k fc] 25) = V := ⟨_, rfl⟩
 have BV : Bel w V := by rw [← hV]; exact Bel.alloc (Bel.refl w) _
 obtain ⟨v0, v1⟩ : V.cell? ⟨w.heap.size, 0, none⟩ = some (.slice no n nc) ∧ V.cell? ⟨w.heap.size, 1, none⟩ = some (.slice fo k fc) := by
  rw [← hV]
  exact ⟨World.cell?_alloc_new .., World.cell?_alloc_new ..⟩
 have HBV := Lib.hid BV
 have HV := Lib.hid hV
 have HFi := Lib.hid (find_any no fo n nc k fc F mainT (by omega) V (hF.on BV))
 have hX2 : fixI (fun g => decide (g.name = mainT)) 0 F = findI F mainT := rfl
 rw [hX2] at HFi
 obtain ⟨h1, h2⟩ := find_lt F mainT
 have hFk := hF.1
 unfold mainE
 by_cases h0 : findI F mainT < 0
 ·rw [if_pos h0]
  have hm : findI F mainT = -1 := by omega
  rw [hm] at HFi
  unfold mainT at HFi
  clear h0 h1 h2 hm hX2 hF BV hV
  go_enter Tryz.func99, Tryz.ntmps99
  go_wp2_with fail
  rw [HV.out]
  refine HFi.out.mono ?_
  rintro e w2 ⟨rfl, g⟩
  go_wp2_with fail
  go_ret2
  exact ⟨rfl, Bel.trans HBV.out g⟩
 ·rw [if_neg h0]
  obtain ⟨q, hq⟩ : ∃ q : Nat, findI F mainT = (q : Int) := ⟨(findI F mainT).toNat, by omega⟩
  have hql : q < F.length := by omega
  rw [hq, Int.toNat_natCast, List.getElem?_eq_getElem hql]
  simp only
  rw [hq] at HFi
  unfold mainT at HFi
  obtain ⟨b, off, rfl, hcs⟩ := hF.2 (by omega)
  obtain ⟨⟨vs, po, pk, pc, vj⟩, hv, hcc⟩ := hcs q hql
  have d1 : V.cell? ⟨b, off + q * 3 + 1, none⟩ = some (.slice po pk pc) := BV.cell' (by simpa using hcc 1 _ rfl)
  have d2 : V.cell? ⟨b, off + q * 3 + 2, none⟩ = some (.int .i64 F[q].body) := BV.cell' (by have := hcc 2 _ rfl; rw [hv.j] at this; simpa using this)
  have hpk : F[q].params.length = pk := by have := hv.ps.1; simpa using this
  have hqk : (q : Int) < (k : Int) := by omega
  have hq0 : (0 : Int) ≤ (q : Int) := by omega
  have hnn : ¬ (q : Int) < 0 := by omega
  rw [hpk]
  generalize F[q].body = fb at *
  clear hcs hcc hv hpk hF BV h0 h1 h2 hX2 hV
  by_cases h1 : pk = 1
  ·rw [if_pos h1]
   subst h1
   go_enter Tryz.func99, Tryz.ntmps99
   go_wp2_with fail
   rw [HV.out]
   refine HFi.out.mono ?_
   rintro e w2 ⟨rfl, g⟩
   have e1 := g.cell' v1
   have e2 := g.cell' d1
   have G := Lib.hid (Bel.trans HBV.out g)
   clear g v0 v1 d1 d2
   go_wp2_with fail
   go_ret2
   exact ⟨rfl, G.out⟩
  ·rw [if_neg h1]
   have h1b : ((pk : Int) == 1) = false := by simp; omega
   have h1c : ((pk : Int) != 1) = true := by simp; omega
   go_enter Tryz.func99, Tryz.ntmps99
   go_wp2_with fail
   rw [HV.out]
   refine HFi.out.mono ?_
   rintro e w2 ⟨rfl, g⟩
   have e1 := g.cell' v1
   have e2 := g.cell' d1
   have e3 := g.cell' d2
   have G := Lib.hid (Bel.trans HBV.out g)
   clear g v0 v1 d1 d2
   go_wp2_with fail
   go_ret2
   exact ⟨rfl, G.out⟩
end Syn
end Go.Proofs.YtcapkeaedpabjaaGreatDoor

/-
 Layer 9: a node's visit, whatever its kind.
-/
namespace Go.Proofs.YtcapkeaedpabjaaGreatDoor
open Go.RowKit Go.ChangeShapes Go.WideShapes Go.Maps
namespace Syn
theorem visit_any (sb mb : Nat) (no fo : Option Addr) (n nc k fc : Nat) (L : List Nd) (F : List Fw) (x : Nd) (v : Nv) (S : Sc) (w : World) (hv : NFit w v x) (hS : ScAt w sb mb S) (hs : x.s.length ≤ 140737488355328) (hc : S.cnt ≤ 100000) (hk2 : k ≤ 4611686018427387904) (hwF : ∀ x ∈ F, x.params.length ≤ 4611686018427387904) (hF : FArg w fo k F)
  (hj : v.jn ≤ 100000) (hkd : ∀ z ∈ x.kids, 0 ≤ z ∧ z < (n : Int)) (hsL : ∀ x ∈ L, x.s.length ≤ 140737488355328) (hA : NArg w no n L) (hf1 : 0 < n → ∀ o, no = some o → o.block ≠ sb ∧ o.block ≠ mb) (hf2 : 0 < v.jn → ∀ o, v.jo = some o → o.block ≠ sb ∧ o.block ≠ mb) :
  Calls Tryz.prog 156 #[.agg #[.slice no n nc, .slice fo k fc], .pointer (some ⟨sb, 0, none⟩), nodV v] w (VisPost L F S x sb mb w) := by
 by_cases h5 : x.k = 5
 ·exact visit_5 sb mb no fo n nc k fc L F x v S w hv hS hs h5
 by_cases h14 : x.k = 14
 ·exact visit_14 sb mb no fo n nc k fc L F x v S w hv hS hs h14
 by_cases h13 : x.k = 13
 ·exact visit_13 sb mb no fo n nc k fc L F x v S w hv hS hs hc h13
 by_cases h11 : x.k = 11
 ·exact visit_11 sb mb no fo n nc k fc L F x v S w hv hS hk2 hwF hF h11
 by_cases h12 : x.k = 12
 ·exact visit_12 sb mb no fo n nc k fc L F x v S w hv hS h12
 by_cases h19 : x.k = 19
 ·exact visit_19 sb mb no fo n nc k fc L F x v S w hv hS hj hkd hsL hc hA hf1 hf2 h19
 exact visit_no sb mb no fo n nc k fc L F x v S w hv hS h5 h14 h13 h11 h12 h19
theorem leave_cnt (L : List Nd) : ∀ (kids : List Int) (s : Sc), (leaveP L s kids).cnt = s.cnt
 | [], _ => rfl
 | z :: r, s => by
  rw [leave_one, leave_cnt L r]
  split
  ·split <;> rfl
  ·rfl
/-- A visit counts at most one variable. -/
theorem vis_cnt (L : List Nd) (W : Nd → Int) (s : Sc) (x : Nd) : (visP L W s x).1.cnt ≤ s.cnt + 1 := by
 unfold visP
 split
 ·split <;> exact Nat.le_succ _
 ·split
  ·split
   ·exact Nat.le_succ _
   ·split
    ·exact Nat.le_succ _
    ·exact Nat.le_refl _
  ·split
   ·exact Nat.le_succ _
   ·split
    ·exact (leave_cnt L x.kids s).symm ▸ Nat.le_succ _
    ·exact Nat.le_succ _
end Syn
end Go.Proofs.YtcapkeaedpabjaaGreatDoor
