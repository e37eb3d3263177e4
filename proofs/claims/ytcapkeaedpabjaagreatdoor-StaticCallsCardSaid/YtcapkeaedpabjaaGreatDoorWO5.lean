/-
  Layer 8, texts merged: SvK. For every argument within the bounds that each theorem names.
-/
import Derived.Test.YtcapkeaedpabjaaGreatDoorWO4
import Derived.Test.YtcapkeaedpabjaaGreatDoorWL5
import Derived.Test.YtcapkeaedpabjaaGreatDoorWG3
import Derived.Test.YtcapkeaedpabjaaGreatDoorWK3
import Derived.Test.YtcapkeaedpabjaaGreatDoorWL2

/-
 Layer 9, the reference: Check.
-/
namespace Go.Proofs.YtcapkeaedpabjaaGreatDoor
open Go.RowKit Go.ChangeShapes Go.WideShapes
namespace Syn
/-- What the reference's Check says. -/
def RcPost (w : World) (L : List Nd) (F : List Fw) (e : Ending) (w' : World) : Prop := e = .returned (.tuple #[.int .i64 (resG L F).pos, .int .i64 (resG L F).er]) ∧ Bel w w'
/-- The part of Check behind the functions' names. -/
theorem res_main {L : List Nd} {F : List Fw} (hc : chkE L F = 0) (hd : dupF F 0 F = none) : resG L F = match mainE F with | some q => ⟨[], [], q.1, q.2⟩ | none => runF L (wantI F) F 0 [] [] := by
 unfold resG
 rw [if_neg (by simpa using hc), hd]
 rfl
theorem res_dup {L : List Nd} {F : List Fw} {b : Int} (hc : chkE L F = 0) (hd : dupF F 0 F = some b) : resG L F = ⟨[], [], b, 6⟩ := by
 unfold resG
 rw [if_neg (by simpa using hc), hd]
set_option maxRecDepth 100000 in
set_option maxHeartbeats 16000000 in
theorem rscheck_any (no fo : Option Addr) (n nc k fc : Nat) (L : List Nd) (F : List Fw) (hf : Fit9 n k L F) (hr : Rch L F) (w : World) (hA : NArg w no n L) (hF : FArg w fo k F) :
  Calls Tryz.prog 19 #[.agg #[.slice no n nc, .slice fo k fc]] w (RcPost w L F) := by
 obtain ⟨V, hV⟩ : ∃ V, w.alloc (.cells #[.slice no n nc, .slice fo k fc] 25) = V := ⟨_, rfl⟩
 have BV : Bel w V := by rw [← hV]; exact Bel.alloc (Bel.refl _) _
 obtain ⟨v0, v1⟩ : V.cell? ⟨w.heap.size, 0, none⟩ = some (.slice no n nc) ∧ V.cell? ⟨w.heap.size, 1, none⟩ = some (.slice fo k fc) := by
  rw [← hV]
  exact ⟨World.cell?_alloc_new .., World.cell?_alloc_new ..⟩
 have hk := hf.hk
 have hn := hf.hn
 have hps : ∀ x ∈ F, x.params.length ≤ 1000 := fun x hx => (hf.sf x hx).1
 have HBV := Lib.hid BV
 have HVe := Lib.hid hV
 have HV0 := Lib.hid v0
 have HV1 := Lib.hid v1
 have HFk := Lib.hid hF.1
 have HP := Lib.hid hps
 have hFV := hF.on BV
 have hAV := hA.on BV
 have HF := Lib.hid hFV
 have hC := rcheck_any no fo n nc k fc L F (by omega) (by omega) V hAV hFV hr.wf hr.fn hr.sn hr.sf
 rw [chkG_eq] at hC
 have H1 := Lib.hid hC
 have HAl := Lib.hid (fun (hc : chkE L F = 0) W (B : Bel V W) => rall_any no fo n nc k fc L F hc hps (fun x hx => (hf.sn x hx).2) W (hAV.on B) (hFV.on B))
 clear hC
 by_cases hc : chkE L F = 0
 rotate_left
 ·have hres : resG L F = ⟨[], [], -1, chkE L F⟩ := by unfold resG; rw [if_pos hc]
  unfold RcPost
  rw [hres]
  dsimp only
  generalize chkE L F = ce at *
  have h1 : (ce == 0) = false := by simpa using hc
  have h2 : (ce != 0) = true := by simpa using hc
  clear hA hF hf hr hps hc hV BV v0 v1 hres HAl hAV hFV HF HP
  go_enter Tryz.func19, Tryz.ntmps19
  go_wp2_with fail
  rw [HVe.out]
  refine H1.out.mono ?_
  rintro e w2 ⟨rfl, g⟩
  have G := Lib.hid g
  clear g
  go_wp2_with fail
  go_ret2
  exact ⟨rfl, Bel.trans HBV.out G.out⟩
 obtain ⟨hsn, hsk⟩ := all_small hc
 have HAl2 := Lib.hid (HAl.out hc)
 have Hc := Lib.hid hc
 rw [hc] at H1
 obtain ⟨X, hX⟩ : ∃ X, dupF F 0 F = X := ⟨_, rfl⟩
 have HX := Lib.hid (show dupF F 0 (F.drop 0) = X from hX)
 have HXe := Lib.hid hX
 clear hA hF hf hr hps hc hV BV v0 hX HAl hAV hFV
 go_enter Tryz.func19, Tryz.ntmps19
 go_wp2_with fail
 rw [HVe.out]
 refine H1.out.mono ?_
 rintro e w1 ⟨rfl, g⟩
 have HB1 := Lib.hid g
 have v1' := g.cell' HV1.out
 clear g
 go_wp2_with fail
 go_loopw [5] (fun iv wr => ∃ j : Nat, iv = .int .i64 (j : Int) ∧ j ≤ k ∧ Hid (dupF F j (F.drop j) = X) ∧ Hid (Bel V wr)) (fun iv _ => k - (intOf iv).toNat)
 case atStart => exact ⟨0, rfl, Nat.zero_le _, HX, HB1⟩
 case round =>
  obtain ⟨j, rfl, hj, HM, HB⟩ := hrel
  rename World => wr
  have v0 := HB.out.cell' HV0.out
  have v1 := HB.out.cell' HV1.out
  rcases Nat.lt_or_ge j k with hjk | hjk
  ·have hjl : j < F.length := by rw [HFk.out]; exact hjk
   have hM := HM.out
   rw [List.drop_eq_getElem_cons hjl, dupF] at hM
   obtain ⟨b, off, rfl, hcs⟩ := HF.out.2 (by omega)
   obtain ⟨⟨vs, po, pk, pc, vj⟩, hv, hcc⟩ := hcs j hjl
   obtain ⟨f, hf⟩ : ∃ f, F[j] = f := ⟨_, rfl⟩
   have hfp : f.params.length ≤ 1000 := by rw [← hf]; exact HP.out _ (List.getElem_mem hjl)
   rw [hf] at hM hv
   have c0 : V.cell? ⟨b, off + j * 3, none⟩ = some (.string ⟨f.name.toArray⟩) := by have := hcc 0 _ rfl; rw [hv.s] at this; simpa using this
   have c1 : V.cell? ⟨b, off + j * 3 + 1, none⟩ = some (.slice po pk pc) := by simpa using hcc 1 _ rfl
   have c2 : V.cell? ⟨b, off + j * 3 + 2, none⟩ = some (.int .i64 f.body) := by have := hcc 2 _ rfl; rw [hv.j] at this; simpa using this
   have HC := Lib.hid (show ∀ W, Bel V W → W.cell? ⟨w.heap.size, 1, none⟩ = some (.slice (some ⟨b, off, none⟩) k fc) ∧ W.cell? ⟨w.heap.size, 0, none⟩ = some (.slice no n nc) ∧ W.cell? ⟨b, off + j * 3, none⟩ = some (.string ⟨f.name.toArray⟩) ∧ W.cell? ⟨b, off + j * 3 + 1, none⟩ = some (.slice po pk pc) ∧ W.cell? ⟨b, off + j * 3 + 2, none⟩ = some (.int .i64 f.body) ∧ Bel V W from fun W g => ⟨g.cell' HV1.out, g.cell' HV0.out, g.cell' c0, g.cell' c1, g.cell' c2, g⟩)
   have hps := hv.ps
   dsimp only at hps
   obtain ⟨hpk0, -⟩ := karg_at hps
   have HBl := Lib.hid (fun W => rblt_any f.name W)
   have HFi := Lib.hid (show ∀ W, (W.cell? ⟨w.heap.size, 1, none⟩ = some (.slice (some ⟨b, off, none⟩) k fc) ∧ W.cell? ⟨w.heap.size, 0, none⟩ = some (.slice no n nc) ∧ W.cell? ⟨b, off + j * 3, none⟩ = some (.string ⟨f.name.toArray⟩) ∧ W.cell? ⟨b, off + j * 3 + 1, none⟩ = some (.slice po pk pc) ∧ W.cell? ⟨b, off + j * 3 + 2, none⟩ = some (.int .i64 f.body) ∧ Bel V W) → Calls Tryz.prog 53 #[.agg #[.slice no n nc, .slice (some ⟨b, off, none⟩) k fc], .string ⟨f.name.toArray⟩] W fun e w' => e = .returned (.int .i64 (findI F f.name)) ∧ w'.cell? ⟨w.heap.size, 1, none⟩ = some (.slice (some ⟨b, off, none⟩) k fc) ∧ w'.cell? ⟨w.heap.size, 0, none⟩ = some (.slice no n nc) ∧ w'.cell? ⟨b, off + j * 3, none⟩ = some (.string ⟨f.name.toArray⟩) ∧ w'.cell? ⟨b, off + j * 3 + 1, none⟩ = some (.slice po pk pc) ∧ w'.cell? ⟨b, off + j * 3 + 2, none⟩ = some (.int .i64 f.body) ∧ Bel V w' from fun W hS => (rfun_any no (some ⟨b, off, none⟩) n nc k fc F f.name (by omega) W (HF.out.on hS.2.2.2.2.2)).mono fun e w' q => ⟨q.1, HC.out w' (Bel.trans hS.2.2.2.2.2 q.2)⟩)
   have HTw := Lib.hid (show ∀ W, (W.cell? ⟨w.heap.size, 1, none⟩ = some (.slice (some ⟨b, off, none⟩) k fc) ∧ W.cell? ⟨w.heap.size, 0, none⟩ = some (.slice no n nc) ∧ W.cell? ⟨b, off + j * 3, none⟩ = some (.string ⟨f.name.toArray⟩) ∧ W.cell? ⟨b, off + j * 3 + 1, none⟩ = some (.slice po pk pc) ∧ W.cell? ⟨b, off + j * 3 + 2, none⟩ = some (.int .i64 f.body) ∧ Bel V W) → Calls Tryz.prog 54 #[.slice po pk pc] W fun e w' => e = .returned (.bool (twiceB f.params)) ∧ w'.cell? ⟨w.heap.size, 1, none⟩ = some (.slice (some ⟨b, off, none⟩) k fc) ∧ w'.cell? ⟨w.heap.size, 0, none⟩ = some (.slice no n nc) ∧ w'.cell? ⟨b, off + j * 3, none⟩ = some (.string ⟨f.name.toArray⟩) ∧ w'.cell? ⟨b, off + j * 3 + 1, none⟩ = some (.slice po pk pc) ∧ w'.cell? ⟨b, off + j * 3 + 2, none⟩ = some (.int .i64 f.body) ∧ Bel V w' from fun W hS => (rrep_any po pk pc f.params (by omega) W (hps.on hS.2.2.2.2.2)).mono fun e w' q => ⟨q.1, HC.out w' (Bel.trans hS.2.2.2.2.2 q.2)⟩)
   obtain ⟨hf1, hf2⟩ := find_lt F f.name
   have hjk' : (j : Int) < (k : Int) := by omega
   have hj0 : (0 : Int) ≤ (j : Int) := by omega
   obtain ⟨d1, d0, e0, e1, e2, -⟩ := HC.out wr HB.out
   unfold okN at HBl
   generalize (if bltI f.name < 0 then (0 : Int) else bltI f.name) = r1 at *
   clear hcs hcc hv hf hps hfp c0 c1 c2 v0 v1 hpk0
   by_cases hb : 0 ≤ bltI f.name
   ·rw [if_pos (Or.inl hb)] at hM
    rw [decide_eq_true hb] at HBl
    clear hb
    have HM2 := Lib.hid hM
    clear hM hf1 hf2
    go_wp2_with fail
    refine (HBl.out _).mono ?_
    rintro e w2 ⟨rfl, rfl⟩
    go_wp2_with fail
    refine wp_region_held_drew (S := fun W => W.cell? ⟨w.heap.size, 1, none⟩ = some (.slice (some ⟨b, off, none⟩) k fc) ∧ W.cell? ⟨w.heap.size, 0, none⟩ = some (.slice no n nc) ∧ W.cell? ⟨b, off + j * 3, none⟩ = some (.string ⟨f.name.toArray⟩) ∧ W.cell? ⟨b, off + j * 3 + 1, none⟩ = some (.slice po pk pc) ∧ W.cell? ⟨b, off + j * 3 + 2, none⟩ = some (.int .i64 f.body) ∧ Bel V W) (by kernel_rfl) ⟨d1, d0, e0, e1, e2, Below.drew HB.out⟩ (fun hH => ?_)
    refine take_yes (i := 0) (d := 32) (v := ?_) rfl rfl (by kernel_rfl) (by kernel_rfl) (by kernel_rfl) (fun _ _ _ h => h) (by rfl) ?_ (by assumption) ?_
    rotate_left 1
    ·intro w hSw
     obtain ⟨z0, z1, z2, z3, z4, z5⟩ := hSw
     go_simp
     with_reducible rfl
    try simp only [Act.put, List.setIfInBounds_toArray, List.set_cons_zero, List.set_cons_succ]
    refine take_yes (i := 1) (d := 33) (v := ?_) rfl rfl (by kernel_rfl) (by kernel_rfl) (by kernel_rfl) (fun _ _ _ h => h) (by rfl) ?_ (by assumption) ?_
    rotate_left 1
    ·intro w hSw
     obtain ⟨z0, z1, z2, z3, z4, z5⟩ := hSw
     go_simp
     with_reducible rfl
    try simp only [Act.put, List.setIfInBounds_toArray, List.set_cons_zero, List.set_cons_succ]
    refine take_not (i := 2) (d := 34) rfl rfl (by kernel_rfl) (by kernel_rfl) (by kernel_rfl) (fun _ _ _ h => h) (by rfl) (by assumption) ?_
    try simp only [Act.put, List.setIfInBounds_toArray, List.set_cons_zero, List.set_cons_succ]
    refine take_not (i := 3) (d := 35) rfl rfl (by kernel_rfl) (by kernel_rfl) (by kernel_rfl) (fun _ _ _ h => h) (by rfl) (by assumption) ?_
    try simp only [Act.put, List.setIfInBounds_toArray, List.set_cons_zero, List.set_cons_succ]
    refine take_not (i := 4) (d := 36) rfl rfl (by kernel_rfl) (by kernel_rfl) (by kernel_rfl) (fun _ _ _ h => h) (by rfl) (by assumption) ?_
    try simp only [Act.put, List.setIfInBounds_toArray, List.set_cons_zero, List.set_cons_succ]
    refine take_not (i := 5) (d := 37) rfl rfl (by kernel_rfl) (by kernel_rfl) (by kernel_rfl) (fun _ _ _ h => h) (by rfl) (by assumption) ?_
    try simp only [Act.put, List.setIfInBounds_toArray, List.set_cons_zero, List.set_cons_succ]
    refine take_not (i := 6) (d := 38) rfl rfl (by kernel_rfl) (by kernel_rfl) (by kernel_rfl) (fun _ _ _ h => h) (by rfl) (by assumption) ?_
    try simp only [Act.put, List.setIfInBounds_toArray, List.set_cons_zero, List.set_cons_succ]
    refine take_not (i := 7) (d := 39) rfl rfl (by kernel_rfl) (by kernel_rfl) (by kernel_rfl) (fun _ _ _ h => h) (by rfl) (by assumption) ?_
    try simp only [Act.put, List.setIfInBounds_toArray, List.set_cons_zero, List.set_cons_succ]
    refine take_not (i := 8) (d := 40) rfl rfl (by kernel_rfl) (by kernel_rfl) (by kernel_rfl) (fun _ _ _ h => h) (by rfl) (by assumption) ?_
    try simp only [Act.put, List.setIfInBounds_toArray, List.set_cons_zero, List.set_cons_succ]
    refine take_not (i := 9) (d := 41) rfl rfl (by kernel_rfl) (by kernel_rfl) (by kernel_rfl) (fun _ _ _ h => h) (by rfl) (by assumption) ?_
    try simp only [Act.put, List.setIfInBounds_toArray, List.set_cons_zero, List.set_cons_succ]
    refine take_not (i := 10) (d := 42) rfl rfl (by kernel_rfl) (by kernel_rfl) (by kernel_rfl) (fun _ _ _ h => h) (by rfl) (by assumption) ?_
    try simp only [Act.put, List.setIfInBounds_toArray, List.set_cons_zero, List.set_cons_succ]
    refine take_not (i := 11) (d := 43) rfl rfl (by kernel_rfl) (by kernel_rfl) (by kernel_rfl) (fun _ _ _ h => h) (by rfl) (by assumption) ?_
    try simp only [Act.put, List.setIfInBounds_toArray, List.set_cons_zero, List.set_cons_succ]
    refine take_yes (i := 12) (d := 44) (v := ?_) rfl rfl (by kernel_rfl) (by kernel_rfl) (by kernel_rfl) (fun _ _ _ h => h) (by rfl) ?_ (by assumption) ?_
    rotate_left 1
    ·intro w hSw
     obtain ⟨z0, z1, z2, z3, z4, z5⟩ := hSw
     go_simp
     with_reducible rfl
    try simp only [Act.put, List.setIfInBounds_toArray, List.set_cons_zero, List.set_cons_succ]
    refine take_yes (i := 13) (d := 45) (v := ?_) rfl rfl (by kernel_rfl) (by kernel_rfl) (by kernel_rfl) (fun _ _ _ h => h) (by rfl) ?_ (by assumption) ?_
    rotate_left 1
    ·intro w hSw
     obtain ⟨z0, z1, z2, z3, z4, z5⟩ := hSw
     go_simp
     with_reducible rfl
    try simp only [Act.put, List.setIfInBounds_toArray, List.set_cons_zero, List.set_cons_succ]
    refine take_not (i := 14) (d := 46) rfl rfl (by kernel_rfl) (by kernel_rfl) (by kernel_rfl) (fun _ _ _ h => h) (by rfl) (by assumption) ?_
    try simp only [Act.put, List.setIfInBounds_toArray, List.set_cons_zero, List.set_cons_succ]
    refine take_not (i := 15) (d := 47) rfl rfl (by kernel_rfl) (by kernel_rfl) (by kernel_rfl) (fun _ _ _ h => h) (by rfl) (by assumption) ?_
    try simp only [Act.put, List.setIfInBounds_toArray, List.set_cons_zero, List.set_cons_succ]
    refine take_not (i := 16) (d := 48) rfl rfl (by kernel_rfl) (by kernel_rfl) (by kernel_rfl) (fun _ _ _ h => h) (by rfl) (by assumption) ?_
    try simp only [Act.put, List.setIfInBounds_toArray, List.set_cons_zero, List.set_cons_succ]
    refine take_not (i := 17) (d := 49) rfl rfl (by kernel_rfl) (by kernel_rfl) (by kernel_rfl) (fun _ _ _ h => h) (by rfl) (by assumption) ?_
    try simp only [Act.put, List.setIfInBounds_toArray, List.set_cons_zero, List.set_cons_succ]
    refine take_not (i := 18) (d := 50) rfl rfl (by kernel_rfl) (by kernel_rfl) (by kernel_rfl) (fun _ _ _ h => h) (by rfl) (by assumption) ?_
    try simp only [Act.put, List.setIfInBounds_toArray, List.set_cons_zero, List.set_cons_succ]
    refine take_not (i := 19) (d := 51) rfl rfl (by kernel_rfl) (by kernel_rfl) (by kernel_rfl) (fun _ _ _ h => h) (by rfl) (by assumption) ?_
    try simp only [Act.put, List.setIfInBounds_toArray, List.set_cons_zero, List.set_cons_succ]
    refine take_not (i := 20) (d := 52) rfl rfl (by kernel_rfl) (by kernel_rfl) (by kernel_rfl) (fun _ _ _ h => h) (by rfl) (by assumption) ?_
    try simp only [Act.put, List.setIfInBounds_toArray, List.set_cons_zero, List.set_cons_succ]
    refine take_yes (i := 21) (d := 53) (v := ?_) rfl rfl (by kernel_rfl) (by kernel_rfl) (by kernel_rfl) (fun _ _ _ h => h) (by rfl) ?_ (by assumption) ?_
    rotate_left 1
    ·intro w hSw
     obtain ⟨z0, z1, z2, z3, z4, z5⟩ := hSw
     go_simp
     with_reducible rfl
    try simp only [Act.put, List.setIfInBounds_toArray, List.set_cons_zero, List.set_cons_succ]
    refine wpAnyH_done (by kernel_rfl) ?_ _
    obtain ⟨d1, d0, e0, e1, e2, G⟩ := hH
    have HG := Lib.hid G
    clear G
    go_wp2_with fail
    go_ret2
    unfold RcPost
    rw [res_dup Hc.out (by rw [HXe.out, HM2.out])]
    exact ⟨rfl, Bel.trans HBV.out HG.out⟩
   ·rw [decide_eq_false hb] at HBl
    by_cases hlt : findI F f.name < (j : Int)
    ·rw [if_pos (Or.inr (Or.inl hlt))] at hM
     generalize findI F f.name = z at *
     have HM2 := Lib.hid hM
     clear hM hf1 hf2
     go_wp2_with fail
     refine (HBl.out _).mono ?_
     rintro e w2 ⟨rfl, rfl⟩
     go_wp2_with fail
     refine wp_region_held_drew (S := fun W => W.cell? ⟨w.heap.size, 1, none⟩ = some (.slice (some ⟨b, off, none⟩) k fc) ∧ W.cell? ⟨w.heap.size, 0, none⟩ = some (.slice no n nc) ∧ W.cell? ⟨b, off + j * 3, none⟩ = some (.string ⟨f.name.toArray⟩) ∧ W.cell? ⟨b, off + j * 3 + 1, none⟩ = some (.slice po pk pc) ∧ W.cell? ⟨b, off + j * 3 + 2, none⟩ = some (.int .i64 f.body) ∧ Bel V W) (by kernel_rfl) ⟨d1, d0, e0, e1, e2, Below.drew HB.out⟩ (fun hH => ?_)
     refine take_yes (i := 0) (d := 32) (v := ?_) rfl rfl (by kernel_rfl) (by kernel_rfl) (by kernel_rfl) (fun _ _ _ h => h) (by rfl) ?_ (by assumption) ?_
     rotate_left 1
     ·intro w hSw
      obtain ⟨z0, z1, z2, z3, z4, z5⟩ := hSw
      go_simp
      with_reducible rfl
     try simp only [Act.put, List.setIfInBounds_toArray, List.set_cons_zero, List.set_cons_succ]
     refine take_yes (i := 1) (d := 33) (v := ?_) rfl rfl (by kernel_rfl) (by kernel_rfl) (by kernel_rfl) (fun _ _ _ h => h) (by rfl) ?_ (by assumption) ?_
     rotate_left 1
     ·intro w hSw
      obtain ⟨z0, z1, z2, z3, z4, z5⟩ := hSw
      go_simp
      with_reducible rfl
     try simp only [Act.put, List.setIfInBounds_toArray, List.set_cons_zero, List.set_cons_succ]
     refine take_yes (i := 2) (d := 34) (v := ?_) rfl rfl (by kernel_rfl) (by kernel_rfl) (by kernel_rfl) (fun _ _ _ h => h) (by rfl) ?_ (by assumption) ?_
     rotate_left 1
     ·intro w hSw
      obtain ⟨z0, z1, z2, z3, z4, z5⟩ := hSw
      go_simp
      with_reducible rfl
     try simp only [Act.put, List.setIfInBounds_toArray, List.set_cons_zero, List.set_cons_succ]
     refine take_yes (i := 3) (d := 35) (v := ?_) rfl rfl (by kernel_rfl) (by kernel_rfl) (by kernel_rfl) (fun _ _ _ h => h) (by rfl) ?_ (by assumption) ?_
     rotate_left 1
     ·intro w hSw
      obtain ⟨z0, z1, z2, z3, z4, z5⟩ := hSw
      go_simp
      with_reducible rfl
     try simp only [Act.put, List.setIfInBounds_toArray, List.set_cons_zero, List.set_cons_succ]
     refine take_yes (i := 4) (d := 36) (v := ?_) rfl rfl (by kernel_rfl) (by kernel_rfl) (by kernel_rfl) (fun _ _ _ h => h) (by rfl) ?_ (by assumption) ?_
     rotate_left 1
     ·intro w hSw
      obtain ⟨z0, z1, z2, z3, z4, z5⟩ := hSw
      go_simp
      with_reducible rfl
     try simp only [Act.put, List.setIfInBounds_toArray, List.set_cons_zero, List.set_cons_succ]
     refine take_yes (i := 5) (d := 37) (v := ?_) rfl rfl (by kernel_rfl) (by kernel_rfl) (by kernel_rfl) (fun _ _ _ h => h) (by rfl) ?_ (by assumption) ?_
     rotate_left 1
     ·intro w hSw
      obtain ⟨z0, z1, z2, z3, z4, z5⟩ := hSw
      go_simp
      with_reducible rfl
     try simp only [Act.put, List.setIfInBounds_toArray, List.set_cons_zero, List.set_cons_succ]
     refine take_yes (i := 6) (d := 38) (v := ?_) rfl rfl (by kernel_rfl) (by kernel_rfl) (by kernel_rfl) (fun _ _ _ h => h) (by rfl) ?_ (by assumption) ?_
     rotate_left 1
     ·intro w hSw
      obtain ⟨z0, z1, z2, z3, z4, z5⟩ := hSw
      go_simp
      with_reducible rfl
     try simp only [Act.put, List.setIfInBounds_toArray, List.set_cons_zero, List.set_cons_succ]
     refine take_yes (i := 7) (d := 39) (v := ?_) rfl rfl (by kernel_rfl) (by kernel_rfl) (by kernel_rfl) (fun _ _ _ h => h) (by rfl) ?_ (by assumption) ?_
     rotate_left 1
     ·intro w hSw
      obtain ⟨z0, z1, z2, z3, z4, z5⟩ := hSw
      go_simp
      with_reducible rfl
     try simp only [Act.put, List.setIfInBounds_toArray, List.set_cons_zero, List.set_cons_succ]
     refine take_yes (i := 8) (d := 40) (v := ?_) rfl rfl (by kernel_rfl) (by kernel_rfl) (by kernel_rfl) (fun _ _ _ h => h) (by rfl) ?_ (by assumption) ?_
     rotate_left 1
     ·intro w hSw
      obtain ⟨z0, z1, z2, z3, z4, z5⟩ := hSw
      go_simp
      with_reducible rfl
     try simp only [Act.put, List.setIfInBounds_toArray, List.set_cons_zero, List.set_cons_succ]
     refine take_yes (i := 10) (d := 42) (v := ?_) rfl rfl (by kernel_rfl) (by kernel_rfl) (by kernel_rfl) (fun _ _ _ h => h) (by rfl) ?_ (by assumption) ?_
     rotate_left 1
     ·intro w hSw
      obtain ⟨z0, z1, z2, z3, z4, z5⟩ := hSw
      go_simp
      with_reducible rfl
     try simp only [Act.put, List.setIfInBounds_toArray, List.set_cons_zero, List.set_cons_succ]
     refine wpAnyH_ready (rs := [9]) (by kernel_rfl) (by simp) ?_
     refine AllReadyH.cons rfl (fun K hK => ?_) AllReadyH.nil
     go_simp
     refine (HFi.out _ hH).mono ?_
     rintro e w8 ⟨rfl, hG⟩
     clear hH
     refine hK.out _ _ hG (fun hH => ?_)
     clear hK K hG
     try simp only [Act.put, List.setIfInBounds_toArray, List.set_cons_zero, List.set_cons_succ]
     refine take_yes (i := 11) (d := 43) (v := .bool true) rfl rfl (by kernel_rfl) (by kernel_rfl) (by kernel_rfl) (fun _ _ _ h => h) (by rfl) ?_ (by assumption) ?_
     ·intro w hSw
      obtain ⟨z0, z1, z2, z3, z4, z5⟩ := hSw
      go_simp
      try simp
      try omega
     try simp only [Act.put, List.setIfInBounds_toArray, List.set_cons_zero, List.set_cons_succ]
     refine take_yes (i := 12) (d := 44) (v := ?_) rfl rfl (by kernel_rfl) (by kernel_rfl) (by kernel_rfl) (fun _ _ _ h => h) (by rfl) ?_ (by assumption) ?_
     rotate_left 1
     ·intro w hSw
      obtain ⟨z0, z1, z2, z3, z4, z5⟩ := hSw
      go_simp
      with_reducible rfl
     try simp only [Act.put, List.setIfInBounds_toArray, List.set_cons_zero, List.set_cons_succ]
     refine take_yes (i := 13) (d := 45) (v := ?_) rfl rfl (by kernel_rfl) (by kernel_rfl) (by kernel_rfl) (fun _ _ _ h => h) (by rfl) ?_ (by assumption) ?_
     rotate_left 1
     ·intro w hSw
      obtain ⟨z0, z1, z2, z3, z4, z5⟩ := hSw
      go_simp
      with_reducible rfl
     try simp only [Act.put, List.setIfInBounds_toArray, List.set_cons_zero, List.set_cons_succ]
     refine take_not (i := 14) (d := 46) rfl rfl (by kernel_rfl) (by kernel_rfl) (by kernel_rfl) (fun _ _ _ h => h) (by rfl) (by assumption) ?_
     try simp only [Act.put, List.setIfInBounds_toArray, List.set_cons_zero, List.set_cons_succ]
     refine take_not (i := 15) (d := 47) rfl rfl (by kernel_rfl) (by kernel_rfl) (by kernel_rfl) (fun _ _ _ h => h) (by rfl) (by assumption) ?_
     try simp only [Act.put, List.setIfInBounds_toArray, List.set_cons_zero, List.set_cons_succ]
     refine take_not (i := 16) (d := 48) rfl rfl (by kernel_rfl) (by kernel_rfl) (by kernel_rfl) (fun _ _ _ h => h) (by rfl) (by assumption) ?_
     try simp only [Act.put, List.setIfInBounds_toArray, List.set_cons_zero, List.set_cons_succ]
     refine take_not (i := 17) (d := 49) rfl rfl (by kernel_rfl) (by kernel_rfl) (by kernel_rfl) (fun _ _ _ h => h) (by rfl) (by assumption) ?_
     try simp only [Act.put, List.setIfInBounds_toArray, List.set_cons_zero, List.set_cons_succ]
     refine take_not (i := 18) (d := 50) rfl rfl (by kernel_rfl) (by kernel_rfl) (by kernel_rfl) (fun _ _ _ h => h) (by rfl) (by assumption) ?_
     try simp only [Act.put, List.setIfInBounds_toArray, List.set_cons_zero, List.set_cons_succ]
     refine take_not (i := 19) (d := 51) rfl rfl (by kernel_rfl) (by kernel_rfl) (by kernel_rfl) (fun _ _ _ h => h) (by rfl) (by assumption) ?_
     try simp only [Act.put, List.setIfInBounds_toArray, List.set_cons_zero, List.set_cons_succ]
     refine take_not (i := 20) (d := 52) rfl rfl (by kernel_rfl) (by kernel_rfl) (by kernel_rfl) (fun _ _ _ h => h) (by rfl) (by assumption) ?_
     try simp only [Act.put, List.setIfInBounds_toArray, List.set_cons_zero, List.set_cons_succ]
     refine take_yes (i := 21) (d := 53) (v := ?_) rfl rfl (by kernel_rfl) (by kernel_rfl) (by kernel_rfl) (fun _ _ _ h => h) (by rfl) ?_ (by assumption) ?_
     rotate_left 1
     ·intro w hSw
      obtain ⟨z0, z1, z2, z3, z4, z5⟩ := hSw
      go_simp
      with_reducible rfl
     try simp only [Act.put, List.setIfInBounds_toArray, List.set_cons_zero, List.set_cons_succ]
     refine wpAnyH_done (by kernel_rfl) ?_ _
     obtain ⟨d1, d0, e0, e1, e2, G⟩ := hH
     have HG := Lib.hid G
     clear G
     go_wp2_with fail
     go_ret2
     unfold RcPost
     rw [res_dup Hc.out (by rw [HXe.out, HM2.out])]
     exact ⟨rfl, Bel.trans HBV.out HG.out⟩
    ·cases ht : twiceB f.params with
     | true =>
      rw [if_pos (Or.inr (Or.inr ht))] at hM
      rw [ht] at HTw
      generalize findI F f.name = z at *
      clear ht
      have HM2 := Lib.hid hM
      clear hM hf1 hf2
      go_wp2_with fail
      refine (HBl.out _).mono ?_
      rintro e w2 ⟨rfl, rfl⟩
      go_wp2_with fail
      refine wp_region_held_drew (S := fun W => W.cell? ⟨w.heap.size, 1, none⟩ = some (.slice (some ⟨b, off, none⟩) k fc) ∧ W.cell? ⟨w.heap.size, 0, none⟩ = some (.slice no n nc) ∧ W.cell? ⟨b, off + j * 3, none⟩ = some (.string ⟨f.name.toArray⟩) ∧ W.cell? ⟨b, off + j * 3 + 1, none⟩ = some (.slice po pk pc) ∧ W.cell? ⟨b, off + j * 3 + 2, none⟩ = some (.int .i64 f.body) ∧ Bel V W) (by kernel_rfl) ⟨d1, d0, e0, e1, e2, Below.drew HB.out⟩ (fun hH => ?_)
      refine take_yes (i := 0) (d := 32) (v := ?_) rfl rfl (by kernel_rfl) (by kernel_rfl) (by kernel_rfl) (fun _ _ _ h => h) (by rfl) ?_ (by assumption) ?_
      rotate_left 1
      ·intro w hSw
       obtain ⟨z0, z1, z2, z3, z4, z5⟩ := hSw
       go_simp
       with_reducible rfl
      try simp only [Act.put, List.setIfInBounds_toArray, List.set_cons_zero, List.set_cons_succ]
      refine take_yes (i := 1) (d := 33) (v := ?_) rfl rfl (by kernel_rfl) (by kernel_rfl) (by kernel_rfl) (fun _ _ _ h => h) (by rfl) ?_ (by assumption) ?_
      rotate_left 1
      ·intro w hSw
       obtain ⟨z0, z1, z2, z3, z4, z5⟩ := hSw
       go_simp
       with_reducible rfl
      try simp only [Act.put, List.setIfInBounds_toArray, List.set_cons_zero, List.set_cons_succ]
      refine take_yes (i := 2) (d := 34) (v := ?_) rfl rfl (by kernel_rfl) (by kernel_rfl) (by kernel_rfl) (fun _ _ _ h => h) (by rfl) ?_ (by assumption) ?_
      rotate_left 1
      ·intro w hSw
       obtain ⟨z0, z1, z2, z3, z4, z5⟩ := hSw
       go_simp
       with_reducible rfl
      try simp only [Act.put, List.setIfInBounds_toArray, List.set_cons_zero, List.set_cons_succ]
      refine take_yes (i := 3) (d := 35) (v := ?_) rfl rfl (by kernel_rfl) (by kernel_rfl) (by kernel_rfl) (fun _ _ _ h => h) (by rfl) ?_ (by assumption) ?_
      rotate_left 1
      ·intro w hSw
       obtain ⟨z0, z1, z2, z3, z4, z5⟩ := hSw
       go_simp
       with_reducible rfl
      try simp only [Act.put, List.setIfInBounds_toArray, List.set_cons_zero, List.set_cons_succ]
      refine take_yes (i := 4) (d := 36) (v := ?_) rfl rfl (by kernel_rfl) (by kernel_rfl) (by kernel_rfl) (fun _ _ _ h => h) (by rfl) ?_ (by assumption) ?_
      rotate_left 1
      ·intro w hSw
       obtain ⟨z0, z1, z2, z3, z4, z5⟩ := hSw
       go_simp
       with_reducible rfl
      try simp only [Act.put, List.setIfInBounds_toArray, List.set_cons_zero, List.set_cons_succ]
      refine take_yes (i := 5) (d := 37) (v := ?_) rfl rfl (by kernel_rfl) (by kernel_rfl) (by kernel_rfl) (fun _ _ _ h => h) (by rfl) ?_ (by assumption) ?_
      rotate_left 1
      ·intro w hSw
       obtain ⟨z0, z1, z2, z3, z4, z5⟩ := hSw
       go_simp
       with_reducible rfl
      try simp only [Act.put, List.setIfInBounds_toArray, List.set_cons_zero, List.set_cons_succ]
      refine take_yes (i := 6) (d := 38) (v := ?_) rfl rfl (by kernel_rfl) (by kernel_rfl) (by kernel_rfl) (fun _ _ _ h => h) (by rfl) ?_ (by assumption) ?_
      rotate_left 1
      ·intro w hSw
       obtain ⟨z0, z1, z2, z3, z4, z5⟩ := hSw
       go_simp
       with_reducible rfl
      try simp only [Act.put, List.setIfInBounds_toArray, List.set_cons_zero, List.set_cons_succ]
      refine take_yes (i := 7) (d := 39) (v := ?_) rfl rfl (by kernel_rfl) (by kernel_rfl) (by kernel_rfl) (fun _ _ _ h => h) (by rfl) ?_ (by assumption) ?_
      rotate_left 1
      ·intro w hSw
       obtain ⟨z0, z1, z2, z3, z4, z5⟩ := hSw
       go_simp
       with_reducible rfl
      try simp only [Act.put, List.setIfInBounds_toArray, List.set_cons_zero, List.set_cons_succ]
      refine take_yes (i := 8) (d := 40) (v := ?_) rfl rfl (by kernel_rfl) (by kernel_rfl) (by kernel_rfl) (fun _ _ _ h => h) (by rfl) ?_ (by assumption) ?_
      rotate_left 1
      ·intro w hSw
       obtain ⟨z0, z1, z2, z3, z4, z5⟩ := hSw
       go_simp
       with_reducible rfl
      try simp only [Act.put, List.setIfInBounds_toArray, List.set_cons_zero, List.set_cons_succ]
      refine take_yes (i := 10) (d := 42) (v := ?_) rfl rfl (by kernel_rfl) (by kernel_rfl) (by kernel_rfl) (fun _ _ _ h => h) (by rfl) ?_ (by assumption) ?_
      rotate_left 1
      ·intro w hSw
       obtain ⟨z0, z1, z2, z3, z4, z5⟩ := hSw
       go_simp
       with_reducible rfl
      try simp only [Act.put, List.setIfInBounds_toArray, List.set_cons_zero, List.set_cons_succ]
      refine wpAnyH_ready (rs := [9]) (by kernel_rfl) (by simp) ?_
      refine AllReadyH.cons rfl (fun K hK => ?_) AllReadyH.nil
      go_simp
      refine (HFi.out _ hH).mono ?_
      rintro e w8 ⟨rfl, hG⟩
      clear hH
      refine hK.out _ _ hG (fun hH => ?_)
      clear hK K hG
      try simp only [Act.put, List.setIfInBounds_toArray, List.set_cons_zero, List.set_cons_succ]
      refine take_yes (i := 11) (d := 43) (v := .bool false) rfl rfl (by kernel_rfl) (by kernel_rfl) (by kernel_rfl) (fun _ _ _ h => h) (by rfl) ?_ (by assumption) ?_
      ·intro w hSw
       obtain ⟨z0, z1, z2, z3, z4, z5⟩ := hSw
       go_simp
       try simp
       try omega
      try simp only [Act.put, List.setIfInBounds_toArray, List.set_cons_zero, List.set_cons_succ]
      refine take_yes (i := 12) (d := 44) (v := ?_) rfl rfl (by kernel_rfl) (by kernel_rfl) (by kernel_rfl) (fun _ _ _ h => h) (by rfl) ?_ (by assumption) ?_
      rotate_left 1
      ·intro w hSw
       obtain ⟨z0, z1, z2, z3, z4, z5⟩ := hSw
       go_simp
       with_reducible rfl
      try simp only [Act.put, List.setIfInBounds_toArray, List.set_cons_zero, List.set_cons_succ]
      refine take_yes (i := 13) (d := 45) (v := ?_) rfl rfl (by kernel_rfl) (by kernel_rfl) (by kernel_rfl) (fun _ _ _ h => h) (by rfl) ?_ (by assumption) ?_
      rotate_left 1
      ·intro w hSw
       obtain ⟨z0, z1, z2, z3, z4, z5⟩ := hSw
       go_simp
       with_reducible rfl
      try simp only [Act.put, List.setIfInBounds_toArray, List.set_cons_zero, List.set_cons_succ]
      refine take_yes (i := 14) (d := 46) (v := ?_) rfl rfl (by kernel_rfl) (by kernel_rfl) (by kernel_rfl) (fun _ _ _ h => h) (by rfl) ?_ (by assumption) ?_
      rotate_left 1
      ·intro w hSw
       obtain ⟨z0, z1, z2, z3, z4, z5⟩ := hSw
       go_simp
       with_reducible rfl
      try simp only [Act.put, List.setIfInBounds_toArray, List.set_cons_zero, List.set_cons_succ]
      refine take_yes (i := 15) (d := 47) (v := ?_) rfl rfl (by kernel_rfl) (by kernel_rfl) (by kernel_rfl) (fun _ _ _ h => h) (by rfl) ?_ (by assumption) ?_
      rotate_left 1
      ·intro w hSw
       obtain ⟨z0, z1, z2, z3, z4, z5⟩ := hSw
       go_simp
       with_reducible rfl
      try simp only [Act.put, List.setIfInBounds_toArray, List.set_cons_zero, List.set_cons_succ]
      refine take_yes (i := 16) (d := 48) (v := ?_) rfl rfl (by kernel_rfl) (by kernel_rfl) (by kernel_rfl) (fun _ _ _ h => h) (by rfl) ?_ (by assumption) ?_
      rotate_left 1
      ·intro w hSw
       obtain ⟨z0, z1, z2, z3, z4, z5⟩ := hSw
       go_simp
       with_reducible rfl
      try simp only [Act.put, List.setIfInBounds_toArray, List.set_cons_zero, List.set_cons_succ]
      refine take_yes (i := 17) (d := 49) (v := ?_) rfl rfl (by kernel_rfl) (by kernel_rfl) (by kernel_rfl) (fun _ _ _ h => h) (by rfl) ?_ (by assumption) ?_
      rotate_left 1
      ·intro w hSw
       obtain ⟨z0, z1, z2, z3, z4, z5⟩ := hSw
       go_simp
       with_reducible rfl
      try simp only [Act.put, List.setIfInBounds_toArray, List.set_cons_zero, List.set_cons_succ]
      refine take_yes (i := 18) (d := 50) (v := ?_) rfl rfl (by kernel_rfl) (by kernel_rfl) (by kernel_rfl) (fun _ _ _ h => h) (by rfl) ?_ (by assumption) ?_
      rotate_left 1
      ·intro w hSw
       obtain ⟨z0, z1, z2, z3, z4, z5⟩ := hSw
       go_simp
       with_reducible rfl
      try simp only [Act.put, List.setIfInBounds_toArray, List.set_cons_zero, List.set_cons_succ]
      refine take_yes (i := 19) (d := 51) (v := ?_) rfl rfl (by kernel_rfl) (by kernel_rfl) (by kernel_rfl) (fun _ _ _ h => h) (by rfl) ?_ (by assumption) ?_
      rotate_left 1
      ·intro w hSw
       obtain ⟨z0, z1, z2, z3, z4, z5⟩ := hSw
       go_simp
       with_reducible rfl
      try simp only [Act.put, List.setIfInBounds_toArray, List.set_cons_zero, List.set_cons_succ]
      refine wpAnyH_ready (rs := [20]) (by kernel_rfl) (by simp) ?_
      refine AllReadyH.cons rfl (fun K hK => ?_) AllReadyH.nil
      go_simp
      refine (HTw.out _ hH).mono ?_
      rintro e w8 ⟨rfl, hG⟩
      clear hH
      refine hK.out _ _ hG (fun hH => ?_)
      clear hK K hG
      try simp only [Act.put, List.setIfInBounds_toArray, List.set_cons_zero, List.set_cons_succ]
      refine take_yes (i := 21) (d := 53) (v := ?_) rfl rfl (by kernel_rfl) (by kernel_rfl) (by kernel_rfl) (fun _ _ _ h => h) (by rfl) ?_ (by assumption) ?_
      rotate_left 1
      ·intro w hSw
       obtain ⟨z0, z1, z2, z3, z4, z5⟩ := hSw
       go_simp
       with_reducible rfl
      try simp only [Act.put, List.setIfInBounds_toArray, List.set_cons_zero, List.set_cons_succ]
      refine wpAnyH_done (by kernel_rfl) ?_ _
      obtain ⟨d1, d0, e0, e1, e2, G⟩ := hH
      have HG := Lib.hid G
      clear G
      go_wp2_with fail
      go_ret2
      unfold RcPost
      rw [res_dup Hc.out (by rw [HXe.out, HM2.out])]
      exact ⟨rfl, Bel.trans HBV.out HG.out⟩
     | false =>
      rw [if_neg (by rw [ht]; rintro (h | h | h); exact hb h; exact hlt h; cases h)] at hM
      rw [ht] at HTw
      generalize findI F f.name = z at *
      clear ht
      have HM2 := Lib.hid hM
      clear hM hf1 hf2
      go_wp2_with fail
      refine (HBl.out _).mono ?_
      rintro e w2 ⟨rfl, rfl⟩
      go_wp2_with fail
      refine wp_region_held_drew (S := fun W => W.cell? ⟨w.heap.size, 1, none⟩ = some (.slice (some ⟨b, off, none⟩) k fc) ∧ W.cell? ⟨w.heap.size, 0, none⟩ = some (.slice no n nc) ∧ W.cell? ⟨b, off + j * 3, none⟩ = some (.string ⟨f.name.toArray⟩) ∧ W.cell? ⟨b, off + j * 3 + 1, none⟩ = some (.slice po pk pc) ∧ W.cell? ⟨b, off + j * 3 + 2, none⟩ = some (.int .i64 f.body) ∧ Bel V W) (by kernel_rfl) ⟨d1, d0, e0, e1, e2, Below.drew HB.out⟩ (fun hH => ?_)
      refine take_yes (i := 0) (d := 32) (v := ?_) rfl rfl (by kernel_rfl) (by kernel_rfl) (by kernel_rfl) (fun _ _ _ h => h) (by rfl) ?_ (by assumption) ?_
      rotate_left 1
      ·intro w hSw
       obtain ⟨z0, z1, z2, z3, z4, z5⟩ := hSw
       go_simp
       with_reducible rfl
      try simp only [Act.put, List.setIfInBounds_toArray, List.set_cons_zero, List.set_cons_succ]
      refine take_yes (i := 1) (d := 33) (v := ?_) rfl rfl (by kernel_rfl) (by kernel_rfl) (by kernel_rfl) (fun _ _ _ h => h) (by rfl) ?_ (by assumption) ?_
      rotate_left 1
      ·intro w hSw
       obtain ⟨z0, z1, z2, z3, z4, z5⟩ := hSw
       go_simp
       with_reducible rfl
      try simp only [Act.put, List.setIfInBounds_toArray, List.set_cons_zero, List.set_cons_succ]
      refine take_yes (i := 2) (d := 34) (v := ?_) rfl rfl (by kernel_rfl) (by kernel_rfl) (by kernel_rfl) (fun _ _ _ h => h) (by rfl) ?_ (by assumption) ?_
      rotate_left 1
      ·intro w hSw
       obtain ⟨z0, z1, z2, z3, z4, z5⟩ := hSw
       go_simp
       with_reducible rfl
      try simp only [Act.put, List.setIfInBounds_toArray, List.set_cons_zero, List.set_cons_succ]
      refine take_yes (i := 3) (d := 35) (v := ?_) rfl rfl (by kernel_rfl) (by kernel_rfl) (by kernel_rfl) (fun _ _ _ h => h) (by rfl) ?_ (by assumption) ?_
      rotate_left 1
      ·intro w hSw
       obtain ⟨z0, z1, z2, z3, z4, z5⟩ := hSw
       go_simp
       with_reducible rfl
      try simp only [Act.put, List.setIfInBounds_toArray, List.set_cons_zero, List.set_cons_succ]
      refine take_yes (i := 4) (d := 36) (v := ?_) rfl rfl (by kernel_rfl) (by kernel_rfl) (by kernel_rfl) (fun _ _ _ h => h) (by rfl) ?_ (by assumption) ?_
      rotate_left 1
      ·intro w hSw
       obtain ⟨z0, z1, z2, z3, z4, z5⟩ := hSw
       go_simp
       with_reducible rfl
      try simp only [Act.put, List.setIfInBounds_toArray, List.set_cons_zero, List.set_cons_succ]
      refine take_yes (i := 5) (d := 37) (v := ?_) rfl rfl (by kernel_rfl) (by kernel_rfl) (by kernel_rfl) (fun _ _ _ h => h) (by rfl) ?_ (by assumption) ?_
      rotate_left 1
      ·intro w hSw
       obtain ⟨z0, z1, z2, z3, z4, z5⟩ := hSw
       go_simp
       with_reducible rfl
      try simp only [Act.put, List.setIfInBounds_toArray, List.set_cons_zero, List.set_cons_succ]
      refine take_yes (i := 6) (d := 38) (v := ?_) rfl rfl (by kernel_rfl) (by kernel_rfl) (by kernel_rfl) (fun _ _ _ h => h) (by rfl) ?_ (by assumption) ?_
      rotate_left 1
      ·intro w hSw
       obtain ⟨z0, z1, z2, z3, z4, z5⟩ := hSw
       go_simp
       with_reducible rfl
      try simp only [Act.put, List.setIfInBounds_toArray, List.set_cons_zero, List.set_cons_succ]
      refine take_yes (i := 7) (d := 39) (v := ?_) rfl rfl (by kernel_rfl) (by kernel_rfl) (by kernel_rfl) (fun _ _ _ h => h) (by rfl) ?_ (by assumption) ?_
      rotate_left 1
      ·intro w hSw
       obtain ⟨z0, z1, z2, z3, z4, z5⟩ := hSw
       go_simp
       with_reducible rfl
      try simp only [Act.put, List.setIfInBounds_toArray, List.set_cons_zero, List.set_cons_succ]
      refine take_yes (i := 8) (d := 40) (v := ?_) rfl rfl (by kernel_rfl) (by kernel_rfl) (by kernel_rfl) (fun _ _ _ h => h) (by rfl) ?_ (by assumption) ?_
      rotate_left 1
      ·intro w hSw
       obtain ⟨z0, z1, z2, z3, z4, z5⟩ := hSw
       go_simp
       with_reducible rfl
      try simp only [Act.put, List.setIfInBounds_toArray, List.set_cons_zero, List.set_cons_succ]
      refine take_yes (i := 10) (d := 42) (v := ?_) rfl rfl (by kernel_rfl) (by kernel_rfl) (by kernel_rfl) (fun _ _ _ h => h) (by rfl) ?_ (by assumption) ?_
      rotate_left 1
      ·intro w hSw
       obtain ⟨z0, z1, z2, z3, z4, z5⟩ := hSw
       go_simp
       with_reducible rfl
      try simp only [Act.put, List.setIfInBounds_toArray, List.set_cons_zero, List.set_cons_succ]
      refine wpAnyH_ready (rs := [9]) (by kernel_rfl) (by simp) ?_
      refine AllReadyH.cons rfl (fun K hK => ?_) AllReadyH.nil
      go_simp
      refine (HFi.out _ hH).mono ?_
      rintro e w8 ⟨rfl, hG⟩
      clear hH
      refine hK.out _ _ hG (fun hH => ?_)
      clear hK K hG
      try simp only [Act.put, List.setIfInBounds_toArray, List.set_cons_zero, List.set_cons_succ]
      refine take_yes (i := 11) (d := 43) (v := .bool false) rfl rfl (by kernel_rfl) (by kernel_rfl) (by kernel_rfl) (fun _ _ _ h => h) (by rfl) ?_ (by assumption) ?_
      ·intro w hSw
       obtain ⟨z0, z1, z2, z3, z4, z5⟩ := hSw
       go_simp
       try simp
       try omega
      try simp only [Act.put, List.setIfInBounds_toArray, List.set_cons_zero, List.set_cons_succ]
      refine take_yes (i := 12) (d := 44) (v := ?_) rfl rfl (by kernel_rfl) (by kernel_rfl) (by kernel_rfl) (fun _ _ _ h => h) (by rfl) ?_ (by assumption) ?_
      rotate_left 1
      ·intro w hSw
       obtain ⟨z0, z1, z2, z3, z4, z5⟩ := hSw
       go_simp
       with_reducible rfl
      try simp only [Act.put, List.setIfInBounds_toArray, List.set_cons_zero, List.set_cons_succ]
      refine take_yes (i := 13) (d := 45) (v := ?_) rfl rfl (by kernel_rfl) (by kernel_rfl) (by kernel_rfl) (fun _ _ _ h => h) (by rfl) ?_ (by assumption) ?_
      rotate_left 1
      ·intro w hSw
       obtain ⟨z0, z1, z2, z3, z4, z5⟩ := hSw
       go_simp
       with_reducible rfl
      try simp only [Act.put, List.setIfInBounds_toArray, List.set_cons_zero, List.set_cons_succ]
      refine take_yes (i := 14) (d := 46) (v := ?_) rfl rfl (by kernel_rfl) (by kernel_rfl) (by kernel_rfl) (fun _ _ _ h => h) (by rfl) ?_ (by assumption) ?_
      rotate_left 1
      ·intro w hSw
       obtain ⟨z0, z1, z2, z3, z4, z5⟩ := hSw
       go_simp
       with_reducible rfl
      try simp only [Act.put, List.setIfInBounds_toArray, List.set_cons_zero, List.set_cons_succ]
      refine take_yes (i := 15) (d := 47) (v := ?_) rfl rfl (by kernel_rfl) (by kernel_rfl) (by kernel_rfl) (fun _ _ _ h => h) (by rfl) ?_ (by assumption) ?_
      rotate_left 1
      ·intro w hSw
       obtain ⟨z0, z1, z2, z3, z4, z5⟩ := hSw
       go_simp
       with_reducible rfl
      try simp only [Act.put, List.setIfInBounds_toArray, List.set_cons_zero, List.set_cons_succ]
      refine take_yes (i := 16) (d := 48) (v := ?_) rfl rfl (by kernel_rfl) (by kernel_rfl) (by kernel_rfl) (fun _ _ _ h => h) (by rfl) ?_ (by assumption) ?_
      rotate_left 1
      ·intro w hSw
       obtain ⟨z0, z1, z2, z3, z4, z5⟩ := hSw
       go_simp
       with_reducible rfl
      try simp only [Act.put, List.setIfInBounds_toArray, List.set_cons_zero, List.set_cons_succ]
      refine take_yes (i := 17) (d := 49) (v := ?_) rfl rfl (by kernel_rfl) (by kernel_rfl) (by kernel_rfl) (fun _ _ _ h => h) (by rfl) ?_ (by assumption) ?_
      rotate_left 1
      ·intro w hSw
       obtain ⟨z0, z1, z2, z3, z4, z5⟩ := hSw
       go_simp
       with_reducible rfl
      try simp only [Act.put, List.setIfInBounds_toArray, List.set_cons_zero, List.set_cons_succ]
      refine take_yes (i := 18) (d := 50) (v := ?_) rfl rfl (by kernel_rfl) (by kernel_rfl) (by kernel_rfl) (fun _ _ _ h => h) (by rfl) ?_ (by assumption) ?_
      rotate_left 1
      ·intro w hSw
       obtain ⟨z0, z1, z2, z3, z4, z5⟩ := hSw
       go_simp
       with_reducible rfl
      try simp only [Act.put, List.setIfInBounds_toArray, List.set_cons_zero, List.set_cons_succ]
      refine take_yes (i := 19) (d := 51) (v := ?_) rfl rfl (by kernel_rfl) (by kernel_rfl) (by kernel_rfl) (fun _ _ _ h => h) (by rfl) ?_ (by assumption) ?_
      rotate_left 1
      ·intro w hSw
       obtain ⟨z0, z1, z2, z3, z4, z5⟩ := hSw
       go_simp
       with_reducible rfl
      try simp only [Act.put, List.setIfInBounds_toArray, List.set_cons_zero, List.set_cons_succ]
      refine wpAnyH_ready (rs := [20]) (by kernel_rfl) (by simp) ?_
      refine AllReadyH.cons rfl (fun K hK => ?_) AllReadyH.nil
      go_simp
      refine (HTw.out _ hH).mono ?_
      rintro e w8 ⟨rfl, hG⟩
      clear hH
      refine hK.out _ _ hG (fun hH => ?_)
      clear hK K hG
      try simp only [Act.put, List.setIfInBounds_toArray, List.set_cons_zero, List.set_cons_succ]
      refine take_yes (i := 21) (d := 53) (v := ?_) rfl rfl (by kernel_rfl) (by kernel_rfl) (by kernel_rfl) (fun _ _ _ h => h) (by rfl) ?_ (by assumption) ?_
      rotate_left 1
      ·intro w hSw
       obtain ⟨z0, z1, z2, z3, z4, z5⟩ := hSw
       go_simp
       with_reducible rfl
      try simp only [Act.put, List.setIfInBounds_toArray, List.set_cons_zero, List.set_cons_succ]
      refine wpAnyH_done (by kernel_rfl) ?_ _
      obtain ⟨d1, d0, e0, e1, e2, G⟩ := hH
      have HG := Lib.hid G
      clear G
      go_wp2_with fail
      go_round
      case rel => exact ⟨j + 1, by go_num, by omega, HM2, HG⟩
      case measure => first | (simp [intOf]; done) | (simp [intOf]; omega)
  ·have hz : X = none := by have := HM.out; rw [List.drop_eq_nil_of_le (by rw [HFk.out]; exact hjk), dupF] at this; exact this.symm
   obtain rfl : j = k := by omega
   have Hdn := Lib.hid (show dupF F 0 F = none by rw [HXe.out, hz])
   have HFm := Lib.hid (rfun_any no fo n nc j fc F mainT (by omega) wr (HF.out.on HB.out))
   have hX2 : fixI (fun g => decide (g.name = mainT)) 0 F = findI F mainT := rfl
   rw [hX2] at HFm
   obtain ⟨h1, h2⟩ := find_lt F mainT
   obtain ⟨me, hme⟩ : ∃ me, mainE F = me := ⟨_, rfl⟩
   have Hme := Lib.hid hme
   have hres := res_main Hc.out Hdn.out
   rw [hme] at hres
   have Hres := Lib.hid hres
   clear hres
   have hjF := HFk.out
   unfold mainE at hme
   clear hz HX HXe HM
   by_cases h0 : findI F mainT < 0
   ·rw [if_pos h0] at hme
    subst hme
    have hm : findI F mainT = -1 := by omega
    rw [hm] at HFm
    unfold mainT at HFm
    clear h0 h1 h2 hm hX2
    go_wp2_with fail
    refine HFm.out.mono ?_
    rintro e w2 ⟨rfl, g⟩
    have HB2 := Lib.hid (Bel.trans HB.out g)
    clear g v0 v1
    go_wp2_with fail
    go_ret2
    unfold RcPost
    rw [Hres.out]
    exact ⟨rfl, Bel.trans HBV.out HB2.out⟩
   ·rw [if_neg h0] at hme
    obtain ⟨q, hq⟩ : ∃ q : Nat, findI F mainT = (q : Int) := ⟨(findI F mainT).toNat, by omega⟩
    have hql : q < F.length := by omega
    rw [hq, Int.toNat_natCast, List.getElem?_eq_getElem hql] at hme
    simp only at hme
    rw [hq] at HFm
    unfold mainT at HFm
    obtain ⟨b, off, rfl, hcs⟩ := HF.out.2 (by omega)
    obtain ⟨⟨vs, po, pk, pc, vj⟩, hv, hcc⟩ := hcs q hql
    have c1 : V.cell? ⟨b, off + q * 3 + 1, none⟩ = some (.slice po pk pc) := by simpa using hcc 1 _ rfl
    have c2 : V.cell? ⟨b, off + q * 3 + 2, none⟩ = some (.int .i64 F[q].body) := by have := hcc 2 _ rfl; rw [hv.j] at this; simpa using this
    have hpk : F[q].params.length = pk := by have := hv.ps.1; simpa using this
    have hqk : (q : Int) < (j : Int) := by omega
    have hq0 : (0 : Int) ≤ (q : Int) := by omega
    have hnn : ¬ (q : Int) < 0 := by omega
    rw [hpk] at hme
    generalize F[q].body = fb at *
    have HC := Lib.hid (show ∀ W, Bel V W → W.cell? ⟨w.heap.size, 1, none⟩ = some (.slice (some ⟨b, off, none⟩) j fc) ∧ W.cell? ⟨w.heap.size, 0, none⟩ = some (.slice no n nc) ∧ W.cell? ⟨b, off + q * 3 + 1, none⟩ = some (.slice po pk pc) ∧ W.cell? ⟨b, off + q * 3 + 2, none⟩ = some (.int .i64 fb) from fun W g => ⟨g.cell' HV1.out, g.cell' HV0.out, g.cell' c1, g.cell' c2⟩)
    clear hcs hcc hv hpk h0 h1 h2 hX2 c1 c2
    by_cases h1 : pk = 1
    ·rw [if_pos h1] at hme
     subst h1 hme
     go_wp2_with fail
     refine HFm.out.mono ?_
     rintro e w2 ⟨rfl, g⟩
     have HB2 := Lib.hid (Bel.trans HB.out g)
     clear g v0 v1
     obtain ⟨d1, d0, e1, e2⟩ := HC.out w2 HB2.out
     have HA2 := Lib.hid (HAl2.out w2 HB2.out)
     go_wp2_with fail
     refine HA2.out.mono ?_
     rintro e w3 ⟨fs, ⟨hL, hFs, hgd⟩, G, a1, a2, m1, c1, m2, c2, rfl, -, g⟩
     have HB3 := Lib.hid (Bel.trans HB2.out g)
     have Hr3 := Lib.hid (show (resG L F).er = (walkR F fs).er ∧ (resG L F).pos = (walkR F fs).nd from by
      have := (walk_res hgd (by rw [← hL, ← hFs]; exact Hc.out) (by rw [← hFs]; exact Hdn.out) (by rw [← hFs]; exact Hme.out)).1
      rw [← hL, ← hFs] at this
      exact this)
     generalize walkR F fs = K at *
     clear g d1 d0 e1 e2 hL hFs hgd
     go_wp2_with fail
     go_quiet (fail)
     go_wp2_with fail
     go_ret2
     unfold RcPost
     rw [Hr3.out.1, Hr3.out.2]
     exact ⟨rfl, Bel.drewN (Bel.trans HBV.out (Bel.alloc HB3.out _)) _⟩
    ·rw [if_neg h1] at hme
     subst hme
     have h1b : ((pk : Int) == 1) = false := by simp; omega
     have h1c : ((pk : Int) != 1) = true := by simp; omega
     go_wp2_with fail
     refine HFm.out.mono ?_
     rintro e w2 ⟨rfl, g⟩
     have HB2 := Lib.hid (Bel.trans HB.out g)
     clear g v0 v1
     obtain ⟨d1, d0, e1, e2⟩ := HC.out w2 HB2.out
     go_wp2_with fail
     go_ret2
     unfold RcPost
     rw [Hres.out]
     exact ⟨rfl, Bel.trans HBV.out HB2.out⟩
end Syn
end Go.Proofs.YtcapkeaedpabjaaGreatDoor
