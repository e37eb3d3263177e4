/-
  Layer 8, texts merged: SchJ, SchK, SchL, SchM, SchN. For every argument within the bounds that each theorem names.
-/
import Derived.Test.YtcapkeaedpabjaaGreatDoorYG3
set_option maxRecDepth 100000
set_option maxHeartbeats 16000000

/-
 Layer 8: isProper, as the program has it.
-/
namespace Go.Proofs.YtcapkeaedpabjaaGreatDoor
open Go.RowKit Go.ChangeShapes Go.WideShapes
namespace Syn

theorem karg_at {w : World} {o : Option Addr} {n : Nat} {ks : List Txt} (h : KArg w o n ks) : ks.length = n ∧ (0 < n → ∃ b off,o = some ⟨b,off,none⟩ ∧ ∀ i (h : i < ks.length),w.cell? ⟨b,off + i,none⟩ = some (.string ⟨ks[i].toArray⟩)) := by
 have h1 := h.1
 rw [List.length_map] at h1
 refine ⟨h1,fun h0 => ?_⟩
 obtain ⟨b,off,rfl,hc⟩ := sl_addr h h0
 refine ⟨b,off,rfl,fun i hi => ?_⟩
 have := hc i (by simpa using hi)
 rw [this]
 simp [bz,hi]
def kindAt (L : List Nd) (z : Int) : Int := match L[z.toNat]? with | some x => x.k | none => 0
def goodF (L : List Nd) (r : Int) (f : Fw) : Bool := decide (f.body = r) && (decide (kindAt L r = 19) && (nameB f.name && !(f.params.any fun p => !nameB p)))
def goodFs (L : List Nd) : List Int → List Fw → Bool
 | r :: rs,f :: fs => goodF L r f && goodFs L rs fs
 | _,_ => true
def withRts (L : List Nd) (F : List Fw) : Option (List Int) → Bool
 | none => false
 | some rs => decide (rs.length = F.length) && goodFs L rs F
def properB (L : List Nd) (F : List Fw) : Bool := withRts L F (rts L 0 L [])
theorem goods_at {L : List Nd} {rs : List Int} {F : List Fw} {i : Nat} {X : Bool} (h1 : i < rs.length) (h2 : i < F.length) (h : goodFs L (rs.drop i) (F.drop i) = X) : (goodF L rs[i] F[i] = false → X = false) ∧ (goodF L rs[i] F[i] = true → goodFs L (rs.drop (i + 1)) (F.drop (i + 1)) = X) := by
 rw [List.drop_eq_getElem_cons h1,List.drop_eq_getElem_cons h2,goodFs] at h
 constructor
 ·intro e
  rw [e] at h
  exact h.symm
 ·intro e
  rw [e,Bool.true_and] at h
  exact h
theorem rts_lt {L : List Nd} : ∀ (r : List Nd) (i : Nat) (op rs : List Int),i + r.length = L.length → (∀ z ∈ op,0 ≤ z ∧ z < (L.length : Int)) → rts L i r op = some rs → ∀ z ∈ rs,0 ≤ z ∧ z < (L.length : Int)
 | [],i,op,rs,_,h2,h3 => by
  rw [rts] at h3
  obtain rfl := Option.some.inj h3
  exact h2
 | x :: r,i,op,rs,h1,h2,h3 => by
  rw [rts] at h3
  rw [List.length_cons] at h1
  split at h3
  ·split at h3
   ·refine rts_lt r (i + 1) _ rs (by omega) (fun z hz => ?_) h3
    rcases List.mem_append.1 hz with q | q
    ·exact h2 z (List.mem_of_mem_take q)
    ·rw [List.mem_singleton.1 q]
     omega
   ·cases h3
  ·cases h3
theorem proper_any (no fo : Option Addr) (n nc k fc : Nat) (L : List Nd) (F : List Fw) (hn : n ≤ 100000) (hk : k ≤ 4611686018427387904) (w : World) (hm : Lex.ML w) (hA : NArg w no n L) (hF : FArg w fo k F) (hwf : WfN L) (hwF : ∀ x ∈ F,x.params.length ≤ 4611686018427387904) :
  Calls Tryz.prog 42 #[.agg #[.slice no n nc,.slice fo k fc]] w fun e w' => e = .returned (.bool (properB L F)) ∧ Bel w w' := by
 obtain ⟨V,hV⟩ : ∃ V,w.alloc (.cells #[.slice no n nc,.slice fo k fc] 25) = V := ⟨_,rfl⟩
 have BV : Bel w V := by rw [← hV]; exact Bel.alloc (Bel.refl w) _
 obtain ⟨v0,v1⟩ : V.cell? ⟨w.heap.size,0,none⟩ = some (.slice no n nc) ∧ V.cell? ⟨w.heap.size,1,none⟩ = some (.slice fo k fc) := by
  rw [← hV]
  exact ⟨World.cell?_alloc_new ..,World.cell?_alloc_new ..⟩
 have HRt := Lib.hid (roots_any no n nc L hn V (hm.on BV) (hA.on BV) hwf)
 have HBV := Lib.hid BV
 obtain ⟨X,hX⟩ : ∃ X,rts L 0 L [] = X := ⟨_,rfl⟩
 have hP : properB L F = withRts L F X := by rw [← hX]; rfl
 rw [hX] at HRt
 have HX := Lib.hid hX
 have HA := Lib.hid hA
 have HF := Lib.hid hF
 have HM := Lib.hid hm
 have HWF := Lib.hid hwF
 clear hX BV hA hF hwf hm hwF
 cases X with
 | none =>
  have hP2 : properB L F = false := hP
  rw [hP2]
  clear hP hP2
  go_enter Tryz.func42,Tryz.ntmps42
  go_wp2_with fail
  refine HRt.out.mono ?_
  rintro e w2 ⟨rfl,g⟩
  have c0 := g.cell' v0
  have c1 := g.cell' v1
  have G := Lib.hid (Bel.trans HBV.out g)
  clear g v0 v1
  go_wp2_with fail
  go_ret
  exact ⟨rfl,G.out⟩
 | some rs =>
  obtain ⟨b,hb⟩ : ∃ b,properB L F = b := ⟨_,rfl⟩
  rw [hb]
  have HP : Hid (b = (decide (rs.length = F.length) && goodFs L rs F)) := Lib.hid (hb ▸ hP)
  obtain ⟨m,hm⟩ : ∃ m,rs.length = m := ⟨_,rfl⟩
  have HLF : Hid (F.length = k) := Lib.hid HF.out.1
  have Hrs := Lib.hid hm
  rw [show RtsPost V (some rs) = fun e w' => (∃ o c,e = .returned (.tuple #[.slice o m c,.bool true]) ∧ RArg w' o m rs) ∧ Bel V w' by rw [← hm]; rfl] at HRt
  clear hP hb hm
  by_cases hmk : m = k
  ·subst hmk
   have Hb : Hid (goodFs L rs F = b) := Lib.hid (by rw [HP.out,Hrs.out,HLF.out,decide_eq_true rfl,Bool.true_and])
   go_enter Tryz.func42,Tryz.ntmps42
   go_wp2_with fail
   refine HRt.out.mono ?_
   rintro e w2 ⟨⟨o,c,rfl,hR⟩,g⟩
   have c0 := g.cell' v0
   have c1 := g.cell' v1
   have G := Lib.hid (Bel.trans HBV.out g)
   have HR := Lib.hid hR
   have HF2 := Lib.hid (HF.out.on G.out)
   have HA2 := Lib.hid (HA.out.on G.out)
   have HM2 := Lib.hid (HM.out.on G.out)
   clear g v0 v1 hR
   go_wp2_with fail
   go_loopw [26] (fun iv wr => ∃ i : Nat,iv = .int .i64 (i : Int) ∧ i ≤ m ∧ Hid (goodFs L (rs.drop i) (F.drop i) = b) ∧ Hid (Bel w2 wr)) (fun iv _ => m - (intOf iv).toNat)
   case atStart => exact ⟨0,rfl,Nat.zero_le _,Hb,Lib.hid (Bel.refl _)⟩
   case round =>
    obtain ⟨i,rfl,hi,HG,HB⟩ := hrel
    rename World => wr
    rcases Nat.lt_or_ge i m with him | him
    ·have h1 : i < rs.length := by rw [Hrs.out]; exact him
     have h2 : i < F.length := by rw [HLF.out]; exact him
     obtain ⟨g1,g2⟩ := goods_at h1 h2 HG.out
     obtain ⟨fb0,fo0,rfl,hcs⟩ := HF2.out.2 (by omega)
     obtain ⟨⟨s,po,pk,pc,j⟩,hv,hcc⟩ := hcs i h2
     obtain ⟨rb,ro,rfl,hrc⟩ := HR.out.2 (by omega)
     have e1 := HB.out.cell' (hrc i h1)
     have d0 : wr.cell? ⟨fb0,fo0 + i * 3,none⟩ = some (.string ⟨s.toArray⟩) := HB.out.cell' (by simpa using hcc 0 _ rfl)
     have d1 : wr.cell? ⟨fb0,fo0 + i * 3 + 1,none⟩ = some (.slice po pk pc) := HB.out.cell' (by simpa using hcc 1 _ rfl)
     have d2 : wr.cell? ⟨fb0,fo0 + i * 3 + 2,none⟩ = some (.int .i64 j) := HB.out.cell' (by simpa using hcc 2 _ rfl)
     obtain ⟨z0,z1⟩ := rts_lt L 0 [] rs (by simp) (fun z hz => by cases hz) HX.out rs[i] (List.getElem_mem h1)
     obtain ⟨x,hx⟩ : ∃ x,F[i] = x := ⟨_,rfl⟩
     obtain ⟨rz,hrz⟩ : ∃ rz,rs[i] = rz := ⟨_,rfl⟩
     rw [hx] at hv g1 g2
     rw [hrz] at g1 g2 z0 z1 e1
     obtain ⟨q,hq⟩ : ∃ q : Nat,rz = (q : Int) := ⟨rz.toNat,by omega⟩
     have hqL : q < L.length := by omega
     have hqn : q < n := by rw [← HA2.out.1]; exact hqL
     obtain ⟨nb,nf,rfl,hnc⟩ := nd_kind HA2.out (by omega)
     have e3 := HB.out.cell' (hnc q hqL)
     obtain ⟨kd,hkd⟩ : ∃ kd,L[q].k = kd := ⟨_,rfl⟩
     have hka : kindAt L rz = kd := by rw [← hkd,hq]; unfold kindAt; rw [Int.toNat_natCast,List.getElem?_eq_getElem hqL]
     rw [hkd] at e3
     have e2 := HB.out.cell' c0
     have es := hv.s
     have ej := hv.j
     dsimp only at es ej
     subst es ej
     obtain ⟨fb,hfb⟩ : ∃ fb,x.body = fb := ⟨_,rfl⟩
     rw [hfb] at d2
     have hps := karg_at hv.ps
     dsimp only at hps
     obtain ⟨U,hU⟩ : ∃ U,wr.alloc (.cells #[.string ⟨x.name.toArray⟩,.slice po pk pc,.int .i64 fb] 61) = U := ⟨_,rfl⟩
     have BU : Bel wr U := by rw [← hU]; exact Bel.alloc (Bel.refl wr) _
     obtain ⟨y0,y1,y2⟩ : U.cell? ⟨wr.heap.size,0,none⟩ = some (.string ⟨x.name.toArray⟩) ∧ U.cell? ⟨wr.heap.size,1,none⟩ = some (.slice po pk pc) ∧ U.cell? ⟨wr.heap.size,2,none⟩ = some (.int .i64 fb) := by
      rw [← hU]
      exact ⟨World.cell?_alloc_new ..,World.cell?_alloc_new ..,World.cell?_alloc_new ..⟩
     have HBU := Lib.hid (Bel.trans HB.out BU)
     have e1 := BU.cell' e1
     have e2 := BU.cell' e2
     have e3 := BU.cell' e3
     have hgd : goodF L rz x = (decide (fb = rz) && (decide (kd = 19) && (nameB x.name && !(x.params.any fun p => !nameB p)))) := by unfold goodF; rw [hka,hfb]
     have G1 := Lib.hid g1
     have G2 := Lib.hid g2
     have hpk : pk ≤ 4611686018427387904 := by rw [← hps.1,← hx]; exact HWF.out _ (List.getElem_mem h2)
     have HN := Lib.hid (fun W (B : Bel U W) => isName_any x.name W ((HM2.out.on HBU.out).on B))
     have HS := Lib.hid (fun W (B : Bel U W) => str_has (F := 86) #[] ent_noName x.params (fun p => !nameB p) pk pc po hpk W hps.1 (fun h0 => (let ⟨b,off,e,k⟩ := hps.2 h0; ⟨b,off,e,fun a ha => B.cell' (HBU.out.cell' (k a ha))⟩)) (fun a ha => ask_noName W (((HM2.out.on HBU.out).on B)) _))
     have hq0 : (0 : Int) ≤ (q : Int) := by omega
     have hqi : (q : Int) < (n : Int) := by omega
     have hii : (i : Int) < (m : Int) := by omega
     clear g1 g2 hcs hcc hrc hnc hv hkd hka hx hrz hfb hps BU c0 z0 z1
     subst hq
     by_cases hne : fb = (q : Int)
     ·subst hne
      by_cases hkd : kd = 19
      ·subst hkd
       go_wp2_with fail
       refine wp_region_held_drew (S := fun W => W.cell? ⟨wr.heap.size,2,none⟩ = some (.int .i64 (q : Int)) ∧ W.cell? ⟨rb,ro + i,none⟩ = some (.int .i64 (q : Int)) ∧ W.cell? ⟨w.heap.size,0,none⟩ = some (.slice (some ⟨nb,nf,none⟩) n nc) ∧ W.cell? ⟨nb,nf + q * 5,none⟩ = some (.int .i64 19)) (by kernel_rfl) ⟨y2,e1,e2,e3⟩ (fun hH => ?_)
       refine tk1 (i := 0) (d := 31) (v := ?_) rfl rfl ?_ ?_
       rotate_left 1
       ·rintro w ⟨z0,z1,z2,z3⟩
        go_simp
        all_goals first | with_reducible rfl | simp []
       try simp only [Act.put,List.setIfInBounds_toArray,List.set_cons_zero,List.set_cons_succ]
       refine tk1 (i := 1) (d := 32) (v := ?_) rfl rfl ?_ ?_
       rotate_left 1
       ·rintro w ⟨z0,z1,z2,z3⟩
        go_simp
        all_goals first | with_reducible rfl | simp []
       try simp only [Act.put,List.setIfInBounds_toArray,List.set_cons_zero,List.set_cons_succ]
       refine tk1 (i := 2) (d := 33) (v := ?_) rfl rfl ?_ ?_
       rotate_left 1
       ·rintro w ⟨z0,z1,z2,z3⟩
        go_simp
        all_goals first | with_reducible rfl | simp []
       try simp only [Act.put,List.setIfInBounds_toArray,List.set_cons_zero,List.set_cons_succ]
       refine tk1 (i := 3) (d := 34) (v := ?_) rfl rfl ?_ ?_
       rotate_left 1
       ·rintro w ⟨z0,z1,z2,z3⟩
        go_simp
        all_goals first | with_reducible rfl | simp []
       try simp only [Act.put,List.setIfInBounds_toArray,List.set_cons_zero,List.set_cons_succ]
       refine tk1 (i := 4) (d := 35) (v := ?_) rfl rfl ?_ ?_
       rotate_left 1
       ·rintro w ⟨z0,z1,z2,z3⟩
        go_simp
        all_goals first | with_reducible rfl | simp []
       try simp only [Act.put,List.setIfInBounds_toArray,List.set_cons_zero,List.set_cons_succ]
       refine tk1 (i := 5) (d := 36) (v := ?_) rfl rfl ?_ ?_
       rotate_left 1
       ·rintro w ⟨z0,z1,z2,z3⟩
        go_simp
        all_goals first | with_reducible rfl | simp []
       try simp only [Act.put,List.setIfInBounds_toArray,List.set_cons_zero,List.set_cons_succ]
       refine tk1 (i := 6) (d := 37) (v := .bool false) rfl rfl ?_ ?_
       ·rintro w ⟨z0,z1,z2,z3⟩
        go_simp
        all_goals first | with_reducible rfl | simp []
       try simp only [Act.put,List.setIfInBounds_toArray,List.set_cons_zero,List.set_cons_succ]
       refine tk1 (i := 7) (d := 38) (v := ?_) rfl rfl ?_ ?_
       rotate_left 1
       ·rintro w ⟨z0,z1,z2,z3⟩
        go_simp
        all_goals first | with_reducible rfl | simp []
       try simp only [Act.put,List.setIfInBounds_toArray,List.set_cons_zero,List.set_cons_succ]
       refine tk1 (i := 8) (d := 39) (v := ?_) rfl rfl ?_ ?_
       rotate_left 1
       ·rintro w ⟨z0,z1,z2,z3⟩
        go_simp
        all_goals first | with_reducible rfl | simp []
       try simp only [Act.put,List.setIfInBounds_toArray,List.set_cons_zero,List.set_cons_succ]
       refine tk1 (i := 9) (d := 40) (v := ?_) rfl rfl ?_ ?_
       rotate_left 1
       ·rintro w ⟨z0,z1,z2,z3⟩
        go_simp
        all_goals first | with_reducible rfl | simp []
       try simp only [Act.put,List.setIfInBounds_toArray,List.set_cons_zero,List.set_cons_succ]
       refine tk1 (i := 10) (d := 41) (v := ?_) rfl rfl ?_ ?_
       rotate_left 1
       ·rintro w ⟨z0,z1,z2,z3⟩
        go_simp
        all_goals first | with_reducible rfl | simp []
       try simp only [Act.put,List.setIfInBounds_toArray,List.set_cons_zero,List.set_cons_succ]
       refine tk1 (i := 11) (d := 42) (v := ?_) rfl rfl ?_ ?_
       rotate_left 1
       ·rintro w ⟨z0,z1,z2,z3⟩
        go_simp
        all_goals first | with_reducible rfl | simp []
       try simp only [Act.put,List.setIfInBounds_toArray,List.set_cons_zero,List.set_cons_succ]
       refine tk1 (i := 12) (d := 43) (v := ?_) rfl rfl ?_ ?_
       rotate_left 1
       ·rintro w ⟨z0,z1,z2,z3⟩
        go_simp
        all_goals first | with_reducible rfl | simp []
       try simp only [Act.put,List.setIfInBounds_toArray,List.set_cons_zero,List.set_cons_succ]
       refine tk1 (i := 13) (d := 44) (v := ?_) rfl rfl ?_ ?_
       rotate_left 1
       ·rintro w ⟨z0,z1,z2,z3⟩
        go_simp
        all_goals first | with_reducible rfl | simp []
       try simp only [Act.put,List.setIfInBounds_toArray,List.set_cons_zero,List.set_cons_succ]
       refine tk1 (i := 14) (d := 45) (v := ?_) rfl rfl ?_ ?_
       rotate_left 1
       ·rintro w ⟨z0,z1,z2,z3⟩
        go_simp
        all_goals first | with_reducible rfl | simp []
       try simp only [Act.put,List.setIfInBounds_toArray,List.set_cons_zero,List.set_cons_succ]
       refine tk1 (i := 15) (d := 46) (v := .bool false) rfl rfl ?_ ?_
       ·rintro w ⟨z0,z1,z2,z3⟩
        go_simp
        all_goals first | with_reducible rfl | simp []
       try simp only [Act.put,List.setIfInBounds_toArray,List.set_cons_zero,List.set_cons_succ]
       refine tk1 (i := 16) (d := 47) (v := ?_) rfl rfl ?_ ?_
       rotate_left 1
       ·rintro w ⟨z0,z1,z2,z3⟩
        go_simp
        all_goals first | with_reducible rfl | simp []
       try simp only [Act.put,List.setIfInBounds_toArray,List.set_cons_zero,List.set_cons_succ]
       refine wpAnyH_done (by kernel_rfl) ?_ _
       clear hH
       generalize nameB x.name = bn at *
       generalize (x.params.any fun p => !nameB p) = bp at *
       have f1 : U.drew.cell? ⟨wr.heap.size,1,none⟩ = some (.slice po pk pc) := y1
       have f0 : U.drew.cell? ⟨wr.heap.size,0,none⟩ = some (.string ⟨x.name.toArray⟩) := y0
       have HN2 := Lib.hid (HN.out U.drew (Below.drew (Bel.refl U)))
       have HC : Hid (Bel wr U.drew) := Lib.hid (Below.drew (by rw [← hU]; exact Bel.alloc (Bel.refl wr) _))
       have HBD := Lib.hid (Bel.trans HB.out HC.out)
       clear y0 y1 y2 e1 e2 e3
       cases bn with
       | false =>
        have hz : Hid (b = false) := Lib.hid (G1.out (by rw [hgd]; simp))
        go_wp2_with fail
        refine HN2.out.mono ?_
        rintro e w3 ⟨rfl,g⟩
        have f2 := g.cell' f1
        have Hg := Lib.hid g
        clear g
        go_wp2_with fail
        go_ret
        rw [hz.out]
        exact ⟨rfl,Bel.trans G.out (Bel.trans HBD.out Hg.out)⟩
       | true =>
        go_wp2_with fail
        refine HN2.out.mono ?_
        rintro e w3 ⟨rfl,g⟩
        have f2 := g.cell' f1
        have HS2 := Lib.hid (HS.out w3 (Bel.trans (Below.drew (Bel.refl U)) g))
        have Hg := Lib.hid g
        clear g
        cases bp with
        | true =>
         have hz : Hid (b = false) := Lib.hid (G1.out (by rw [hgd]; simp))
         go_wp2_with fail
         refine HS2.out.mono ?_
         rintro e w4 ⟨rfl,g⟩
         have Hg2 := Lib.hid g
         clear g
         go_wp2_with fail
         go_ret
         rw [hz.out]
         exact ⟨rfl,Bel.trans G.out (Bel.trans HBD.out (Bel.trans Hg.out Hg2.out))⟩
        | false =>
         have hgo := Lib.hid (G2.out (by rw [hgd]; simp))
         go_wp2_with fail
         refine HS2.out.mono ?_
         rintro e w4 ⟨rfl,g⟩
         have Hg2 := Lib.hid g
         clear g
         go_wp2_with fail
         go_round
         case rel => exact ⟨i + 1,by go_num,by omega,hgo,Lib.hid (Bel.trans HBD.out (Bel.trans Hg.out Hg2.out))⟩
         case measure => simp [intOf]; omega
      ·have hz : Hid (b = false) := Lib.hid (G1.out (by rw [hgd,decide_eq_false hkd]; simp))
       go_wp2_with fail
       refine wp_region_held_drew (S := fun W => W.cell? ⟨wr.heap.size,2,none⟩ = some (.int .i64 (q : Int)) ∧ W.cell? ⟨rb,ro + i,none⟩ = some (.int .i64 (q : Int)) ∧ W.cell? ⟨w.heap.size,0,none⟩ = some (.slice (some ⟨nb,nf,none⟩) n nc) ∧ W.cell? ⟨nb,nf + q * 5,none⟩ = some (.int .i64 kd)) (by kernel_rfl) ⟨y2,e1,e2,e3⟩ (fun hH => ?_)
       refine tk1 (i := 0) (d := 31) (v := ?_) rfl rfl ?_ ?_
       rotate_left 1
       ·rintro w ⟨z0,z1,z2,z3⟩
        go_simp
        all_goals first | with_reducible rfl | simp []
       try simp only [Act.put,List.setIfInBounds_toArray,List.set_cons_zero,List.set_cons_succ]
       refine tk1 (i := 1) (d := 32) (v := ?_) rfl rfl ?_ ?_
       rotate_left 1
       ·rintro w ⟨z0,z1,z2,z3⟩
        go_simp
        all_goals first | with_reducible rfl | simp []
       try simp only [Act.put,List.setIfInBounds_toArray,List.set_cons_zero,List.set_cons_succ]
       refine tk1 (i := 2) (d := 33) (v := ?_) rfl rfl ?_ ?_
       rotate_left 1
       ·rintro w ⟨z0,z1,z2,z3⟩
        go_simp
        all_goals first | with_reducible rfl | simp []
       try simp only [Act.put,List.setIfInBounds_toArray,List.set_cons_zero,List.set_cons_succ]
       refine tk1 (i := 3) (d := 34) (v := ?_) rfl rfl ?_ ?_
       rotate_left 1
       ·rintro w ⟨z0,z1,z2,z3⟩
        go_simp
        all_goals first | with_reducible rfl | simp []
       try simp only [Act.put,List.setIfInBounds_toArray,List.set_cons_zero,List.set_cons_succ]
       refine tk1 (i := 4) (d := 35) (v := ?_) rfl rfl ?_ ?_
       rotate_left 1
       ·rintro w ⟨z0,z1,z2,z3⟩
        go_simp
        all_goals first | with_reducible rfl | simp []
       try simp only [Act.put,List.setIfInBounds_toArray,List.set_cons_zero,List.set_cons_succ]
       refine tk1 (i := 5) (d := 36) (v := ?_) rfl rfl ?_ ?_
       rotate_left 1
       ·rintro w ⟨z0,z1,z2,z3⟩
        go_simp
        all_goals first | with_reducible rfl | simp []
       try simp only [Act.put,List.setIfInBounds_toArray,List.set_cons_zero,List.set_cons_succ]
       refine tk1 (i := 6) (d := 37) (v := .bool false) rfl rfl ?_ ?_
       ·rintro w ⟨z0,z1,z2,z3⟩
        go_simp
        all_goals first | with_reducible rfl | simp []
       try simp only [Act.put,List.setIfInBounds_toArray,List.set_cons_zero,List.set_cons_succ]
       refine tk1 (i := 7) (d := 38) (v := ?_) rfl rfl ?_ ?_
       rotate_left 1
       ·rintro w ⟨z0,z1,z2,z3⟩
        go_simp
        all_goals first | with_reducible rfl | simp []
       try simp only [Act.put,List.setIfInBounds_toArray,List.set_cons_zero,List.set_cons_succ]
       refine tk1 (i := 8) (d := 39) (v := ?_) rfl rfl ?_ ?_
       rotate_left 1
       ·rintro w ⟨z0,z1,z2,z3⟩
        go_simp
        all_goals first | with_reducible rfl | simp []
       try simp only [Act.put,List.setIfInBounds_toArray,List.set_cons_zero,List.set_cons_succ]
       refine tk1 (i := 9) (d := 40) (v := ?_) rfl rfl ?_ ?_
       rotate_left 1
       ·rintro w ⟨z0,z1,z2,z3⟩
        go_simp
        all_goals first | with_reducible rfl | simp []
       try simp only [Act.put,List.setIfInBounds_toArray,List.set_cons_zero,List.set_cons_succ]
       refine tk1 (i := 10) (d := 41) (v := ?_) rfl rfl ?_ ?_
       rotate_left 1
       ·rintro w ⟨z0,z1,z2,z3⟩
        go_simp
        all_goals first | with_reducible rfl | simp []
       try simp only [Act.put,List.setIfInBounds_toArray,List.set_cons_zero,List.set_cons_succ]
       refine tk1 (i := 11) (d := 42) (v := ?_) rfl rfl ?_ ?_
       rotate_left 1
       ·rintro w ⟨z0,z1,z2,z3⟩
        go_simp
        all_goals first | with_reducible rfl | simp []
       try simp only [Act.put,List.setIfInBounds_toArray,List.set_cons_zero,List.set_cons_succ]
       refine tk1 (i := 12) (d := 43) (v := ?_) rfl rfl ?_ ?_
       rotate_left 1
       ·rintro w ⟨z0,z1,z2,z3⟩
        go_simp
        all_goals first | with_reducible rfl | simp []
       try simp only [Act.put,List.setIfInBounds_toArray,List.set_cons_zero,List.set_cons_succ]
       refine tk1 (i := 13) (d := 44) (v := ?_) rfl rfl ?_ ?_
       rotate_left 1
       ·rintro w ⟨z0,z1,z2,z3⟩
        go_simp
        all_goals first | with_reducible rfl | simp []
       try simp only [Act.put,List.setIfInBounds_toArray,List.set_cons_zero,List.set_cons_succ]
       refine tk1 (i := 14) (d := 45) (v := ?_) rfl rfl ?_ ?_
       rotate_left 1
       ·rintro w ⟨z0,z1,z2,z3⟩
        go_simp
        all_goals first | with_reducible rfl | simp []
       try simp only [Act.put,List.setIfInBounds_toArray,List.set_cons_zero,List.set_cons_succ]
       refine tk1 (i := 15) (d := 46) (v := .bool true) rfl rfl ?_ ?_
       ·rintro w ⟨z0,z1,z2,z3⟩
        go_simp
        all_goals first | with_reducible rfl | simp [hkd]
       try simp only [Act.put,List.setIfInBounds_toArray,List.set_cons_zero,List.set_cons_succ]
       refine tk1 (i := 16) (d := 47) (v := ?_) rfl rfl ?_ ?_
       rotate_left 1
       ·rintro w ⟨z0,z1,z2,z3⟩
        go_simp
        all_goals first | with_reducible rfl | simp []
       try simp only [Act.put,List.setIfInBounds_toArray,List.set_cons_zero,List.set_cons_succ]
       refine wpAnyH_done (by kernel_rfl) ?_ _
       clear hH
       go_wp2_with fail
       go_ret
       rw [hz.out]
       exact ⟨rfl,Bel.trans G.out (Bel.drewN HBU.out _)⟩
     ·have hz : Hid (b = false) := Lib.hid (G1.out (by rw [hgd,decide_eq_false hne]; rfl))
      go_wp2_with fail
      refine wp_region_held_drew (S := fun W => W.cell? ⟨wr.heap.size,2,none⟩ = some (.int .i64 fb) ∧ W.cell? ⟨rb,ro + i,none⟩ = some (.int .i64 (q : Int)) ∧ W.cell? ⟨w.heap.size,0,none⟩ = some (.slice (some ⟨nb,nf,none⟩) n nc) ∧ W.cell? ⟨nb,nf + q * 5,none⟩ = some (.int .i64 kd)) (by kernel_rfl) ⟨y2,e1,e2,e3⟩ (fun hH => ?_)
      refine tk1 (i := 0) (d := 31) (v := ?_) rfl rfl ?_ ?_
      rotate_left 1
      ·rintro w ⟨z0,z1,z2,z3⟩
       go_simp
       all_goals first | with_reducible rfl | simp []
      try simp only [Act.put,List.setIfInBounds_toArray,List.set_cons_zero,List.set_cons_succ]
      refine tk1 (i := 1) (d := 32) (v := ?_) rfl rfl ?_ ?_
      rotate_left 1
      ·rintro w ⟨z0,z1,z2,z3⟩
       go_simp
       all_goals first | with_reducible rfl | simp []
      try simp only [Act.put,List.setIfInBounds_toArray,List.set_cons_zero,List.set_cons_succ]
      refine tk1 (i := 2) (d := 33) (v := ?_) rfl rfl ?_ ?_
      rotate_left 1
      ·rintro w ⟨z0,z1,z2,z3⟩
       go_simp
       all_goals first | with_reducible rfl | simp []
      try simp only [Act.put,List.setIfInBounds_toArray,List.set_cons_zero,List.set_cons_succ]
      refine tk1 (i := 3) (d := 34) (v := ?_) rfl rfl ?_ ?_
      rotate_left 1
      ·rintro w ⟨z0,z1,z2,z3⟩
       go_simp
       all_goals first | with_reducible rfl | simp []
      try simp only [Act.put,List.setIfInBounds_toArray,List.set_cons_zero,List.set_cons_succ]
      refine tk1 (i := 4) (d := 35) (v := ?_) rfl rfl ?_ ?_
      rotate_left 1
      ·rintro w ⟨z0,z1,z2,z3⟩
       go_simp
       all_goals first | with_reducible rfl | simp []
      try simp only [Act.put,List.setIfInBounds_toArray,List.set_cons_zero,List.set_cons_succ]
      refine tk1 (i := 5) (d := 36) (v := ?_) rfl rfl ?_ ?_
      rotate_left 1
      ·rintro w ⟨z0,z1,z2,z3⟩
       go_simp
       all_goals first | with_reducible rfl | simp []
      try simp only [Act.put,List.setIfInBounds_toArray,List.set_cons_zero,List.set_cons_succ]
      refine tk1 (i := 6) (d := 37) (v := .bool true) rfl rfl ?_ ?_
      ·rintro w ⟨z0,z1,z2,z3⟩
       go_simp
       all_goals first | with_reducible rfl | simp [hne]
      try simp only [Act.put,List.setIfInBounds_toArray,List.set_cons_zero,List.set_cons_succ]
      refine tk1 (i := 7) (d := 38) (v := ?_) rfl rfl ?_ ?_
      rotate_left 1
      ·rintro w ⟨z0,z1,z2,z3⟩
       go_simp
       all_goals first | with_reducible rfl | simp []
      try simp only [Act.put,List.setIfInBounds_toArray,List.set_cons_zero,List.set_cons_succ]
      refine tk0 (i := 8) (d := 39) rfl rfl ?_
      try simp only [Act.put,List.setIfInBounds_toArray,List.set_cons_zero,List.set_cons_succ]
      refine tk0 (i := 9) (d := 40) rfl rfl ?_
      try simp only [Act.put,List.setIfInBounds_toArray,List.set_cons_zero,List.set_cons_succ]
      refine tk0 (i := 10) (d := 41) rfl rfl ?_
      try simp only [Act.put,List.setIfInBounds_toArray,List.set_cons_zero,List.set_cons_succ]
      refine tk0 (i := 11) (d := 42) rfl rfl ?_
      try simp only [Act.put,List.setIfInBounds_toArray,List.set_cons_zero,List.set_cons_succ]
      refine tk0 (i := 12) (d := 43) rfl rfl ?_
      try simp only [Act.put,List.setIfInBounds_toArray,List.set_cons_zero,List.set_cons_succ]
      refine tk0 (i := 13) (d := 44) rfl rfl ?_
      try simp only [Act.put,List.setIfInBounds_toArray,List.set_cons_zero,List.set_cons_succ]
      refine tk0 (i := 14) (d := 45) rfl rfl ?_
      try simp only [Act.put,List.setIfInBounds_toArray,List.set_cons_zero,List.set_cons_succ]
      refine tk0 (i := 15) (d := 46) rfl rfl ?_
      try simp only [Act.put,List.setIfInBounds_toArray,List.set_cons_zero,List.set_cons_succ]
      refine tk1 (i := 16) (d := 47) (v := ?_) rfl rfl ?_ ?_
      rotate_left 1
      ·rintro w ⟨z0,z1,z2,z3⟩
       go_simp
       all_goals first | with_reducible rfl | simp []
      try simp only [Act.put,List.setIfInBounds_toArray,List.set_cons_zero,List.set_cons_succ]
      refine wpAnyH_done (by kernel_rfl) ?_ _
      clear hH
      go_wp2_with fail
      go_ret
      rw [hz.out]
      exact ⟨rfl,Bel.trans G.out (Bel.drewN HBU.out _)⟩
    ·have hz : Hid (b = true) := Lib.hid (by
      have := HG.out
      rw [List.drop_eq_nil_of_le (by rw [Hrs.out]; exact him),goodFs] at this
      ·exact this.symm
      ·intro _ _ _ _ h; cases h)
     obtain rfl : i = m := by omega
     go_wp2_with fail
     go_ret
     rw [hz.out]
     exact ⟨rfl,Bel.trans G.out HB.out⟩
  ·have hz : Hid (b = false) := Lib.hid (by rw [HP.out,Hrs.out,HLF.out,decide_eq_false hmk,Bool.false_and])
   have hne : ¬ ((m : Int) = (k : Int)) := by omega
   go_enter Tryz.func42,Tryz.ntmps42
   go_wp2_with fail
   refine HRt.out.mono ?_
   rintro e w2 ⟨⟨o,c,rfl,hR⟩,g⟩
   have c0 := g.cell' v0
   have c1 := g.cell' v1
   have G := Lib.hid (Bel.trans HBV.out g)
   clear g v0 v1 hR
   go_wp2_with fail
   go_ret
   exact ⟨by rw [hz.out]; rfl,G.out⟩

def kidStep (i : Nat) (f : Nat → Int) (z : Int) : Nat → Int := upd f i (max (f i) (f z.toNat))
def nestL : Nat → (Nat → Int) → Int → List Nd → Int
 | _,_,g,[] => g
 | i,f,g,x :: r => nestL (i + 1) (upd (x.kids.foldl (kidStep i) f) i (x.kids.foldl (kidStep i) f i + 1)) (max g (x.kids.foldl (kidStep i) f i + 1)) r
theorem info_intz : (Tryz.prog.info? 3).map (fun i => (i.zero,i.size,i.bytes)) = some (some (.int .i64 0),1,8) := by kernel_rfl
theorem make_intz (n : Nat) (hn : n ≤ 100000) (W : World) : (Instr.makeSlice 38 (.int .i64 (n : Int)) (.int .i64 (n : Int))).run Tryz.prog W = .ok (.slice (some ⟨W.heap.size,0,none⟩) n n) (W.alloc (.cells (madeCells #[.int .i64 0] n) 3)) := by
 obtain ⟨i0,hi,hz0,hz1,hz2⟩ := info_parts info_intz
 have h := run_make (P := Tryz.prog) (w := W) 38 3 i0 _ Tryz.underlying38 hi hz0 .i64 .i64 (n : Int) (n : Int) (by omega) (by omega) (by rw [hz2]; omega) (by omega)
 rw [h,hz1]
 simp only [Int.toNat_natCast,Nat.mul_one]
 rfl
theorem nesting_any (no : Option Addr) (n nc : Nat) (L : List Nd) (hn : n ≤ 100000) (hk : ∀ x ∈ L,∀ z ∈ x.kids,0 ≤ z ∧ z < (n : Int)) (hwf : WfN L) (w : World) (hA : NArg w no n L) :
  Calls Tryz.prog 44 #[.slice no n nc] w fun e w' => e = .returned (.int .i64 (nestL 0 (fun _ => 0) 0 L)) ∧ Bel w w' := by
 obtain ⟨X,hX⟩ : ∃ X,nestL 0 (fun _ => 0) 0 L = X := ⟨_,rfl⟩
 rw [hX]
 have hmk := make_intz n hn w
 obtain ⟨W,hW⟩ : ∃ W,w.alloc (.cells (madeCells #[.int .i64 0] n) 3) = W := ⟨_,rfl⟩
 have B : Bel w W := by rw [← hW]; exact Bel.alloc (Bel.refl w) _
 have r0 : Row w.heap.size n (fun _ => 0) W := by rw [← hW]; exact made_row w n _
 rw [hW] at hmk
 have HB := Lib.hid B
 have HR0 := Lib.hid r0
 have HX := Lib.hid hX
 have HA := Lib.hid hA
 have HK := Lib.hid hk
 have HW := Lib.hid hwf
 have HLn := Lib.hid hA.1
 clear hA hk B r0 hW hX hwf
 go_enter Tryz.func44,Tryz.ntmps44
 go_wp2_with fail
 go_loopw [3,14] (fun gv iv wr => ∃ (i : Nat) (f : Nat → Int) (gr : Int),gv = .int .i64 gr ∧ iv = .int .i64 (i : Int) ∧ i ≤ n ∧ Hid (Row w.heap.size n f wr) ∧ Hid (Bel w wr) ∧ Hid (∀ j,0 ≤ f j ∧ f j ≤ (i : Int)) ∧ Hid (nestL i f gr (L.drop i) = X)) (fun _ iv _ => n - (intOf iv).toNat)
 case atStart => exact ⟨0,fun _ => 0,0,rfl,rfl,Nat.zero_le _,HR0,HB,Lib.hid (fun j => ⟨Int.le_refl _,Int.le_refl _⟩),HX⟩
 case round =>
  obtain ⟨i,f,gr,rfl,rfl,hi,HRow,HBr,Hf,HG⟩ := hrel
  rename World => wr
  rcases Nat.lt_or_ge i n with hin | hin
  ·have hiL : i < L.length := by rw [HLn.out]; exact hin
   obtain ⟨b,off,rfl,hcs⟩ := HA.out.2 (by omega)
   obtain ⟨v,hv,hcc⟩ := hcs i hiL
   have c0 : wr.cell? ⟨b,off + i * 5,none⟩ = some (.int .i64 v.k) := HBr.out.cell' (by simpa using hcc 0 _ rfl)
   have c1 : wr.cell? ⟨b,off + i * 5 + 1,none⟩ = some (.string ⟨v.s.toArray⟩) := HBr.out.cell' (by simpa using hcc 1 _ rfl)
   have c2 : wr.cell? ⟨b,off + i * 5 + 2,none⟩ = some (.int .i64 v.i) := HBr.out.cell' (by simpa using hcc 2 _ rfl)
   have c3 : wr.cell? ⟨b,off + i * 5 + 3,none⟩ = some (.slice v.ko v.kn v.kc) := HBr.out.cell' (by simpa using hcc 3 _ rfl)
   have c4 : wr.cell? ⟨b,off + i * 5 + 4,none⟩ = some (.slice v.jo v.jn v.jc) := HBr.out.cell' (by simpa using hcc 4 _ rfl)
   obtain ⟨x,hx⟩ : ∃ x,L[i] = x := ⟨_,rfl⟩
   rw [hx] at hv
   have hxm : x ∈ L := by rw [← hx]; exact List.getElem_mem hiL
   obtain ⟨w1,w2,w3⟩ := HW.out x hxm
   have hkz := HK.out x hxm
   have hdr : L.drop i = x :: L.drop (i + 1) := by rw [List.drop_eq_getElem_cons hiL,hx]
   have hG := HG.out
   rw [hdr,nestL] at hG
   obtain ⟨k,s,z,ko,kn,kc,jo,jn,jc⟩ := v
   have ejl : x.kids.length = jn := hv.kids.1
   have HZ := Lib.hid hv.kids
   dsimp only at c0 c1 c2 c3 c4 HZ ejl
   obtain ⟨F1,hF1⟩ : ∃ F1,x.kids.foldl (kidStep i) f = F1 := ⟨_,rfl⟩
   rw [hF1] at hG
   obtain ⟨V,hV⟩ : ∃ V,wr.alloc (.cells #[.int .i64 k,.string ⟨s.toArray⟩,.int .i64 z,.slice ko kn kc,.slice jo jn jc] 65) = V := ⟨_,rfl⟩
   have BV : Bel wr V := by rw [← hV]; exact Bel.alloc (Bel.refl wr) _
   obtain ⟨y0,y1,y2,y3,y4⟩ : V.cell? ⟨wr.heap.size,0,none⟩ = some (.int .i64 k) ∧ V.cell? ⟨wr.heap.size,1,none⟩ = some (.string ⟨s.toArray⟩) ∧ V.cell? ⟨wr.heap.size,2,none⟩ = some (.int .i64 z) ∧ V.cell? ⟨wr.heap.size,3,none⟩ = some (.slice ko kn kc) ∧ V.cell? ⟨wr.heap.size,4,none⟩ = some (.slice jo jn jc) := by rw [← hV]; exact box5 wr _ _ _ _ _ _
   have HRV := Lib.hid (HRow.out.on BV)
   have HBV := Lib.hid (Bel.trans HBr.out BV)
   have HG1 := Lib.hid hG
   have HF1 := Lib.hid hF1
   have HEJ := Lib.hid ejl
   have HKZ := Lib.hid hkz
   have hjn : jn ≤ 4611686018427387904 := by omega
   clear hcs hcc hv hdr hG hF1 hkz ejl w1 w2 w3 BV
   go_wp2_with fail
   go_loopw [22] (fun kv Wk => ∃ (k : Nat) (f' : Nat → Int),kv = .int .i64 (k : Int) ∧ k ≤ jn ∧ Hid (Row w.heap.size n f' Wk) ∧ Hid (Bel w Wk) ∧ Hid (∀ j,0 ≤ f' j ∧ f' j ≤ (i : Int)) ∧ Hid ((x.kids.drop k).foldl (kidStep i) f' = F1)) (fun kv _ => jn - (intOf kv).toNat)
   case atStart => exact ⟨0,f,rfl,Nat.zero_le _,HRV,HBV,Hf,HF1⟩
   case round =>
    obtain ⟨k,f',rfl,hk,HRk,HBk,Hfk,HFk⟩ := hrel
    rename World => Wk
    rcases Nat.lt_or_ge k jn with hkj | hkj
    ·obtain ⟨b3,off3,rfl,hzc⟩ := za_addr HZ.out (by omega)
     have hkk : k < x.kids.length := by rw [HEJ.out]; exact hkj
     obtain ⟨z0,z1⟩ := HKZ.out x.kids[k] (List.getElem_mem hkk)
     have d0 := HBk.out.cell' (hzc k hkk)
     obtain ⟨q,hq⟩ : ∃ q : Nat,x.kids[k] = (q : Int) := ⟨x.kids[k].toNat,by omega⟩
     rw [hq] at d0
     have hqn : (q : Int) < (n : Int) := by omega
     have hq0 : (0 : Int) ≤ (q : Int) := by omega
     obtain ⟨r1,r2⟩ := HRk.out i hin
     obtain ⟨r3,r4⟩ := HRk.out q (by omega)
     have HF2 : Hid ((x.kids.drop (k + 1)).foldl (kidStep i) (upd f' i (max (f' i) (f' q))) = F1) := Lib.hid (by
      have := HFk.out
      rw [List.drop_eq_getElem_cons hkk,List.foldl_cons,hq] at this
      unfold kidStep at this ⊢
      rw [Int.toNat_natCast] at this
      exact this)
     have HR2 := Lib.hid (HRk.out.set (v := max (f' i) (f' q)) hin)
     have HB2 := Lib.hid (Bel.setCell HBk.out (p := ⟨w.heap.size,i,none⟩) (Nat.le_refl _) (.int .i64 (max (f' i) (f' q))))
     have Hf2 : Hid (∀ j,0 ≤ upd f' i (max (f' i) (f' q)) j ∧ upd f' i (max (f' i) (f' q)) j ≤ (i : Int)) := Lib.hid (fun j => by
      have h1 := Hfk.out i
      have h2 := Hfk.out q
      have h3 := Hfk.out j
      unfold upd
      split <;> omega)
     generalize f' i = fi at *
     generalize f' q = fq at *
     clear hzc z0 z1 hq y0 y1 y2 y3 y4 c0 c1 c2 c3 c4
     go_wp2_with fail
     go_region_law (fail)
     all_goals
      go_wp2_with fail
      go_round
      case rel => exact ⟨k + 1,_,by go_num,by omega,HR2,Lib.hid (Below.drew HB2.out),Hf2,HF2⟩
      case measure => simp [intOf]; omega
    ·obtain rfl : k = jn := by omega
     have HF2 : Hid (f' = F1) := Lib.hid (by
      have := HFk.out
      rw [List.drop_eq_nil_of_le (by rw [HEJ.out]; exact hkj),List.foldl_nil] at this
      exact this)
     obtain ⟨r1,r2⟩ := HRk.out i hin
     obtain ⟨hl,hu⟩ := Hfk.out i
     have hG3 := HG1.out
     rw [← HF2.out] at hG3
     have HR2 := Lib.hid (HRk.out.set (v := f' i + 1) hin)
     have HB2 := Lib.hid (Bel.setCell HBk.out (p := ⟨w.heap.size,i,none⟩) (Nat.le_refl _) (.int .i64 (f' i + 1)))
     have Hf2 : Hid (∀ j,0 ≤ upd f' i (f' i + 1) j ∧ upd f' i (f' i + 1) j ≤ ((i + 1 : Nat) : Int)) := Lib.hid (fun j => by
      have h3 := Hfk.out j
      unfold upd
      split <;> omega)
     have HG3 := Lib.hid hG3
     generalize f' i = fi at *
     clear hG3 y0 y1 y2 y3 y4 c0 c1 c2 c3 c4
     go_wp2_with fail
     exact ⟨⟨i + 1,_,_,rfl,by go_num,by omega,HR2,HB2,Hf2,HG3⟩,by simp [intOf]; omega⟩
  ·have hz : Hid (gr = X) := Lib.hid (by
    have := HG.out
    rw [List.drop_eq_nil_of_le (by rw [HLn.out]; exact hin),nestL] at this
    exact this)
   obtain rfl : i = n := by omega
   go_wp2_with fail
   go_ret
   exact ⟨by rw [hz.out]; rfl,HBr.out⟩

theorem rts_kids {L : List Nd} : ∀ (r : List Nd) (i : Nat) (op rs : List Int),i + r.length = L.length → (∀ z ∈ op,0 ≤ z ∧ z < (L.length : Int)) → rts L i r op = some rs → ∀ x ∈ r,∀ z ∈ x.kids,0 ≤ z ∧ z < (L.length : Int)
 | [],i,op,rs,_,_,_ => fun x hx => by cases hx
 | y :: r,i,op,rs,h1,h2,h3 => by
  rw [rts] at h3
  rw [List.length_cons] at h1
  split at h3
  ·rename_i hk
   split at h3
   ·intro x hx z hz
    rcases List.mem_cons.1 hx with rfl | hx
    ·rw [← hk.2] at hz
     exact h2 z (List.mem_of_mem_drop hz)
    ·refine rts_kids r (i + 1) _ rs (by omega) (fun z hz => ?_) h3 x hx z hz
     rcases List.mem_append.1 hz with q | q
     ·exact h2 z (List.mem_of_mem_take q)
     ·rw [List.mem_singleton.1 q]
      omega
   ·cases h3
  ·cases h3
def chkE (L : List Nd) (F : List Fw) : Int := if 600 < L.length ∨ 16 < F.length then 3 else if properB L F = false then 1 else if (F.any fun f => decide (8 < f.params.length)) = true ∨ 32 < nestL 0 (fun _ => 0) 0 L then 3 else 0
theorem proper_kids {L : List Nd} {F : List Fw} (h : properB L F = true) : ∀ x ∈ L,∀ z ∈ x.kids,0 ≤ z ∧ z < (L.length : Int) := by
 unfold properB at h
 cases e : rts L 0 L [] with
 | none => rw [e] at h; cases h
 | some rs => exact rts_kids L 0 [] rs (by simp) (fun z hz => by cases hz) e
theorem check_any (no fo : Option Addr) (n nc k fc : Nat) (L : List Nd) (F : List Fw) (hk : k ≤ 4611686018427387904) (hn : n ≤ 4611686018427387904) (w : World) (hm : Lex.ML w) (hA : NArg w no n L) (hF : FArg w fo k F) (hwf : WfN L) (hwF : ∀ x ∈ F,x.params.length ≤ 4611686018427387904) :
  Calls Tryz.prog 12 #[.agg #[.slice no n nc,.slice fo k fc]] w fun e w' => e = .returned (.int .i64 (chkE L F)) ∧ Bel w w' := by
 obtain ⟨V,hV⟩ : ∃ V,w.alloc (.cells #[.slice no n nc,.slice fo k fc] 25) = V := ⟨_,rfl⟩
 have BV : Bel w V := by rw [← hV]; exact Bel.alloc (Bel.refl w) _
 obtain ⟨v0,v1⟩ : V.cell? ⟨w.heap.size,0,none⟩ = some (.slice no n nc) ∧ V.cell? ⟨w.heap.size,1,none⟩ = some (.slice fo k fc) := by
  rw [← hV]
  exact ⟨World.cell?_alloc_new ..,World.cell?_alloc_new ..⟩
 have HBV := Lib.hid BV
 have hLn := hA.1
 have hFk := hF.1
 by_cases h1 : 600 < n
 ·have hz : chkE L F = 3 := by unfold chkE; rw [if_pos (Or.inl (by omega))]
  have h1i : (600 : Int) < (n : Int) := by omega
  rw [hz]
  clear hA hF hwf hwF hz hLn hFk hm BV
  go_enter Tryz.func12,Tryz.ntmps12
  go_wp2_with fail
  go_ret
  exact ⟨rfl,HBV.out⟩
 ·have h1i : ¬ ((600 : Int) < (n : Int)) := by omega
  by_cases h2 : 16 < k
  ·have hz : chkE L F = 3 := by unfold chkE; rw [if_pos (Or.inr (by omega))]
   have h2i : (16 : Int) < (k : Int) := by omega
   rw [hz]
   clear hA hF hwf hwF hz hLn hFk hm BV
   go_enter Tryz.func12,Tryz.ntmps12
   go_wp2_with fail
   go_ret
   exact ⟨rfl,HBV.out⟩
  ·have h2i : ¬ ((16 : Int) < (k : Int)) := by omega
   have HPr := Lib.hid (proper_any no fo n nc k fc L F (by omega) hk V (hm.on BV) (hA.on BV) (hF.on BV) hwf hwF)
   have HMa := Lib.hid (fun W (B : Bel w W) => many_any fo k fc F hk W (hF.on B))
   have hz : chkE L F = if properB L F = false then 1 else if (F.any fun f => decide (8 < f.params.length)) = true ∨ 32 < nestL 0 (fun _ => 0) 0 L then 3 else 0 := by unfold chkE; rw [if_neg (by omega)]
   cases hp : properB L F with
   | false =>
    rw [hz,if_pos hp]
    rw [hp] at HPr
    clear hA hF hwf hwF hz hLn hFk hm BV hp HMa
    go_enter Tryz.func12,Tryz.ntmps12
    go_wp2_with fail
    refine HPr.out.mono ?_
    rintro e w2 ⟨rfl,g⟩
    have c0 := g.cell' v0
    have c1 := g.cell' v1
    have G := Lib.hid (Bel.trans HBV.out g)
    clear g v0 v1
    go_wp2_with fail
    go_ret
    exact ⟨rfl,G.out⟩
   | true =>
    have HNe := Lib.hid (fun W (B : Bel w W) => nesting_any no n nc L (by omega) (by rw [← hLn]; exact proper_kids hp) hwf W (hA.on B))
    rw [hz,if_neg (by rw [hp]; decide)]
    rw [hp] at HPr
    generalize (F.any fun f => decide (8 < f.params.length)) = bm at *
    generalize nestL 0 (fun _ => 0) 0 L = nl at *
    clear hA hF hwf hwF hz hLn hFk hm BV hp
    cases bm with
    | true =>
     rw [if_pos (Or.inl rfl)]
     clear HNe
     go_enter Tryz.func12,Tryz.ntmps12
     go_wp2_with fail
     refine HPr.out.mono ?_
     rintro e w2 ⟨rfl,g⟩
     have c0 := g.cell' v0
     have c1 := g.cell' v1
     have G := Lib.hid (Bel.trans HBV.out g)
     clear g v0 v1
     have HMa2 := Lib.hid (HMa.out w2 G.out)
     go_wp2_with fail
     refine HMa2.out.mono ?_
     rintro e w3 ⟨rfl,g⟩
     have d0 := g.cell' c0
     have d1 := g.cell' c1
     have G2 := Lib.hid (Bel.trans G.out g)
     clear g c0 c1
     go_wp2_with fail
     go_ret
     exact ⟨rfl,G2.out⟩
    | false =>
     by_cases h3 : 32 < nl
     ·rw [if_pos (Or.inr h3)]
      go_enter Tryz.func12,Tryz.ntmps12
      go_wp2_with fail
      refine HPr.out.mono ?_
      rintro e w2 ⟨rfl,g⟩
      have c0 := g.cell' v0
      have c1 := g.cell' v1
      have G := Lib.hid (Bel.trans HBV.out g)
      clear g v0 v1
      have HMa2 := Lib.hid (HMa.out w2 G.out)
      go_wp2_with fail
      refine HMa2.out.mono ?_
      rintro e w3 ⟨rfl,g⟩
      have d0 := g.cell' c0
      have d1 := g.cell' c1
      have G2 := Lib.hid (Bel.trans G.out g)
      clear g c0 c1
      have HNe2 := Lib.hid (HNe.out w3 G2.out)
      go_wp2_with fail
      refine HNe2.out.mono ?_
      rintro e w4 ⟨rfl,g⟩
      have G3 := Lib.hid (Bel.trans G2.out g)
      clear g
      go_wp2_with fail
      go_ret
      exact ⟨rfl,G3.out⟩
     ·rw [if_neg (by rintro (q | q); cases q; exact h3 q)]
      go_enter Tryz.func12,Tryz.ntmps12
      go_wp2_with fail
      refine HPr.out.mono ?_
      rintro e w2 ⟨rfl,g⟩
      have c0 := g.cell' v0
      have c1 := g.cell' v1
      have G := Lib.hid (Bel.trans HBV.out g)
      clear g v0 v1
      have HMa2 := Lib.hid (HMa.out w2 G.out)
      go_wp2_with fail
      refine HMa2.out.mono ?_
      rintro e w3 ⟨rfl,g⟩
      have d0 := g.cell' c0
      have d1 := g.cell' c1
      have G2 := Lib.hid (Bel.trans G.out g)
      clear g c0 c1
      have HNe2 := Lib.hid (HNe.out w3 G2.out)
      go_wp2_with fail
      refine HNe2.out.mono ?_
      rintro e w4 ⟨rfl,g⟩
      have G3 := Lib.hid (Bel.trans G2.out g)
      clear g
      go_wp2_with fail
      go_ret
      exact ⟨rfl,G3.out⟩

def depthE (L : List Nd) (F : List Fw) : Int := if chkE L F = 0 then nestL 0 (fun _ => 0) 0 L else 0
theorem chk_ok {L : List Nd} {F : List Fw} (h : chkE L F = 0) : L.length ≤ 600 ∧ F.length ≤ 16 ∧ properB L F = true := by
 unfold chkE at h
 split at h
 ·cases h
 ·rename_i h1
  split at h
  ·cases h
  ·rename_i h2
   exact ⟨by omega,by omega,by simpa using h2⟩
theorem depth_any (no fo : Option Addr) (n nc k fc : Nat) (L : List Nd) (F : List Fw) (hk : k ≤ 4611686018427387904) (hn : n ≤ 4611686018427387904) (w : World) (hm : Lex.ML w) (hA : NArg w no n L) (hF : FArg w fo k F) (hwf : WfN L) (hwF : ∀ x ∈ F,x.params.length ≤ 4611686018427387904) :
  Calls Tryz.prog 39 #[.agg #[.slice no n nc,.slice fo k fc]] w fun e w' => e = .returned (.int .i64 (depthE L F)) ∧ Bel w w' := by
 obtain ⟨V,hV⟩ : ∃ V,w.alloc (.cells #[.slice no n nc,.slice fo k fc] 25) = V := ⟨_,rfl⟩
 have BV : Bel w V := by rw [← hV]; exact Bel.alloc (Bel.refl w) _
 obtain ⟨v0,v1⟩ : V.cell? ⟨w.heap.size,0,none⟩ = some (.slice no n nc) ∧ V.cell? ⟨w.heap.size,1,none⟩ = some (.slice fo k fc) := by
  rw [← hV]
  exact ⟨World.cell?_alloc_new ..,World.cell?_alloc_new ..⟩
 have HBV := Lib.hid BV
 have HCh := Lib.hid (check_any no fo n nc k fc L F hk hn V (hm.on BV) (hA.on BV) (hF.on BV) hwf hwF)
 by_cases h0 : chkE L F = 0
 ·have h5 := chk_ok h0
  have hLn := hA.1
  have HNe := Lib.hid (fun W (B : Bel w W) => nesting_any no n nc L (by omega) (by rw [← hLn]; exact proper_kids h5.2.2) hwf W (hA.on B))
  have hz : depthE L F = nestL 0 (fun _ => 0) 0 L := by unfold depthE; rw [if_pos h0]
  rw [hz]
  rw [h0] at HCh
  generalize nestL 0 (fun _ => 0) 0 L = nl at *
  clear h5 hLn hz h0 hA hF hwf hwF hm BV
  go_enter Tryz.func39,Tryz.ntmps39
  go_wp2_with fail
  refine HCh.out.mono ?_
  rintro e w2 ⟨rfl,g⟩
  have c0 := g.cell' v0
  have G := Lib.hid (Bel.trans HBV.out g)
  clear g v0 v1
  have HNe2 := Lib.hid (HNe.out w2 G.out)
  go_wp2_with fail
  refine HNe2.out.mono ?_
  rintro e w3 ⟨rfl,g⟩
  have G2 := Lib.hid (Bel.trans G.out g)
  clear g
  go_wp2_with fail
  go_ret
  exact ⟨rfl,G2.out⟩
 ·have hz : depthE L F = 0 := by unfold depthE; rw [if_neg h0]
  rw [hz]
  generalize chkE L F = cc at *
  clear hz hA hF hwf hwF hm BV
  go_enter Tryz.func39,Tryz.ntmps39
  go_wp2_with fail
  refine HCh.out.mono ?_
  rintro e w2 ⟨rfl,g⟩
  have G := Lib.hid (Bel.trans HBV.out g)
  clear g v0 v1
  go_wp2_with fail
  go_ret
  exact ⟨rfl,G.out⟩
theorem ent_find : ∀ args w,(callFunc 78 args).run Tryz.prog w = .ok (.enter 78 args) w := enters_of Tryz.func78 (by kernel_rfl) rfl
theorem ask_find (w : World) (B : Nat) (r s : Txt) (po : Option Addr) (k pc : Nat) (j : Int) (hB : w.cell? ⟨B,0,none⟩ = some (.string ⟨r.toArray⟩)) : Asks 78 #[.pointer (some ⟨B,0,none⟩)] w (.agg #[.string ⟨s.toArray⟩,.slice po k pc,.int .i64 j]) (decide (s = r)) := by
 intro W g
 have hlt : B < W.heap.size := cell_lt' (g.cell' hB)
 have c0 := g.cell' hB
 show Calls Tryz.prog _ #[.agg #[.string ⟨s.toArray⟩,.slice po k pc,.int .i64 j],.pointer (some ⟨B,0,none⟩)] W _
 have c1 : (W.alloc (.cells #[.string ⟨s.toArray⟩,.slice po k pc,.int .i64 j] 61)).cell? ⟨B,0,none⟩ = some (.string ⟨r.toArray⟩) := (Bel.alloc (Bel.refl W) _).cell' c0
 have HB := Lib.hid (Bel.alloc (Bel.refl W) (.cells #[.string ⟨s.toArray⟩,.slice po k pc,.int .i64 j] 61))
 by_cases h : s = r
 ·subst h
  rw [decide_eq_true rfl]
  clear g hB
  go_enter Tryz.func78,Tryz.ntmps78
  go_wp2_with fail
  go_ret
  exact ⟨by simp,HB.out⟩
 ·rw [decide_eq_false h]
  clear g hB
  go_enter Tryz.func78,Tryz.ntmps78
  go_wp2_with fail
  go_ret
  exact ⟨by simp [h],HB.out⟩
theorem find_any (no fo : Option Addr) (n nc k fc : Nat) (F : List Fw) (s : Txt) (hk : k ≤ 4611686018427387904) (w : World) (hF : FArg w fo k F) :
  Calls Tryz.prog 40 #[.agg #[.slice no n nc,.slice fo k fc],.string ⟨s.toArray⟩] w fun e w' => e = .returned (.int .i64 (fixI (fun f => decide (f.name = s)) 0 F)) ∧ Bel w w' := by
 have hmf := hmf_any
 obtain ⟨V,hV⟩ : ∃ V,w.alloc (.cells #[.slice no n nc,.slice fo k fc] 25) = V := ⟨_,rfl⟩
 have BV : Bel w V := by rw [← hV]; exact Bel.alloc (Bel.refl w) _
 obtain ⟨v0,v1⟩ : V.cell? ⟨w.heap.size,0,none⟩ = some (.slice no n nc) ∧ V.cell? ⟨w.heap.size,1,none⟩ = some (.slice fo k fc) := by
  rw [← hV]
  exact ⟨World.cell?_alloc_new ..,World.cell?_alloc_new ..⟩
 obtain ⟨U,hU⟩ : ∃ U,V.alloc (.cells #[.string ⟨s.toArray⟩] 9) = U := ⟨_,rfl⟩
 have BU : Bel V U := by rw [← hU]; exact Bel.alloc (Bel.refl V) _
 have u0 : U.cell? ⟨V.heap.size,0,none⟩ = some (.string ⟨s.toArray⟩) := by rw [← hU]; exact World.cell?_alloc_new ..
 have u1 := BU.cell' v1
 have B := Bel.trans BV BU
 have hF' := hF.on B
 have H := Lib.hid (func_idx #[.pointer (some ⟨V.heap.size,0,none⟩)] ent_find F (fun f => decide (f.name = s)) k fc fo hk U hF'.1 hF'.2 (fun i hi v hv => by
  have := ask_find U V.heap.size s v.s v.po v.k v.pc v.j u0
  rw [hv.s] at this ⊢
  exact this))
 have HB := Lib.hid B
 generalize fixI (fun f => decide (f.name = s)) 0 F = X at *
 clear hF hF' B BV BU v0 v1
 go_enter Tryz.func40,Tryz.ntmps40
 go_wp2_with fail
 refine H.out.mono ?_
 rintro e w2 ⟨rfl,g⟩
 have G := Lib.hid (Bel.trans HB.out g)
 clear g
 go_wp2_with fail
 go_ret
 exact ⟨rfl,G.out⟩

def SArg (w : World) (o : Option Addr) (n : Nat) (ks : List Txt) : Prop := ks.length = n ∧ (0 < n → ∃ b off,o = some ⟨b,off,none⟩ ∧ ∀ i (h : i < ks.length),w.cell? ⟨b,off + i,none⟩ = some (.string ⟨ks[i].toArray⟩))
theorem SArg.on {w w' : World} {o : Option Addr} {n : Nat} {l : List Txt} (h : SArg w o n l) (g : Bel w w') : SArg w' o n l :=
 ⟨h.1,fun h0 => let ⟨b,off,e,k⟩ := h.2 h0; ⟨b,off,e,fun i hi => g.cell' (k i hi)⟩⟩
theorem dropS_at {l m : List Txt} {k : Nat} (h1 : k < l.length) (h2 : k < m.length) : decide (l.drop k = m.drop k) = (l[k] == m[k] && decide (l.drop (k + 1) = m.drop (k + 1))) := by
 rw [List.drop_eq_getElem_cons h1,List.drop_eq_getElem_cons h2]
 rw [Bool.eq_iff_iff]
 simp only [decide_eq_true_eq,Bool.and_eq_true,beq_iff_eq,List.cons.injEq]
theorem eqS_any (o1 o2 : Option Addr) (n m c1 c2 : Nat) (l1 l2 : List Txt) (hn : n ≤ 4611686018427387904) (hm : m ≤ 4611686018427387904) (w : World) (hA : SArg w o1 n l1) (hB : SArg w o2 m l2) :
  Calls Tryz.prog 136 #[.slice o1 n c1,.slice o2 m c2] w fun e w' => e = .returned (.bool (decide (l1 = l2))) ∧ Bel w w' := by
 have k1 := hA.1
 have k2 := hB.1
 by_cases h0 : n = m
 ·subst h0
  by_cases hz : n = 0
  ·subst hz
   have e1 : l1 = [] := List.eq_nil_of_length_eq_zero k1
   have e2 : l2 = [] := List.eq_nil_of_length_eq_zero k2
   subst e1 e2
   clear hA hB
   go_enter Tryz.func136,Tryz.ntmps136
   go_wp2_with fail
   go_loopw [13] (fun iv wr => iv = .int .i64 0 ∧ wr = w) (fun _ _ => 0)
   case atStart => exact ⟨rfl,rfl⟩
   case round =>
    obtain ⟨rfl,rfl⟩ := hrel
    go_wp2
    go_ret
    exact ⟨rfl,Bel.refl _⟩
  ·obtain ⟨b,off,rfl,hc⟩ := hA.2 (by omega)
   obtain ⟨b2,off2,rfl,hc2⟩ := hB.2 (by omega)
   obtain ⟨X,hX⟩ : ∃ X,decide (l1 = l2) = X := ⟨_,rfl⟩
   have HX := Lib.hid hX
   rw [hX]
   have K1 := Lib.hid k1
   have K2 := Lib.hid k2
   have HC := Lib.hid hc
   have HC2 := Lib.hid hc2
   have hn0 : (0 : Int) < (n : Int) := by omega
   clear hA hB hc hc2 k1 k2 hX
   go_enter Tryz.func136,Tryz.ntmps136
   go_wp2_with fail
   go_loopw [13] (fun iv wr => ∃ k : Nat,iv = .int .i64 (k : Int) ∧ k ≤ n ∧ Hid (decide (l1.drop k = l2.drop k) = X) ∧ Hid (Bel w wr)) (fun iv _ => n - (intOf iv).toNat)
   case atStart => exact ⟨0,rfl,Nat.zero_le _,HX,Lib.hid (Bel.refl _)⟩
   case round =>
    obtain ⟨k,rfl,hk,HM,HB⟩ := hrel
    rename World => wr
    rcases Nat.lt_or_ge k n with hkn | hkn
    ·have q1 : k < l1.length := by rw [K1.out]; exact hkn
     have q2 : k < l2.length := by rw [K2.out]; exact hkn
     have c0 := HB.out.cell' (HC.out k q1)
     have c02 := HB.out.cell' (HC2.out k q2)
     have hM := HM.out
     rw [dropS_at q1 q2] at hM
     generalize l1[k] = u at *
     generalize l2[k] = v at *
     by_cases huv : u = v
     ·subst huv
      have hM2 : Hid (decide (l1.drop (k + 1) = l2.drop (k + 1)) = X) := Lib.hid (by rw [← hM]; simp)
      clear hM HM
      go_wp2_with fail
      go_quiet (fail)
      go_wp2_with fail
      go_round
      case rel => exact ⟨k + 1,by go_num,by omega,hM2,Lib.hid (Bel.drewN HB.out _)⟩
      case measure => simp [intOf]; omega
     ·have hz2 : Hid (X = false) := Lib.hid (by rw [← hM]; simp [huv])
      have buv : (u == v) = false := by simpa using huv
      clear hM HM
      go_wp2_with fail
      go_quiet (fail)
      go_wp2_with fail
      go_ret
      exact ⟨by rw [hz2.out]; rfl,Bel.drewN HB.out _⟩
    ·have hz2 : Hid (X = true) := Lib.hid (by
      have := HM.out
      rw [List.drop_eq_nil_of_le (by rw [K1.out]; exact hkn),List.drop_eq_nil_of_le (by rw [K2.out]; exact hkn)] at this
      rw [← this]
      rfl)
     obtain rfl : k = n := by omega
     go_wp2_with fail
     go_ret
     exact ⟨by rw [hz2.out]; rfl,HB.out⟩
 ·have hne : decide (l1 = l2) = false := by
   rw [decide_eq_false_iff_not]
   intro e
   rw [e] at k1
   omega
  rw [hne]
  have h0' : ¬ (n : Int) = (m : Int) := by omega
  clear hA hB
  go_enter Tryz.func136,Tryz.ntmps136
  go_wp2_with fail
  go_ret
  exact ⟨rfl,Bel.refl _⟩
theorem sameFunc_any (s1 s2 : Txt) (po1 po2 : Option Addr) (k1 k2 pc1 pc2 : Nat) (j1 j2 : Int) (ps1 ps2 : List Txt) (hk1 : k1 ≤ 4611686018427387904) (hk2 : k2 ≤ 4611686018427387904) (w : World) (hA : SArg w po1 k1 ps1) (hB : SArg w po2 k2 ps2) :
  Calls Tryz.prog 82 #[.agg #[.string ⟨s1.toArray⟩,.slice po1 k1 pc1,.int .i64 j1],.agg #[.string ⟨s2.toArray⟩,.slice po2 k2 pc2,.int .i64 j2]] w fun e w' => e = .returned (.bool (decide (s1 = s2) && (decide (j1 = j2) && decide (ps1 = ps2)))) ∧ Bel w w' := by
 obtain ⟨V,hV⟩ : ∃ V,w.alloc (.cells #[.string ⟨s1.toArray⟩,.slice po1 k1 pc1,.int .i64 j1] 61) = V := ⟨_,rfl⟩
 obtain ⟨U,hU⟩ : ∃ U,V.alloc (.cells #[.string ⟨s2.toArray⟩,.slice po2 k2 pc2,.int .i64 j2] 61) = U := ⟨_,rfl⟩
 have BV : Bel w V := by rw [← hV]; exact Bel.alloc (Bel.refl w) _
 have BU : Bel V U := by rw [← hU]; exact Bel.alloc (Bel.refl V) _
 obtain ⟨v0,v1,v2⟩ : V.cell? ⟨w.heap.size,0,none⟩ = some (.string ⟨s1.toArray⟩) ∧ V.cell? ⟨w.heap.size,1,none⟩ = some (.slice po1 k1 pc1) ∧ V.cell? ⟨w.heap.size,2,none⟩ = some (.int .i64 j1) := by
  rw [← hV]
  exact ⟨World.cell?_alloc_new ..,World.cell?_alloc_new ..,World.cell?_alloc_new ..⟩
 obtain ⟨u0,u1,u2⟩ : U.cell? ⟨V.heap.size,0,none⟩ = some (.string ⟨s2.toArray⟩) ∧ U.cell? ⟨V.heap.size,1,none⟩ = some (.slice po2 k2 pc2) ∧ U.cell? ⟨V.heap.size,2,none⟩ = some (.int .i64 j2) := by
  rw [← hU]
  exact ⟨World.cell?_alloc_new ..,World.cell?_alloc_new ..,World.cell?_alloc_new ..⟩
 have x0 := BU.cell' v0
 have x1 := BU.cell' v1
 have x2 := BU.cell' v2
 have HB0 := Lib.hid (Bel.trans BV BU)
 have HE := Lib.hid (eqS_any po1 po2 k1 k2 pc1 pc2 ps1 ps2 hk1 hk2 U (hA.on HB0.out) (hB.on HB0.out))
 generalize decide (ps1 = ps2) = bp at *
 clear hA hB v0 v1 v2 BV BU
 by_cases hs : s1 = s2
 ·subst hs
  rw [decide_eq_true rfl,Bool.true_and]
  by_cases hj : j1 = j2
  ·subst hj
   rw [decide_eq_true rfl,Bool.true_and]
   go_enter Tryz.func82,Tryz.ntmps82
   go_wp2_with fail
   refine HE.out.mono ?_
   rintro e w2 ⟨rfl,g⟩
   have G := Lib.hid (Bel.trans HB0.out g)
   clear g
   go_wp2_with fail
   go_ret
   exact ⟨rfl,G.out⟩
  ·rw [decide_eq_false hj,Bool.false_and]
   go_enter Tryz.func82,Tryz.ntmps82
   go_wp2_with fail
   go_ret
   exact ⟨by simp,HB0.out⟩
 ·rw [decide_eq_false hs,Bool.false_and]
  go_enter Tryz.func82,Tryz.ntmps82
  go_wp2_with fail
  go_ret
  exact ⟨by simp,HB0.out⟩
theorem sameNode_any (k1 k2 : Int) (s1 s2 : Txt) (i1 i2 : Int) (ko1 ko2 jo1 jo2 : Option Addr) (kn1 kn2 kc1 kc2 jn1 jn2 jc1 jc2 : Nat) (ks1 ks2 : List Txt) (js1 js2 : List Int) (h1 : kn1 ≤ 4611686018427387904) (h2 : kn2 ≤ 4611686018427387904) (h3 : jn1 ≤ 4611686018427387904) (h4 : jn2 ≤ 4611686018427387904) (w : World) (hA : SArg w ko1 kn1 ks1) (hB : SArg w ko2 kn2 ks2) (hC : RArg w jo1 jn1 js1) (hD : RArg w jo2 jn2 js2) :
  Calls Tryz.prog 80 #[.agg #[.int .i64 k1,.string ⟨s1.toArray⟩,.int .i64 i1,.slice ko1 kn1 kc1,.slice jo1 jn1 jc1],.agg #[.int .i64 k2,.string ⟨s2.toArray⟩,.int .i64 i2,.slice ko2 kn2 kc2,.slice jo2 jn2 jc2]] w fun e w' => e = .returned (.bool (decide (k1 = k2) && (decide (s1 = s2) && (decide (i1 = i2) && (decide (ks1 = ks2) && decide (js1 = js2)))))) ∧ Bel w w' := by
 obtain ⟨V,hV⟩ : ∃ V,w.alloc (.cells #[.int .i64 k1,.string ⟨s1.toArray⟩,.int .i64 i1,.slice ko1 kn1 kc1,.slice jo1 jn1 jc1] 65) = V := ⟨_,rfl⟩
 obtain ⟨U,hU⟩ : ∃ U,V.alloc (.cells #[.int .i64 k2,.string ⟨s2.toArray⟩,.int .i64 i2,.slice ko2 kn2 kc2,.slice jo2 jn2 jc2] 65) = U := ⟨_,rfl⟩
 have BV : Bel w V := by rw [← hV]; exact Bel.alloc (Bel.refl w) _
 have BU : Bel V U := by rw [← hU]; exact Bel.alloc (Bel.refl V) _
 obtain ⟨v0,v1,v2,v3,v4⟩ : V.cell? ⟨w.heap.size,0,none⟩ = some (.int .i64 k1) ∧ V.cell? ⟨w.heap.size,1,none⟩ = some (.string ⟨s1.toArray⟩) ∧ V.cell? ⟨w.heap.size,2,none⟩ = some (.int .i64 i1) ∧ V.cell? ⟨w.heap.size,3,none⟩ = some (.slice ko1 kn1 kc1) ∧ V.cell? ⟨w.heap.size,4,none⟩ = some (.slice jo1 jn1 jc1) := by rw [← hV]; exact box5 w _ _ _ _ _ _
 obtain ⟨u0,u1,u2,u3,u4⟩ : U.cell? ⟨V.heap.size,0,none⟩ = some (.int .i64 k2) ∧ U.cell? ⟨V.heap.size,1,none⟩ = some (.string ⟨s2.toArray⟩) ∧ U.cell? ⟨V.heap.size,2,none⟩ = some (.int .i64 i2) ∧ U.cell? ⟨V.heap.size,3,none⟩ = some (.slice ko2 kn2 kc2) ∧ U.cell? ⟨V.heap.size,4,none⟩ = some (.slice jo2 jn2 jc2) := by rw [← hU]; exact box5 V _ _ _ _ _ _
 have x0 := BU.cell' v0
 have x1 := BU.cell' v1
 have x2 := BU.cell' v2
 have x3 := BU.cell' v3
 have x4 := BU.cell' v4
 have HB0 := Lib.hid (Bel.trans BV BU)
 have HE := Lib.hid (eqS_any ko1 ko2 kn1 kn2 kc1 kc2 ks1 ks2 h1 h2 U (hA.on HB0.out) (hB.on HB0.out))
 have HI := Lib.hid (fun W (B : Bel U W) => eqI_any jo1 jo2 jn1 jn2 jc1 jc2 js1 js2 h3 h4 W ((hC.on HB0.out).on B) ((hD.on HB0.out).on B))
 generalize decide (ks1 = ks2) = bk at *
 generalize decide (js1 = js2) = bj at *
 clear hA hB hC hD v0 v1 v2 v3 v4 BV BU
 by_cases hk : k1 = k2
 ·subst hk
  rw [decide_eq_true rfl,Bool.true_and]
  by_cases hs : s1 = s2
  ·subst hs
   rw [decide_eq_true rfl,Bool.true_and]
   by_cases hi : i1 = i2
   ·subst hi
    rw [decide_eq_true rfl,Bool.true_and]
    cases bk with
    | false =>
     rw [Bool.false_and]
     go_enter Tryz.func80,Tryz.ntmps80
     go_wp2_with fail
     refine HE.out.mono ?_
     rintro e w2 ⟨rfl,g⟩
     have G := Lib.hid (Bel.trans HB0.out g)
     clear g
     go_wp2_with fail
     go_ret
     exact ⟨rfl,G.out⟩
    | true =>
     rw [Bool.true_and]
     go_enter Tryz.func80,Tryz.ntmps80
     go_wp2_with fail
     refine HE.out.mono ?_
     rintro e w2 ⟨rfl,g⟩
     have G := Lib.hid (Bel.trans HB0.out g)
     have y4 := g.cell' x4
     have z4 := g.cell' u4
     have HI2 := Lib.hid (HI.out w2 g)
     clear g
     go_wp2_with fail
     refine HI2.out.mono ?_
     rintro e w3 ⟨rfl,g⟩
     have G2 := Lib.hid (Bel.trans G.out g)
     clear g
     go_wp2_with fail
     go_ret
     exact ⟨rfl,G2.out⟩
   ·rw [decide_eq_false hi,Bool.false_and]
    go_enter Tryz.func80,Tryz.ntmps80
    go_wp2_with fail
    go_ret
    exact ⟨by simp,HB0.out⟩
  ·rw [decide_eq_false hs,Bool.false_and]
   go_enter Tryz.func80,Tryz.ntmps80
   go_wp2_with fail
   go_ret
   exact ⟨by simp,HB0.out⟩
 ·rw [decide_eq_false hk,Bool.false_and]
  go_enter Tryz.func80,Tryz.ntmps80
  go_wp2_with fail
  go_ret
  exact ⟨by simp,HB0.out⟩
end Syn
end Go.Proofs.YtcapkeaedpabjaaGreatDoor
