/-
  Layer 8, texts merged: SrF, SrG, SrN, SrO. For every argument within the bounds that each theorem names.
-/
import Derived.Test.YtcapkeaedpabjaaGreatDoorYK2
import Derived.Test.YtcapkeaedpabjaaGreatDoorYG4
import Derived.Test.YtcapkeaedpabjaaGreatDoorYH3
set_option maxRecDepth 100000
set_option maxHeartbeats 16000000

/-
 Layer 8, the reference: measure.
-/
namespace Go.Proofs.YtcapkeaedpabjaaGreatDoor
open Go.RowKit Go.ChangeShapes Go.WideShapes
namespace Syn
def MeasPost (w : World) (n : Nat) (X : Option (List Int × List Int × Nat)) (e : Ending) (w' : World) : Prop :=
 match X with
 | none => e = .returned (.tuple #[.slice none 0 0,.slice none 0 0,.bool false]) ∧ Bel w w'
 | some x => (∃ o1 c1 o2 c2,e = .returned (.tuple #[.slice o1 x.1.length c1,.slice o2 x.2.1.length c2,.bool (decide (x.2.2 = n))]) ∧ RArg w' o1 x.1.length x.1 ∧ RArg w' o2 x.2.1.length x.2.1) ∧ Bel w w'
def Short (s : Txt) : Prop := s.length ≤ 140737488355328
theorem kidsG_no {low : Int} {sz ht r : List Int} {z a t : Int} (h : ¬ (z = a ∧ low ≤ a)) : kidsG low sz ht (z :: r) a t = none := by rw [kidsG,if_neg h]
theorem kidsG_go {low : Int} {sz ht r : List Int} {z a t : Int} (h : z = a ∧ low ≤ a) : kidsG low sz ht (z :: r) a t = kidsG low sz ht r (a - sz.getD a.toNat 0) (max t (ht.getD a.toNat 0)) := by rw [kidsG,if_pos h]
theorem rev_take {l : List Int} {j : Nat} (h : j < l.length) : (l.take (j + 1)).reverse = l[j] :: (l.take j).reverse := by
 rw [List.take_succ_eq_append_getElem h,List.reverse_append]; rfl
theorem nodesG_no {L : List Nd} {low : Int} {x : Nd} {r : List Nd} {i : Nat} {sz ht : List Int} (h : oneG L low sz ht i x = none) : nodesG L low (x :: r) i sz ht = none := by rw [nodesG,h]
theorem nodesG_go {L : List Nd} {low : Int} {x : Nd} {r : List Nd} {i : Nat} {sz ht : List Int} {s t : Int} (h : oneG L low sz ht i x = some (s,t)) : nodesG L low (x :: r) i sz ht = nodesG L low r (i + 1) (sz ++ [s]) (ht ++ [t]) := by rw [nodesG,h]
theorem oneG_kids {L : List Nd} {low : Int} {x : Nd} {i : Nat} {sz ht : List Int} (h : kidsG low sz ht x.kids.reverse ((i : Int) - 1) 0 = none) : oneG L low sz ht i x = none := by rw [oneG,h]
theorem oneG_bad {L : List Nd} {low : Int} {x : Nd} {i : Nat} {sz ht : List Int} (h : ndB L x = false) : oneG L low sz ht i x = none := by
 rw [oneG]
 split
 ·rfl
 ·rw [if_neg (by rw [h]; decide)]
theorem oneG_go {L : List Nd} {low : Int} {x : Nd} {i : Nat} {sz ht : List Int} {a t : Int} (h : kidsG low sz ht x.kids.reverse ((i : Int) - 1) 0 = some (a,t)) (h2 : ndB L x = true) : oneG L low sz ht i x = some ((i : Int) - a,t + 1) := by
 rw [oneG,h]
 exact if_pos h2
theorem funcsG_head {L : List Nd} {f : Fw} {F : List Fw} {low : Nat} {sz ht : List Int} (h : headG L low f = false) : funcsG L (f :: F) low sz ht = none := by rw [funcsG,if_neg (by rw [h]; decide)]
theorem funcsG_nodes {L : List Nd} {f : Fw} {F : List Fw} {low : Nat} {sz ht : List Int} (h : headG L low f = true) (h2 : nodesG L low ((L.drop low).take (f.body.toNat + 1 - low)) low sz ht = none) : funcsG L (f :: F) low sz ht = none := by rw [funcsG,if_pos h,h2]
theorem funcsG_size {L : List Nd} {f : Fw} {F : List Fw} {low : Nat} {sz ht sz' ht' : List Int} (h : headG L low f = true) (h2 : nodesG L low ((L.drop low).take (f.body.toNat + 1 - low)) low sz ht = some (sz',ht')) (h3 : sz'.getD f.body.toNat 0 ≠ f.body - low + 1) : funcsG L (f :: F) low sz ht = none := by
 rw [funcsG,if_pos h,h2]; exact if_neg h3
theorem funcsG_go {L : List Nd} {f : Fw} {F : List Fw} {low : Nat} {sz ht sz' ht' : List Int} (h : headG L low f = true) (h2 : nodesG L low ((L.drop low).take (f.body.toNat + 1 - low)) low sz ht = some (sz',ht')) (h3 : sz'.getD f.body.toNat 0 = f.body - low + 1) : funcsG L (f :: F) low sz ht = funcsG L F (f.body.toNat + 1) sz' ht' := by
 rw [funcsG,if_pos h,h2]; exact if_pos h3
def BdG (sz ht : List Int) : Prop := (∀ (j : Nat) v,sz[j]? = some v → 1 ≤ v ∧ v ≤ (j : Int) + 1) ∧ ∀ (j : Nat) v,ht[j]? = some v → 0 ≤ v ∧ v ≤ (j : Int) + 1
theorem BdG.nil : BdG [] [] := ⟨fun j v h => (by cases h),fun j v h => (by cases h)⟩
theorem bd_snoc {l : List Int} {s lo : Int} (h : ∀ (j : Nat) v,l[j]? = some v → lo ≤ v ∧ v ≤ (j : Int) + 1) (hs : lo ≤ s ∧ s ≤ (l.length : Int) + 1) : ∀ (j : Nat) v,(l ++ [s])[j]? = some v → lo ≤ v ∧ v ≤ (j : Int) + 1 := fun j v e => by
 rcases Nat.lt_or_ge j l.length with q | q
 ·rw [List.getElem?_append_left q] at e
  exact h j v e
 ·rw [List.getElem?_append_right q] at e
  obtain ⟨hj,hv⟩ := List.getElem?_eq_some_iff.1 e
  rw [List.length_singleton] at hj
  have hj0 : j = l.length := by omega
  rw [List.getElem_singleton] at hv
  rw [← hv,hj0]
  exact hs
theorem getD_at {l : List Int} {a : Int} {m : Nat} (hl : l.length = m) (h0 : 0 ≤ a) (hm : a < (m : Int)) : ∃ j : Nat,a = (j : Int) ∧ ∃ h : j < l.length,l.getD a.toNat 0 = l[j] := ⟨a.toNat,by omega,by omega,by
 rw [List.getD_eq_getElem?_getD,List.getElem?_eq_getElem (by omega),Option.getD_some]⟩
theorem kidsG_bd {low : Int} {sz ht : List Int} (hs : ∀ i,0 ≤ sz.getD i 0) : ∀ (zs : List Int) (a t : Int) (q : Int × Int),kidsG low sz ht zs a t = some q → ∀ z ∈ zs,low ≤ z ∧ z ≤ a
 | [],_,_,_,_ => fun z hz => by cases hz
 | y :: zs,a,t,q,h => by
  rw [kidsG] at h
  split at h
  ·rename_i hy
   intro z hz
   rcases List.mem_cons.1 hz with rfl | hz
   ·omega
   ·have := kidsG_bd hs zs _ _ q h z hz
    have h2 := hs a.toNat
    omega
  ·cases h
theorem BdG.pos {sz ht : List Int} (h : BdG sz ht) (i : Nat) : 0 ≤ sz.getD i 0 := by
 rw [List.getD_eq_getElem?_getD]
 cases e : sz[i]? with
 | none => exact Int.le_refl _
 | some v => have := h.1 i v e; rw [Option.getD_some]; omega
theorem rmeas_any (no fo : Option Addr) (n nc k fc : Nat) (L : List Nd) (F : List Fw) (hn : n ≤ 100000) (hk : k ≤ 100000) (w : World) (hA : NArg w no n L) (hF : FArg w fo k F) (hwf : WfN L) (hwF : ∀ x ∈ F,x.params.length ≤ 4611686018427387904 ∧ -9223372036854775808 ≤ x.body ∧ x.body ≤ 9223372036854775807)
  (hsN : ∀ x ∈ L,Short x.s ∧ ∀ t ∈ x.keys,Short t) (hsF : ∀ f ∈ F,Short f.name ∧ ∀ p ∈ f.params,Short p) :
  Calls Tryz.prog 45 #[.agg #[.slice no n nc,.slice fo k fc]] w (MeasPost w n (measG L F)) := by
 obtain ⟨V,hV⟩ : ∃ V,w.alloc (.cells #[.slice no n nc,.slice fo k fc] 25) = V := ⟨_,rfl⟩
 have BV : Bel w V := by rw [← hV]; exact Bel.alloc (Bel.refl w) _
 obtain ⟨v0,v1⟩ : V.cell? ⟨w.heap.size,0,none⟩ = some (.slice no n nc) ∧ V.cell? ⟨w.heap.size,1,none⟩ = some (.slice fo k fc) := by
  rw [← hV]
  exact ⟨World.cell?_alloc_new ..,World.cell?_alloc_new ..⟩
 obtain ⟨X,hX⟩ : ∃ X,measG L F = X := ⟨_,rfl⟩
 rw [hX]
 have HX := Lib.hid (show funcsG L F 0 [] [] = X from hX)
 have HBV := Lib.hid BV
 have HA := Lib.hid (hA.on BV)
 have HF := Lib.hid (hF.on BV)
 have Hwf := Lib.hid hwf
 have HwF := Lib.hid hwF
 have HsN := Lib.hid hsN
 have HsF := Lib.hid hsF
 have HLn := Lib.hid hA.1
 have HFk := Lib.hid hF.1
 have HV0 := Lib.hid v0
 have HV1 := Lib.hid v1
 have hVz : V.heap.size = w.heap.size + 1 := by rw [← hV,alloc_sz]
 have hR0 := Lib.hid (show Rwb (fun _ => False) V.heap.size ((V.alloc (.cells #[] 3)).alloc (.cells #[] 3)) (some ⟨w.heap.size + 1,0,none⟩) 0 0 [] (some ⟨w.heap.size + 1 + 1,0,none⟩) 0 0 [] from by
  have e1 := World.ownsRow_lit (base := V.heap.size) (e := 3) (size := 1) V #[] 0 (Nat.le_refl _) (by decide) (by simp)
  have e2 := World.ownsRow_lit (base := V.heap.size) (e := 3) (size := 1) (V.alloc (.cells #[] 3)) #[] 0 (by rw [alloc_sz]; omega) (by decide) (by simp)
  rw [alloc_sz] at e2
  rw [hVz] at e1 e2 ⊢
  exact ⟨own_belz e1 (Bel.alloc (Bel.refl _) _),e2,fun b e => ⟨fun q => by simp [Value.ownBlock] at e q; omega,fun h => h⟩,fun b e h => h⟩)
 have HVe := Lib.hid hV
 clear hX BV hA hF hwf hwF hsN hsF v0 v1 hV
 go_enter Tryz.func45,Tryz.ntmps45
 go_wp2_with fail
 go_loopw [5,6,7,8] (fun sv hv lv fv wr => ∃ (q low c1 c2 : Nat) (a1 a2 : Option Addr) (sz ht : List Int),sv = .slice a1 low c1 ∧ hv = .slice a2 low c2 ∧ lv = .int .i64 (low : Int) ∧ fv = .int .i64 (q : Int) ∧ q ≤ k ∧ low ≤ n ∧ Hid (Rwb (fun _ => False) V.heap.size wr a1 low c1 sz a2 low c2 ht) ∧ Hid (Bel V wr) ∧ Hid (funcsG L (F.drop q) low sz ht = X) ∧ Hid (BdG sz ht)) (fun _ _ _ fv _ => k - (intOf fv).toNat)
 case atStart => exact ⟨0,0,0,0,_,_,[],[],rfl,rfl,rfl,rfl,Nat.zero_le _,Nat.zero_le _,Lib.hid (by rw [HVe.out]; exact hR0.out),Lib.hid (by rw [HVe.out]; exact Bel.alloc (Bel.alloc (Bel.refl _) _) _),HX,Lib.hid BdG.nil⟩
 case round =>
  obtain ⟨q,low,c1,c2,a1,a2,sz,ht,rfl,rfl,rfl,rfl,hq,hlow,HR,HB,HM,HBd⟩ := hrel
  rename World => wr
  have v0 := HB.out.cell' HV0.out
  have v1 := HB.out.cell' HV1.out
  rcases Nat.lt_or_ge q k with hqk | hqk
  ·have hql : q < F.length := by rw [HFk.out]; exact hqk
   have hM := HM.out
   rw [List.drop_eq_getElem_cons hql] at hM
   obtain ⟨b,off,rfl,hcs⟩ := HF.out.2 (by omega)
   obtain ⟨⟨vs,po,pk,pc,vj⟩,hv,hcc⟩ := hcs q hql
   obtain ⟨f,hf⟩ : ∃ f,F[q] = f := ⟨_,rfl⟩
   have hfF : f ∈ F := by rw [← hf]; exact List.getElem_mem hql
   obtain ⟨hfp,hfb0,hfb1⟩ := HwF.out f hfF
   obtain ⟨hfn,hfps⟩ := HsF.out f hfF
   rw [hf] at hM hv
   have d0 : wr.cell? ⟨b,off + q * 3,none⟩ = some (.string ⟨f.name.toArray⟩) := HB.out.cell' (by have := hcc 0 _ rfl; rw [hv.s] at this; simpa using this)
   have d1 : wr.cell? ⟨b,off + q * 3 + 1,none⟩ = some (.slice po pk pc) := HB.out.cell' (by simpa using hcc 1 _ rfl)
   have d2 : wr.cell? ⟨b,off + q * 3 + 2,none⟩ = some (.int .i64 f.body) := HB.out.cell' (by have := hcc 2 _ rfl; rw [hv.j] at this; simpa using this)
   have hps := hv.ps.on HB.out
   dsimp only at hps
   have hqk' : (q : Int) < (k : Int) := by omega
   have HBW := Lib.hid (Bel.trans HBV.out HB.out)
   have Hhd := Lib.hid (fun h : headG L (low : Int) f = false => show X = none from by rw [← hM]; exact funcsG_head h)
   clear hcs hcc hv hf hql
   by_cases h1 : (low : Int) ≤ f.body
   rotate_left
   ·have hz := Lib.hid (Hhd.out (by unfold headG; rw [decide_eq_false h1,Bool.false_and]))
    have h1' : f.body < (low : Int) := by omega
    clear hM hps Hhd
    go_wp2_with fail
    go_ret3
    rw [hz.out]
    exact ⟨rfl,HBW.out⟩
   have h1' : ¬ f.body < (low : Int) := by omega
   by_cases h2 : f.body < (L.length : Int)
   rotate_left
   ·have hz := Lib.hid (Hhd.out (by unfold headG; rw [decide_eq_false h2,Bool.false_and,Bool.and_false]))
    have h2' : (n : Int) ≤ f.body := by rw [← HLn.out]; omega
    clear hM hps Hhd
    go_wp2_with fail
    go_ret3
    rw [hz.out]
    exact ⟨rfl,HBW.out⟩
   have h2' : ¬ (n : Int) ≤ f.body := by rw [← HLn.out]; omega
   obtain ⟨z,hz⟩ : ∃ z : Nat,f.body = (z : Int) := ⟨f.body.toNat,by omega⟩
   have hzL : z < L.length := by omega
   have hzn : z < n := by rw [← HLn.out]; exact hzL
   obtain ⟨nb,nf,rfl,hnc⟩ := nd_kind HA.out (by omega)
   have e3 := HB.out.cell' (hnc z hzL)
   have hka : kindAt L f.body = L[z].k := by rw [hz]; exact kind_at hzL
   obtain ⟨kd,hkd⟩ : ∃ kd,L[z].k = kd := ⟨_,rfl⟩
   rw [hkd] at e3 hka
   rw [hz] at d2 h1' h2'
   have hzn' : (z : Int) < (n : Int) := by omega
   clear hnc hkd
   by_cases h3 : kd = 19
   rotate_left
   ·have hz := Lib.hid (Hhd.out (by unfold headG; rw [hka,decide_eq_false h3,Bool.false_and,Bool.and_false,Bool.and_false]))
    have h3' : (kd == 19) = false := by simpa using h3
    clear hM hps Hhd
    go_wp2_with fail
    go_ret3
    rw [hz.out]
    exact ⟨rfl,HBW.out⟩
   subst h3
   have HNm := Lib.hid (fun W => rname_any f.name hfn W)
   cases h4 : nameB f.name with
   | false =>
    rw [h4] at HNm
    have hz := Lib.hid (Hhd.out (by unfold headG; rw [h4,Bool.false_and,Bool.and_false,Bool.and_false,Bool.and_false]))
    clear hM hps Hhd h4
    go_wp2_with fail
    refine (HNm.out _).mono ?_
    rintro e w2 ⟨rfl,g⟩
    go_wp2_with fail
    go_ret3
    rw [hz.out]
    exact ⟨rfl,Bel.trans HBW.out g⟩
   | true =>
    rw [h4] at HNm
    have Hps := Lib.hid hps
    have Hpl := Lib.hid (karg_at hps)
    have Hfps := Lib.hid hfps
    have hpk : pk ≤ 4611686018427387904 := by rw [← (karg_at hps).1]; exact hfp
    obtain ⟨Y,hY⟩ : ∃ Y,(f.params.any fun p => !nameB p) = Y := ⟨_,rfl⟩
    have HY := Lib.hid (show ((f.params.drop 0).any fun p => !nameB p) = Y from hY)
    have Hh := Lib.hid (show headG L (low : Int) f = !Y by
     unfold headG
     rw [decide_eq_true h1,decide_eq_true h2,hka,h4,hY]
     simp)
    have HMf := Lib.hid hM
    clear hM hps h4 hfps hY
    go_wp2_with fail
    refine (HNm.out _).mono ?_
    rintro e w2 ⟨rfl,g⟩
    have G2 := Lib.hid g
    have HD0 := Lib.hid d0
    have HD1 := Lib.hid d1
    have HD2 := Lib.hid d2
    have hzb := Lib.hid hz
    have e0 := g.cell' v0
    have e1 := g.cell' v1
    have e4 := g.cell' d0
    have e5 := g.cell' d1
    have e6 := g.cell' d2
    clear g v0 v1 d0 d1 d2 e3 hz
    go_wp2_with fail
    go_loopw [10] (fun iv w3 => ∃ j : Nat,iv = .int .i64 (j : Int) ∧ j ≤ pk ∧ Hid (((f.params.drop j).any fun p => !nameB p) = Y) ∧ Hid (Bel wr w3)) (fun iv _ => pk - (intOf iv).toNat)
    case atStart => exact ⟨0,rfl,Nat.zero_le _,HY,G2⟩
    case round =>
     obtain ⟨j,rfl,hj,HYj,HB3⟩ := hrel
     rename World => w3
     have BV3 := Lib.hid (Bel.trans HB.out HB3.out)
     have v0 := BV3.out.cell' HV0.out
     have v1 := BV3.out.cell' HV1.out
     have d0 := HB3.out.cell' HD0.out
     have d1 := HB3.out.cell' HD1.out
     have d2 := HB3.out.cell' HD2.out
     rcases Nat.lt_or_ge j pk with hjp | hjp
     ·have hjl : j < f.params.length := by rw [Hpl.out.1]; exact hjp
      obtain ⟨pb,pf,rfl,hpc⟩ := Hpl.out.2 (by omega)
      have cp := HB3.out.cell' (hpc j hjl)
      have hY := HYj.out
      rw [List.drop_eq_getElem_cons hjl,List.any_cons] at hY
      have HNp := Lib.hid (fun W => rname_any f.params[j] (Hfps.out _ (List.getElem_mem hjl)) W)
      have hjp' : (j : Int) < (pk : Int) := by omega
      clear hpc
      cases hb : nameB f.params[j] with
      | false =>
       rw [hb] at HNp hY
       have hz := Lib.hid (Hhd.out (by rw [Hh.out,← hY]; rfl))
       generalize f.params[j] = pj at *
       clear hb hY
       go_wp2_with fail
       refine (HNp.out _).mono ?_
       rintro e w4 ⟨rfl,g⟩
       go_wp2_with fail
       go_ret3
       rw [hz.out]
       exact ⟨rfl,Bel.trans HBV.out (Bel.trans BV3.out g)⟩
      | true =>
       rw [hb] at HNp hY
       have HY2 := Lib.hid (show ((f.params.drop (j + 1)).any fun p => !nameB p) = Y by rw [← hY]; simp)
       generalize f.params[j] = pj at *
       clear hb hY
       go_wp2_with fail
       refine (HNp.out _).mono ?_
       rintro e w4 ⟨rfl,g⟩
       have HB4 := Lib.hid (Bel.trans HB3.out g)
       go_wp2_with fail
       go_round
       case rel => exact ⟨j + 1,by go_num,by omega,HY2,HB4⟩
       case measure => simp [intOf]; omega
     ·have hYf : Y = false := by
       have := HYj.out
       rw [List.drop_eq_nil_of_le (by rw [Hpl.out.1]; exact hjp)] at this
       exact this.symm
      have hhd : headG L (low : Int) f = true := by rw [Hh.out,hYf]; rfl
      obtain ⟨N0,hN0⟩ : ∃ N0,(L.drop low).take (z + 1 - low) = N0 := ⟨_,rfl⟩
      obtain ⟨Y3,hY3⟩ : ∃ Y3,nodesG L (low : Int) N0 low sz ht = Y3 := ⟨_,rfl⟩
      have hfz : f.body.toNat = z := by rw [hzb.out,Int.toNat_natCast]
      have HY3 := Lib.hid (show nodesG L (low : Int) (N0.drop (low - low)) low sz ht = Y3 by rw [Nat.sub_self]; exact hY3)
      have HX3 := Lib.hid (show Y3 = none → X = none from fun h => by
       rw [← HMf.out]
       exact funcsG_nodes hhd (by rw [hfz,hN0,hY3,h]))
      have HX4 := Lib.hid (show ∀ s t,Y3 = some (s,t) → s.getD z 0 ≠ (z : Int) - low + 1 → X = none from fun s t h h2 => by
       rw [← HMf.out]
       exact funcsG_size hhd (by rw [hfz,hN0,hY3,h]) (by rw [hfz,hzb.out]; exact h2))
      have HX5 := Lib.hid (show ∀ s t,Y3 = some (s,t) → s.getD z 0 = (z : Int) - low + 1 → funcsG L (F.drop (q + 1)) (z + 1) s t = X from fun s t h h2 => by
       rw [← HMf.out,funcsG_go hhd (by rw [hfz,hN0,hY3,h]) (by rw [hfz,hzb.out]; exact h2),hfz])
      have HN0 := Lib.hid (show ∀ i,low ≤ i → i ≤ z → ∃ h : i < L.length,N0.drop (i - low) = L[i] :: N0.drop (i + 1 - low) from fun i h5 h6 => ⟨by omega,by
       rw [← hN0,List.drop_take,List.drop_drop,show low + (i - low) = i by omega,List.drop_eq_getElem_cons (by omega),show z + 1 - low - (i - low) = (z - i) + 1 by omega,List.take_succ_cons,List.drop_take,List.drop_drop,show low + (i + 1 - low) = i + 1 by omega,show z + 1 - low - (i + 1 - low) = z - i by omega]⟩)
      have HN1 := Lib.hid (show N0.drop (z + 1 - low) = [] by rw [← hN0,List.drop_take]; simp)
      have hlz : low ≤ z := by omega
      clear hhd hYf hN0 hY3 HYj
      obtain rfl : j = pk := by omega
      have HR3 := Lib.hid (HR.out.on HB3.out)
      go_wp2_with fail
      go_loopw [5,6,11] (fun sv hv iv w5 => ∃ (i c1 c2 : Nat) (a1 a2 : Option Addr) (sz ht : List Int),sv = .slice a1 i c1 ∧ hv = .slice a2 i c2 ∧ iv = .int .i64 (i : Int) ∧ low ≤ i ∧ i ≤ z + 1 ∧ Hid (Rwb (fun _ => False) V.heap.size w5 a1 i c1 sz a2 i c2 ht) ∧ Hid (Bel V w5) ∧ Hid (nodesG L (low : Int) (N0.drop (i - low)) i sz ht = Y3) ∧ Hid (BdG sz ht)) (fun _ _ iv _ => z + 1 - (intOf iv).toNat)
      case atStart => exact ⟨low,c1,c2,a1,a2,sz,ht,rfl,rfl,rfl,Nat.le_refl _,by omega,HR3,BV3,HY3,HBd⟩
      case round =>
       obtain ⟨i,c1,c2,a1,a2,sz,ht,rfl,rfl,rfl,hil,hiz,HR5,HB5,HM5,HBd5⟩ := hrel
       rename World => w5
       have v0 := HB5.out.cell' HV0.out
       have hnum := HR5.out.nums
       rcases Nat.lt_or_ge i (z + 1) with hi | hi
       ·obtain ⟨hiL,hN⟩ := HN0.out i hil (by omega)
        have hM5 := HM5.out
        rw [hN] at hM5
        obtain ⟨nb0,nf0,hno,hcs⟩ := HA.out.2 (by omega)
        obtain ⟨rfl,rfl⟩ : nb = nb0 ∧ nf = nf0 := by
         have := Option.some.inj hno
         exact ⟨congrArg Addr.block this,congrArg Addr.off this⟩
        obtain ⟨v,hv,hcc⟩ := hcs i hiL
        have hxL : L[i] ∈ L := List.getElem_mem hiL
        obtain ⟨x,hx⟩ : ∃ x,L[i] = x := ⟨_,rfl⟩
        rw [hx] at hv hM5 hxL
        obtain ⟨hwx1,hwx2,hwx3⟩ := Hwf.out x hxL
        obtain ⟨hsx1,hsx2⟩ := HsN.out x hxL
        have hvk := hv.k
        have hvs := hv.s
        have hvi := hv.i
        have hvK := hv.keys.on HB5.out
        have hvZ := hv.kids.on HB5.out
        obtain ⟨vk,vs,vi,ko,kn,kc,jo,jn,jc⟩ := v
        dsimp only at hvk hvs hvi hvK hvZ
        subst hvk hvs hvi
        have c0 : w5.cell? ⟨nb,nf + i * 5,none⟩ = some (.int .i64 x.k) := HB5.out.cell' (by simpa using hcc 0 _ rfl)
        have c1' : w5.cell? ⟨nb,nf + i * 5 + 1,none⟩ = some (.string ⟨x.s.toArray⟩) := HB5.out.cell' (by simpa using hcc 1 _ rfl)
        have c2' : w5.cell? ⟨nb,nf + i * 5 + 2,none⟩ = some (.int .i64 x.i) := HB5.out.cell' (by simpa using hcc 2 _ rfl)
        have c3 : w5.cell? ⟨nb,nf + i * 5 + 3,none⟩ = some (.slice ko kn kc) := HB5.out.cell' (by simpa using hcc 3 _ rfl)
        have c4 : w5.cell? ⟨nb,nf + i * 5 + 4,none⟩ = some (.slice jo jn jc) := HB5.out.cell' (by simpa using hcc 4 _ rfl)
        have hjn : x.kids.length = jn := hvZ.1
        have hkn : x.keys.length = kn := by have := hvK.1; rw [List.length_map] at this; exact this
        have hii : (i : Int) < (n : Int) := by omega
        have hi0 : (0 : Int) ≤ (i : Int) := by omega
        have hjn2 : jn ≤ 4611686018427387904 := by omega
        have w1' : IntKind.i64.wrap ((i : Int) - 1) = (i : Int) - 1 := by rw [IntKind.wrap_i64]; omega
        have w2' : IntKind.i64.wrap ((jn : Int) - 1) = (jn : Int) - 1 := by rw [IntKind.wrap_i64]; omega
        have HvK := Lib.hid hvK
        have HvZ := Lib.hid hvZ
        obtain ⟨W,hW⟩ : ∃ W,w5.alloc (.cells #[.int .i64 x.k,.string ⟨x.s.toArray⟩,.int .i64 x.i,.slice ko kn kc,.slice jo jn jc] 65) = W := ⟨_,rfl⟩
        have BW : Bel w5 W := by rw [← hW]; exact Bel.alloc (Bel.refl w5) _
        obtain ⟨y0,y1,y2,y3,y4⟩ := box5 w5 (.int .i64 x.k) (.string ⟨x.s.toArray⟩) (.int .i64 x.i) (.slice ko kn kc) (.slice jo jn jc) 65
        rw [hW] at y0 y1 y2 y3 y4
        have HW := Lib.hid hW
        have HBW := Lib.hid BW
        obtain ⟨K,hK⟩ : ∃ K,kidsG (low : Int) sz ht x.kids.reverse ((i : Int) - 1) 0 = K := ⟨_,rfl⟩
        have HKs := Lib.hid (show kidsG (low : Int) sz ht (x.kids.take jn).reverse ((i : Int) - 1) 0 = K by rw [List.take_of_length_le (by omega)]; exact hK)
        have HKn := Lib.hid (show K = none → X = none from fun h => HX3.out (by rw [← hM5]; exact nodesG_no (oneG_kids (by rw [hK,h]))))
        have HKb := Lib.hid (show ndB L x = false → X = none from fun h => HX3.out (by rw [← hM5]; exact nodesG_no (oneG_bad h)))
        have HKg := Lib.hid (show ∀ a t,K = some (a,t) → ndB L x = true → nodesG L (low : Int) (N0.drop (i + 1 - low)) (i + 1) (sz ++ [(i : Int) - a]) (ht ++ [t + 1]) = Y3 from fun a t h h2 => by rw [← hM5,nodesG_go (oneG_go (by rw [hK,h]) h2)])
        have HKd := Lib.hid (show ∀ q,K = some q → ∀ z ∈ x.kids,(low : Int) ≤ z ∧ z ≤ (i : Int) - 1 from fun q h z hz => kidsG_bd HBd5.out.pos _ _ _ q (by rw [hK,h]) z (List.mem_reverse.2 hz))
        clear hno hcs hcc hv hM5 hN hx hvK hvZ BW hW hK
        go_wp2_with fail
        go_loopw [13,14,15] (fun av tv jv w6 => ∃ (jj : Nat) (a t : Int),av = .int .i64 a ∧ tv = .int .i64 t ∧ jv = .int .i64 ((jj : Int) - 1) ∧ jj ≤ jn ∧ w6 = W ∧ Hid (kidsG (low : Int) sz ht (x.kids.take jj).reverse a t = K) ∧ Hid (-1 ≤ a ∧ a < (i : Int) ∧ 0 ≤ t ∧ t ≤ (i : Int))) (fun _ _ jv _ => (intOf jv + 1).toNat)
        case atStart => exact ⟨jn,(i : Int) - 1,0,rfl,rfl,rfl,Nat.le_refl _,HW.out,HKs,Lib.hid (by omega)⟩
        case round =>
         obtain ⟨jj,a,t,rfl,rfl,rfl,hjj,hw6,HK6,Hb6⟩ := hrel
         obtain rfl := hw6.symm
         cases jj with
         | succ jj =>
          have hjl : jj < x.kids.length := by omega
          have hK6 := HK6.out
          rw [rev_take hjl] at hK6
          obtain ⟨kb,kf,rfl,hck⟩ := za_addr HvZ.out (by omega)
          have cK := HBW.out.cell' (hck jj hjl)
          obtain ⟨kz,hkz⟩ : ∃ kz,x.kids[jj] = kz := ⟨_,rfl⟩
          rw [hkz] at cK hK6
          obtain ⟨b1,b2,b3,b4⟩ := Hb6.out
          have hjj' : (jj : Int) < (jn : Int) := by omega
          have hjs : ((jj + 1 : Nat) : Int) - 1 = (jj : Int) := by omega
          rw [hjs]
          have hjw : IntKind.i64.wrap ((jj : Int) - 1) = (jj : Int) - 1 := by rw [IntKind.wrap_i64]; omega
          clear hck hkz
          by_cases h1 : kz = a
          ·subst h1
           by_cases h2 : (low : Int) ≤ kz
           ·rw [kidsG_go ⟨rfl,h2⟩] at hK6
            obtain ⟨an,rfl,hal,hgs⟩ := getD_at hnum.1 (by omega) b2
            obtain ⟨an2,hae,hal2,hgh⟩ := getD_at (l := ht) (a := (an : Int)) hnum.2 (by omega) b2
            obtain rfl : an = an2 := by omega
            rw [hgs,hgh] at hK6
            obtain ⟨sb,sf,rfl,hcs⟩ := HR5.out.arg1.2 (by omega)
            obtain ⟨tb,tf,rfl,hct⟩ := HR5.out.arg2.2 (by omega)
            have e1 := HBW.out.cell' (hcs an hal)
            have e2 := HBW.out.cell' (hct an hal2)
            have q1 := HBd5.out.1 an _ (List.getElem?_eq_getElem hal)
            have q2 := HBd5.out.2 an _ (List.getElem?_eq_getElem hal2)
            obtain ⟨sv,hsv⟩ : ∃ sv,sz[an] = sv := ⟨_,rfl⟩
            obtain ⟨tv,htv⟩ : ∃ tv,ht[an] = tv := ⟨_,rfl⟩
            rw [hsv] at e1 q1 hK6
            rw [htv] at e2 q2 hK6
            have hal' : (an : Int) < (i : Int) := b2
            have ha0 : (0 : Int) ≤ (an : Int) := by omega
            have hna : ¬ (an : Int) < (low : Int) := by omega
            have hwa : IntKind.i64.wrap ((an : Int) - sv) = (an : Int) - sv := by rw [IntKind.wrap_i64]; omega
            have HK7 := Lib.hid hK6
            have Hb7 := Lib.hid (show -1 ≤ (an : Int) - sv ∧ (an : Int) - sv < (i : Int) ∧ 0 ≤ max t tv ∧ max t tv ≤ (i : Int) by omega)
            clear hK6 hcs hct hgs hgh hsv htv hae q1 q2
            go_wp2_with fail
            go_round
            case rel => exact ⟨jj,(an : Int) - sv,max t tv,by go_num,by go_num,by go_num,by omega,by first | rfl | trivial,HK7,Hb7⟩
            case measure => first | (simp [intOf]; done) | (simp [intOf]; omega)
           ·have hz := Lib.hid (HKn.out (by rw [← hK6]; exact kidsG_no (fun h => h2 h.2)))
            have h2' : kz < (low : Int) := by omega
            clear hK6
            go_wp2_with fail
            go_ret3
            rw [hz.out]
            exact ⟨rfl,Bel.trans HBV.out (Bel.trans HB5.out HBW.out)⟩
          ·have hz := Lib.hid (HKn.out (by rw [← hK6]; exact kidsG_no (fun h => h1 h.1)))
           have h1' : (kz == a) = false := by simpa using h1
           have h1'' : (kz != a) = true := by simpa using h1
           clear hK6
           go_wp2_with fail
           go_ret3
           rw [hz.out]
           exact ⟨rfl,Bel.trans HBV.out (Bel.trans HB5.out HBW.out)⟩
         | zero =>
          have hKe : K = some (a,t) := by rw [← HK6.out]; rfl
          obtain ⟨b1,b2,b3,b4⟩ := Hb6.out
          have hkd := HKd.out _ hKe
          have HFd := Lib.hid (fun U (B : Bel W U) => rfld_all x.k x.s hsx1 x.i ko jo kn kc jn jc x.keys (by omega) hsx2 U ((HvK.out.on HBW.out).on B))
          have HPt := Lib.hid (fun U (B : Bel W U) => rprt_any x.k (some ⟨nb,nf,none⟩) jo n nc jn jc ⟨x.s.toArray⟩ x.i ko kn kc L x.kids hjn2 (fun z hz => by have := hkd z hz; omega) U (HA.out.on (Bel.trans HB5.out (Bel.trans HBW.out B))) ((HvZ.out.on HBW.out).on B))
          have hnd : ndB L x = (textB x.k x.s && (intF x.k x.i && (keysB x.k x.keys jn && partB x.k (rolesL L x.kids)))) := by unfold ndB; rw [hjn]
          obtain ⟨bF,hbF⟩ : ∃ bF,(intF x.k x.i && (textB x.k x.s && keysB x.k x.keys jn)) = bF := ⟨_,rfl⟩
          obtain ⟨bP,hbP⟩ : ∃ bP,partB x.k (rolesL L x.kids) = bP := ⟨_,rfl⟩
          have hnd2 : ndB L x = (bF && bP) := by
           rw [hnd,hbP,← hbF]
           cases textB x.k x.s <;> cases intF x.k x.i <;> cases keysB x.k x.keys jn <;> rfl
          rw [hbF] at HFd
          rw [hbP] at HPt
          have hm1 : (((0 : Nat) : Int) - 1 ≥ 0) = False := by simp
          clear hnd hbF hbP hkd
          cases bF with
          | false =>
           have hz := Lib.hid (HKb.out hnd2)
           clear HPt hnd2
           go_wp2_with fail
           refine (HFd.out _ (Bel.refl _)).mono ?_
           rintro e w7 ⟨rfl,g⟩
           go_wp2_with fail
           go_ret3
           rw [hz.out]
           exact ⟨rfl,Bel.trans HBV.out (Bel.trans HB5.out (Bel.trans HBW.out g))⟩
          | true =>
           rw [Bool.true_and] at hnd2
           go_wp2_with fail
           refine (HFd.out _ (Bel.refl _)).mono ?_
           rintro e w7 ⟨rfl,g⟩
           have G7 := Lib.hid g
           have z0 := g.cell' y0
           have z1 := g.cell' y1
           have z2 := g.cell' y2
           have z3 := g.cell' y3
           have z4 := g.cell' y4
           have p0 := g.cell' (HBW.out.cell' v0)
           clear g
           cases bP with
           | false =>
            have hz := Lib.hid (HKb.out hnd2)
            go_wp2_with fail
            refine (HPt.out _ G7.out).mono ?_
            rintro e w8 ⟨rfl,g⟩
            go_wp2_with fail
            go_ret3
            rw [hz.out]
            exact ⟨rfl,Bel.trans HBV.out (Bel.trans HB5.out (Bel.trans HBW.out (Bel.trans G7.out g)))⟩
           | true =>
            have HM6 := Lib.hid (HKg.out a t hKe hnd2)
            have hwi : IntKind.i64.wrap ((i : Int) - a) = (i : Int) - a := by rw [IntKind.wrap_i64]; omega
            have hwt : IntKind.i64.wrap (t + 1) = t + 1 := by rw [IntKind.wrap_i64]; omega
            go_wp2_with fail
            refine (HPt.out _ G7.out).mono ?_
            rintro e w8 ⟨rfl,g⟩
            have G8 := Lib.hid (Bel.trans HB5.out (Bel.trans HBW.out (Bel.trans G7.out g)))
            have hR8 := HR5.out.on (Bel.trans HBW.out (Bel.trans G7.out g))
            clear g z0 z1 z2 z3 z4 p0
            have HR8 := Lib.hid (hR8.on (Bel.alloc (Bel.refl w8) (.cells #[.int .i64 ((i : Int) - a)] 3)))
            have hbs : V.heap.size ≤ (w8.alloc (.cells #[.int .i64 ((i : Int) - a)] 3)).heap.size := by have := G8.out.size; rw [alloc_sz]; omega
            have Hnw : Hid (∀ j u,[Value.int .i64 ((i : Int) - a)][j]? = some u → (w8.alloc (.cells #[.int .i64 ((i : Int) - a)] 3)).cell? ((⟨w8.heap.size,0,none⟩ : Addr).add j) = some u) := Lib.hid (World.news_of_block (cs := #[.int .i64 ((i : Int) - a)]) (t := 3) (fr := (0,0)) (heap_new w8 _))
            have hi1 : i + 1 ≤ 1099511627776 := by omega
            clear hR8
            go_wp2_with (at_builtin; refine list_app1 _ _ rfl rfl rfl rfl HR8.out hbs (fun _ _ h => h) Hnw.out hi1 ?_; intro o9 c9 w9 k9 g9; refine Hid.out ?_)
            refine Lib.hid ?_
            have G9 := Lib.hid (Mod.bel_of (Bel.alloc G8.out (.cells #[.int .i64 ((i : Int) - a)] 3)) g9.out (fun i h => h.1))
            have HR9 := Lib.hid (k9.out.on (Bel.alloc (Bel.refl w9) (.cells #[.int .i64 (t + 1)] 3)))
            have hbs9 : V.heap.size ≤ (w9.alloc (.cells #[.int .i64 (t + 1)] 3)).heap.size := by have := G9.out.size; rw [alloc_sz]; omega
            have Hnw9 : Hid (∀ j u,[Value.int .i64 (t + 1)][j]? = some u → (w9.alloc (.cells #[.int .i64 (t + 1)] 3)).cell? ((⟨w9.heap.size,0,none⟩ : Addr).add j) = some u) := Lib.hid (World.news_of_block (cs := #[.int .i64 (t + 1)]) (t := 3) (fr := (0,0)) (heap_new w9 _))
            have HBd9 := Lib.hid (show BdG (sz ++ [(i : Int) - a]) (ht ++ [t + 1]) from ⟨bd_snoc HBd5.out.1 (by rw [hnum.1]; omega),bd_snoc HBd5.out.2 (by rw [hnum.2]; omega)⟩)
            clear g9 k9
            go_wp2_with (at_builtin; refine list_app2 _ _ rfl rfl rfl rfl HR9.out hbs9 (fun _ _ h => h) Hnw9.out hi1 ?_; intro o10 c10 w10 k10 g10; refine Hid.out ?_)
            refine Lib.hid ?_
            have G10 := Lib.hid (Mod.bel_of (Bel.alloc G9.out (.cells #[.int .i64 (t + 1)] 3)) g10.out (fun i h => h.1))
            clear g10
            go_wp2
            go_round
            case rel => exact ⟨i + 1,c9,c10,o9,o10,sz ++ [(i : Int) - a],ht ++ [t + 1],rfl,rfl,by go_num,by omega,by omega,k10,G10,HM6,HBd9⟩
            case measure => first | (simp [intOf]; done) | (simp [intOf]; omega)
       ·obtain rfl : i = z + 1 := by omega
        have hY3 : Y3 = some (sz,ht) := by
         have := HM5.out
         rw [HN1.out,nodesG] at this
         exact this.symm
        have hzl : z < sz.length := by omega
        obtain ⟨sb,sf,rfl,hcs⟩ := HR5.out.arg1.2 (by omega)
        have e1 := hcs z hzl
        have hgd : sz.getD z 0 = sz[z] := by rw [List.getD_eq_getElem?_getD,List.getElem?_eq_getElem hzl,Option.getD_some]
        have d4 := (Bel.trans HBV.out HB5.out)
        have hx4 := fun h => HX4.out sz ht hY3 (by rw [hgd]; exact h)
        have hx5 := fun h => HX5.out sz ht hY3 (by rw [hgd]; exact h)
        obtain ⟨sv,hsv⟩ : ∃ sv,sz[z] = sv := ⟨_,rfl⟩
        rw [hsv] at e1 hx4 hx5
        have hz1 : (z : Int) < ((z + 1 : Nat) : Int) := by omega
        have hz0 : (0 : Int) ≤ (z : Int) := by omega
        have hw1 : IntKind.i64.wrap ((z : Int) - (low : Int)) = (z : Int) - (low : Int) := by rw [IntKind.wrap_i64]; omega
        have hw2 : IntKind.i64.wrap ((z : Int) - (low : Int) + 1) = (z : Int) - (low : Int) + 1 := by rw [IntKind.wrap_i64]; omega
        have hw3 : IntKind.i64.wrap ((z : Int) + 1) = (z : Int) + 1 := by rw [IntKind.wrap_i64]; omega
        clear hcs hgd hsv
        by_cases hs : sv = (z : Int) - (low : Int) + 1
        ·have HM7 := Lib.hid (hx5 hs)
         subst hs
         clear hx4 hx5
         go_wp2_with fail
         go_round
         case rel => exact ⟨q + 1,z + 1,c1,c2,_,a2,sz,ht,rfl,rfl,by go_num,by go_num,by omega,by omega,HR5,HB5,HM7,HBd5⟩
         case measure => first | (simp [intOf]; done) | (simp [intOf]; omega)
        ·have hz := Lib.hid (hx4 hs)
         have hs1 : (sv == (z : Int) - (low : Int) + 1) = false := by simpa using hs
         have hs2 : (sv != (z : Int) - (low : Int) + 1) = true := by simpa using hs
         clear hx4 hx5
         go_wp2_with fail
         go_ret3
         rw [hz.out]
         exact ⟨rfl,d4⟩
  ·have hz : Hid (X = some (sz,ht,low)) := Lib.hid (by have := HM.out; rw [List.drop_eq_nil_of_le (by rw [HFk.out]; exact hqk),funcsG] at this; exact this.symm)
   obtain rfl : q = k := by omega
   have hn1 := HR.out.nums
   have ha1 := HR.out.arg1
   have ha2 := HR.out.arg2
   have Ha1 := Lib.hid ha1
   have Ha2 := Lib.hid ha2
   have Hn := Lib.hid hn1
   clear hn1 ha1 ha2
   by_cases hln : low = n
   ·have hl2 : ((low : Int) == (n : Int)) = true := by simp; omega
    subst hln
    go_wp2_with fail
    go_quiet (fail)
    have HBq := Lib.hid (HB.out.drewN nq)
    have Hq1 := Lib.hid (Ha1.out.on ((Bel.refl wr).drewN nq))
    have Hq2 := Lib.hid (Ha2.out.on ((Bel.refl wr).drewN nq))
    go_wp2
    go_ret3
    rw [hz.out]
    refine ⟨⟨a1,c1,a2,c2,?_,?_,?_⟩,Bel.trans HBV.out HBq.out⟩
    ·simp only [Hn.out.1,Hn.out.2]; simp
    ·simp only [Hn.out.1]; exact Hq1.out
    ·simp only [Hn.out.2]; exact Hq2.out
   ·have hl2 : ((low : Int) == (n : Int)) = false := by simp; omega
    go_wp2_with fail
    go_quiet (fail)
    have HBq := Lib.hid (HB.out.drewN nq)
    have Hq1 := Lib.hid (Ha1.out.on ((Bel.refl wr).drewN nq))
    have Hq2 := Lib.hid (Ha2.out.on ((Bel.refl wr).drewN nq))
    go_wp2
    go_ret3
    rw [hz.out]
    refine ⟨⟨a1,c1,a2,c2,?_,?_,?_⟩,Bel.trans HBV.out HBq.out⟩
    ·simp only [Hn.out.1,Hn.out.2,hln]; simp
    ·simp only [Hn.out.1]; exact Hq1.out
    ·simp only [Hn.out.2]; exact Hq2.out
theorem body_bd : ∀ (fs : List Fu) (b : Nat),∀ f ∈ funcF b fs,(b : Int) ≤ f.body ∧ f.body < ((b + sizeF fs : Nat) : Int)
 | [],_ => fun f h => by cases h
 | g :: r,b => fun f h => by
  have hp := size_pos g.body
  rw [funcF] at h
  rcases List.mem_cons.1 h with rfl | h
  ·rw [sizeF]; simp only; omega
  ·have := body_bd r _ f h
   rw [sizeF]
   omega
theorem htF_len : ∀ fs : List Fu,(htF fs).length = sizeF fs
 | [] => rfl
 | f :: r => by rw [htF,sizeF,List.length_append,htT_len,htF_len r]
theorem meas_facts {L : List Nd} {F : List Fw} {x : List Int × List Int × Nat} (h : measG L F = some x) : x.2.1.length = x.2.2 ∧ ∀ f ∈ F,0 ≤ f.body ∧ f.body < (x.2.2 : Int) := by
 obtain ⟨sz,ht,e⟩ := x
 obtain ⟨fs,R2,h1,h2,h3,h4,h5,h6⟩ := funcs_sound F 0 [] [] [] L sz ht e rfl rfl rfl rfl h
 rw [List.nil_append] at h5
 simp only
 refine ⟨by rw [h5,htF_len]; omega,fun f hf => ?_⟩
 rw [h2] at hf
 have := body_bd fs 0 f hf
 omega
def limF (ht : List Int) (f : Fw) : Bool := decide (8 < f.params.length) || decide (32 < ht.getD f.body.toNat 0)
theorem lim_yes {ht : List Int} {F : List Fw} {j : Nat} {X : Bool} (hj : j < F.length) (h : (F.drop j).any (limF ht) = X) (hb : limF ht F[j] = true) : X = true := by
 rw [List.drop_eq_getElem_cons hj,List.any_cons,hb,Bool.true_or] at h
 exact h.symm
theorem lim_no {ht : List Int} {F : List Fw} {j : Nat} {X : Bool} (hj : j < F.length) (h : (F.drop j).any (limF ht) = X) (hb : limF ht F[j] = false) : (F.drop (j + 1)).any (limF ht) = X := by
 rw [List.drop_eq_getElem_cons hj,List.any_cons,hb,Bool.false_or] at h
 exact h
theorem rcheck_any (no fo : Option Addr) (n nc k fc : Nat) (L : List Nd) (F : List Fw) (hn : n ≤ 4611686018427387904) (hk : k ≤ 4611686018427387904) (w : World) (hA : NArg w no n L) (hF : FArg w fo k F) (hwf : WfN L) (hwF : ∀ x ∈ F,x.params.length ≤ 4611686018427387904 ∧ -9223372036854775808 ≤ x.body ∧ x.body ≤ 9223372036854775807)
  (hsN : ∀ x ∈ L,Short x.s ∧ ∀ t ∈ x.keys,Short t) (hsF : ∀ f ∈ F,Short f.name ∧ ∀ p ∈ f.params,Short p) :
  Calls Tryz.prog 13 #[.agg #[.slice no n nc,.slice fo k fc]] w fun e w' => e = .returned (.int .i64 (chkG L F)) ∧ Bel w w' := by
 obtain ⟨V,hV⟩ : ∃ V,w.alloc (.cells #[.slice no n nc,.slice fo k fc] 25) = V := ⟨_,rfl⟩
 have BV : Bel w V := by rw [← hV]; exact Bel.alloc (Bel.refl w) _
 obtain ⟨v0,v1⟩ : V.cell? ⟨w.heap.size,0,none⟩ = some (.slice no n nc) ∧ V.cell? ⟨w.heap.size,1,none⟩ = some (.slice fo k fc) := by
  rw [← hV]
  exact ⟨World.cell?_alloc_new ..,World.cell?_alloc_new ..⟩
 have hLn := hA.1
 have hFk := hF.1
 unfold chkG
 by_cases hl : 600 < L.length ∨ 16 < F.length
 ·rw [if_pos hl]
  rw [hLn,hFk] at hl
  have HB := Lib.hid BV
  rcases Nat.lt_or_ge 600 n with h1 | h1
  ·have h1' : (600 : Int) < (n : Int) := by omega
   clear hA hF hwf hwF hsN hsF BV
   go_enter Tryz.func13,Tryz.ntmps13
   go_wp2_with fail
   go_ret
   exact ⟨rfl,HB.out⟩
  ·have h1' : ¬ (600 : Int) < (n : Int) := by omega
   have h2' : (16 : Int) < (k : Int) := by omega
   clear hA hF hwf hwF hsN hsF BV
   go_enter Tryz.func13,Tryz.ntmps13
   go_wp2_with fail
   go_ret
   exact ⟨rfl,HB.out⟩
 ·rw [if_neg hl]
  rw [hLn,hFk] at hl
  have h1' : ¬ (600 : Int) < (n : Int) := by omega
  have h2' : ¬ (16 : Int) < (k : Int) := by omega
  have HMe := Lib.hid (rmeas_any no fo n nc k fc L F (by omega) (by omega) V (hA.on BV) (hF.on BV) hwf hwF hsN hsF)
  have HB := Lib.hid BV
  have HF := Lib.hid (hF.on BV)
  have HwF := Lib.hid hwF
  have HFk := Lib.hid hFk
  have HV := Lib.hid hV
  cases hm : measG L F with
  | none =>
   rw [hm] at HMe
   unfold MeasPost at HMe
   clear hA hF hwf hwF hsN hsF BV hV
   go_enter Tryz.func13,Tryz.ntmps13
   go_wp2_with fail
   rw [HV.out]
   refine HMe.out.mono ?_
   rintro e w2 ⟨rfl,g⟩
   go_wp2_with fail
   go_ret
   exact ⟨rfl,Bel.trans HB.out g⟩
  | some x =>
   rw [hm] at HMe
   obtain ⟨hx1,hx2⟩ := meas_facts hm
   obtain ⟨sz,ht,e0⟩ := x
   unfold MeasPost at HMe
   simp only at hx1 hx2 HMe ⊢
   rw [hLn]
   by_cases he : e0 = n
   rotate_left
   ·rw [if_neg he]
    rw [decide_eq_false he] at HMe
    clear hA hF hwf hwF hsN hsF BV hV
    go_enter Tryz.func13,Tryz.ntmps13
    go_wp2_with fail
    rw [HV.out]
    refine HMe.out.mono ?_
    rintro e w2 ⟨⟨o1,d1,o2,d2,rfl,r1,r2⟩,g⟩
    go_wp2_with fail
    go_ret
    exact ⟨rfl,Bel.trans HB.out g⟩
   ·subst he
    rw [if_pos rfl]
    rw [decide_eq_true rfl] at HMe
    obtain ⟨X,hX⟩ : ∃ X,F.any (limF ht) = X := ⟨_,rfl⟩
    have hX2 : (F.any fun f => decide (8 < f.params.length) || decide (32 < ht.getD f.body.toNat 0)) = X := hX
    rw [hX2]
    have HX := Lib.hid (show (F.drop 0).any (limF ht) = X from hX)
    have Hx2 := Lib.hid hx2
    have Hx1 := Lib.hid hx1
    clear hA hF hwf hwF hsN hsF BV hV hX hX2 hx2 hm
    go_enter Tryz.func13,Tryz.ntmps13
    go_wp2_with fail
    rw [HV.out]
    refine HMe.out.mono ?_
    rintro e w2 ⟨⟨o1,d1,o2,d2,rfl,r1,r2⟩,g⟩
    have G := Lib.hid g
    have R2 := Lib.hid r2
    have c0 := g.cell' v0
    have c1 := g.cell' v1
    have C1 := Lib.hid c1
    clear g r1 r2 v0 v1 c0
    go_wp2_with fail
    go_loopw [6] (fun iv wr => ∃ j : Nat,iv = .int .i64 (j : Int) ∧ j ≤ k ∧ Hid ((F.drop j).any (limF ht) = X) ∧ Hid (Bel w2 wr)) (fun iv _ => k - (intOf iv).toNat)
    case atStart => exact ⟨0,rfl,Nat.zero_le _,HX,Lib.hid (Bel.refl _)⟩
    case round =>
     obtain ⟨j,rfl,hj,HM,HBr⟩ := hrel
     rename World => wr
     have c1 := HBr.out.cell' C1.out
     rcases Nat.lt_or_ge j k with hjk | hjk
     ·have hjl : j < F.length := by rw [HFk.out]; exact hjk
      obtain ⟨b,off,rfl,hcs⟩ := HF.out.2 (by omega)
      obtain ⟨⟨vs,po,pk,pc,vj⟩,hv,hcc⟩ := hcs j hjl
      have hy := lim_yes hjl HM.out
      have hno := lim_no hjl HM.out
      obtain ⟨hb0,hb1⟩ := Hx2.out _ (List.getElem_mem hjl)
      obtain ⟨f,hf⟩ : ∃ f,F[j] = f := ⟨_,rfl⟩
      rw [hf] at hv hy hno hb0 hb1
      have Bw := Bel.trans G.out HBr.out
      have e1 : wr.cell? ⟨b,off + j * 3 + 1,none⟩ = some (.slice po pk pc) := Bw.cell' (by simpa using hcc 1 _ rfl)
      have e2 : wr.cell? ⟨b,off + j * 3 + 2,none⟩ = some (.int .i64 f.body) := Bw.cell' (by have := hcc 2 _ rfl; rw [hv.j] at this; simpa using this)
      have hpk : f.params.length = pk := by have := hv.ps.1; simpa using this
      obtain ⟨z,hz⟩ : ∃ z : Nat,f.body = (z : Int) := ⟨f.body.toNat,by omega⟩
      have hzl : z < ht.length := by rw [Hx1.out]; omega
      obtain ⟨hb,ho,rfl,hc⟩ := R2.out.2 (by omega)
      have e3 := HBr.out.cell' (hc z hzl)
      have hlim : limF ht f = (decide (8 < pk) || decide (32 < ht[z])) := by
       unfold limF
       rw [hpk,hz,Int.toNat_natCast,List.getD_eq_getElem?_getD,List.getElem?_eq_getElem hzl,Option.getD_some]
      rw [hz] at e2 hb1
      have hjk' : (j : Int) < (k : Int) := by omega
      have hl' : (ht.length : Int) = (e0 : Int) := by rw [Hx1.out]
      have hzl' : (z : Int) < (ht.length : Int) := by omega
      have hz0 : (0 : Int) ≤ (z : Int) := by omega
      obtain ⟨hv2,hhv⟩ : ∃ v,ht[z] = v := ⟨_,rfl⟩
      rw [hhv] at hlim e3
      have Hy := Lib.hid hy
      have Hno := Lib.hid hno
      clear hcs hcc hv hy hno hf hc hpk hz
      by_cases hp8 : 8 < pk
      ·have hz := Lib.hid (Hy.out (by rw [hlim,decide_eq_true hp8,Bool.true_or]))
       have hp8' : (8 : Int) < (pk : Int) := by omega
       clear Hy Hno hlim
       go_wp2_with fail
       go_ret
       try rw [hz.out]
       exact ⟨rfl,Bel.trans HB.out Bw⟩
      ·have hp8' : ¬ (8 : Int) < (pk : Int) := by omega
       by_cases h32 : 32 < hv2
       ·have hz := Lib.hid (Hy.out (by rw [hlim,decide_eq_true h32,Bool.or_true]))
        clear Hy Hno hlim
        go_wp2_with fail
        go_ret
        try rw [hz.out]
        exact ⟨rfl,Bel.trans HB.out Bw⟩
       ·have hM2 := Lib.hid (Hno.out (by rw [hlim,decide_eq_false hp8,decide_eq_false h32]; rfl))
        clear Hy Hno hlim
        go_wp2_with fail
        go_round
        case rel => exact ⟨j + 1,by go_num,by omega,hM2,HBr⟩
        case measure => simp [intOf]; omega
     ·have hz : Hid (X = false) := Lib.hid (by have := HM.out; rw [List.drop_eq_nil_of_le (by rw [HFk.out]; exact hjk)] at this; exact this.symm)
      obtain rfl : j = k := by omega
      have hX0 := hz.out
      subst hX0
      go_wp2_with fail
      go_ret
      exact ⟨rfl,Bel.trans HB.out (Bel.trans G.out HBr.out)⟩
structure Rch (L : List Nd) (F : List Fw) : Prop where
 wf : WfN L
 fn : ∀ x ∈ F,x.params.length ≤ 4611686018427387904 ∧ -9223372036854775808 ≤ x.body ∧ x.body ≤ 9223372036854775807
 sn : ∀ x ∈ L,Short x.s ∧ ∀ t ∈ x.keys,Short t
 sf : ∀ f ∈ F,Short f.name ∧ ∀ p ∈ f.params,Short p
open Go.RowKit Go.ChangeShapes Go.WideShapes Go.Deep
section
variable {H : Type} {enc : TypeId × Value → H} {w : World} {held : Bool}
theorem wt_str {P : Program} {t : TypeId} {s : Txt} (h : Wt P t (DataW.lit (H := H) (.string s))) : Short s := by
 have h1 := h s.length (by simp [DataW.weights])
 have h2 := reachBytes_lt
 have h3 : (2 : Nat) ^ 47 = 140737488355328 := by decide
 show s.length ≤ 140737488355328
 omega
theorem strs_open2 {fuel : Nat} {cs : List Value} {x : DataW H × List MemPlace} {t : TypeId} (ht : Tryz.prog.underlying t = some (.slice 9)) (h : DataW.trod enc Tryz.prog w 0 (fun _ => true) held fuel t cs = some x) (hz : Wt Tryz.prog t x.1) :
  ∃ (o : Option Addr) (n c : Nat) (l : List Txt),cs = [.slice o n c] ∧ KArg w o n l ∧ n ≤ c ∧ n ≤ 4611686018427387904 ∧ (0 < n → ∀ a,o = some a → ∃ b off,a = ⟨b,off,none⟩) ∧ ∀ t ∈ l,Short t := by
 rcases open_strings ht Tryz.underlying9 (by kernel_rfl) h with ⟨hcs,hx⟩ | ⟨a,len,cap,ss,hcs,_,hl,hm,hz',rfl,hcell,hws⟩
 ·exact ⟨none,0,0,[],hcs,KArg.nil w none,Nat.le_refl _,by omega,fun h0 => absurd h0 (Nat.lt_irrefl 0),fun t h => (by cases h)⟩
 ·simp only [if_true] at hz'
  have hb : Tryz.prog.bytesOf 9 = 16 := by kernel_rfl
  have h1 := (hz.slice ht).1
  rw [hb] at h1
  have h2 := reach_lt (by omega) h1
  simp only [strs,List.length_map,List.length_take] at h2
  have hmp : ((ss.take len).map fun s => s.data.toList).map bz = ss.take len := by
   rw [List.map_map]
   conv => rhs; rw [← List.map_id (ss.take len)]
   exact List.map_congr_left fun s _ => rfl
  refine ⟨some a,len,cap,(ss.take len).map fun s => s.data.toList,hcs,?_,hl,by omega,fun h0 b hb => ?_,fun t ht1 => ?_⟩
  ·unfold KArg
   rw [hmp]
   refine ⟨by simp; omega,fun i hi => ⟨a,rfl,?_⟩⟩
   have hi' : i < len := by simp at hi; omega
   rw [hcell i (by omega)]
   simp [List.getD,List.getElem?_eq_getElem (show i < ss.length by omega)]
  ·obtain rfl : a = b := Option.some.inj hb
   have h3 := Lex.spot_none (hcell 0 (by omega))
   obtain ⟨ab,ao,asp⟩ := a
   unfold Addr.add at h3
   simp at h3
   subst h3
   exact ⟨ab,ao,rfl⟩
  ·obtain ⟨s,hs,rfl⟩ := List.mem_map.1 ht1
   exact wt_str ((hz.slice ht).2 (.lit (.string s.data.toList)) (List.mem_map.2 ⟨s,hs,rfl⟩))
def RNd2 (w : World) (cs : List Value) (x : Nd) : Prop := ∃ v : Nv,cs = encV v ∧ NFit w v x ∧ (-9223372036854775808 ≤ x.i ∧ x.i ≤ 9223372036854775807) ∧ x.keys.length ≤ 4611686018427387904 ∧ x.kids.length ≤ 4611686018427387904 ∧ Short x.s ∧ ∀ t ∈ x.keys,Short t
def RFw2 (w : World) (cs : List Value) (x : Fw) : Prop := ∃ v : Fv,cs = encF v ∧ FFit w v x ∧ x.params.length ≤ 4611686018427387904 ∧ (-9223372036854775808 ≤ x.body ∧ x.body ≤ 9223372036854775807) ∧ Short x.name ∧ ∀ p ∈ x.params,Short p
theorem node_open2 (n : Nat) (cs : List Value) (y : DataW H × List MemPlace) (h : DataW.trod enc Tryz.prog w 0 (fun _ => true) held n 65 cs = some y) (hz : Wt Tryz.prog 65 y.1) : ∃ x : Nd,RNd2 w cs x := by
 obtain ⟨xs,m,-,rfl,hl,hx,hf⟩ := DataW.trod_struct Tryz.underlying65 h
 have hc5 : Tryz.prog.cellsOf 65 = 5 := by kernel_rfl
 have hxl : xs.length = 5 := hx
 rw [hc5] at hl
 match cs,hl with
 | [u0,u1,u2,u3,u4],_ =>
  match xs,hxl with
  | [x0,x1,x2,x3,x4],_ =>
   have k0 : Tryz.prog.cellsOf 63 = 1 := by kernel_rfl
   have k1 : Tryz.prog.cellsOf 9 = 1 := by kernel_rfl
   have k2 : Tryz.prog.cellsOf 3 = 1 := by kernel_rfl
   have k3 : Tryz.prog.cellsOf 44 = 1 := by kernel_rfl
   have k4 : Tryz.prog.cellsOf 38 = 1 := by kernel_rfl
   have h0 : DataW.trod enc Tryz.prog w 0 (fun _ => true) held m 63 (([u0,u1,u2,u3,u4].drop 0).take (Tryz.prog.cellsOf 63)) = [x0,x1,x2,x3,x4][0]? := hf 0 _ rfl
   have h1 : DataW.trod enc Tryz.prog w 0 (fun _ => true) held m 9 (([u0,u1,u2,u3,u4].drop 1).take (Tryz.prog.cellsOf 9)) = [x0,x1,x2,x3,x4][1]? := hf 1 _ rfl
   have h2 : DataW.trod enc Tryz.prog w 0 (fun _ => true) held m 3 (([u0,u1,u2,u3,u4].drop 2).take (Tryz.prog.cellsOf 3)) = [x0,x1,x2,x3,x4][2]? := hf 2 _ rfl
   have h3 : DataW.trod enc Tryz.prog w 0 (fun _ => true) held m 44 (([u0,u1,u2,u3,u4].drop 3).take (Tryz.prog.cellsOf 44)) = [x0,x1,x2,x3,x4][3]? := hf 3 _ rfl
   have h4 : DataW.trod enc Tryz.prog w 0 (fun _ => true) held m 38 (([u0,u1,u2,u3,u4].drop 4).take (Tryz.prog.cellsOf 38)) = [x0,x1,x2,x3,x4][4]? := hf 4 _ rfl
   have zs : Wt Tryz.prog 9 x1.1 := hz.agg Tryz.underlying65 (j := 1) rfl rfl
   have z3 : Wt Tryz.prog 44 x3.1 := hz.agg Tryz.underlying65 (j := 3) rfl rfl
   have z4 : Wt Tryz.prog 38 x4.1 := hz.agg Tryz.underlying65 (j := 4) rfl rfl
   rw [k0] at h0
   rw [k1] at h1
   rw [k2] at h2
   rw [k3] at h3
   rw [k4] at h4
   obtain ⟨a0,e0,rfl,w0⟩ := DataW.trod_int Tryz.underlying63 h0
   obtain ⟨a1,e1,rfl,w1⟩ := DataW.trod_string Tryz.underlying9 h1
   obtain ⟨a2,e2,rfl,w2⟩ := DataW.trod_int Tryz.underlying3 h2
   obtain ⟨ko,kn,kc,ks,e3,g3,l3,b3,-,y3⟩ := strs_open2 Tryz.underlying44 h3 z3
   obtain ⟨jo,jn,jc,js,e4,g4,l4,b4⟩ := ints_open Tryz.underlying38 h4 z4
   simp only [List.drop_zero,List.drop_succ_cons,List.take_succ_cons,List.take_zero,List.cons.injEq,and_true] at e0 e1 e2 e3 e4
   subst e0 e1 e2 e3 e4
   have q3 : ks.length = kn := by have := g3.1; simpa using this
   have q4 : js.length = jn := g4.1
   exact ⟨⟨a0,a1.data.toList,a2,ks,js⟩,⟨a0,a1.data.toList,a2,ko,kn,kc,jo,jn,jc⟩,rfl,⟨rfl,rfl,rfl,g3,g4,l3,l4⟩,Lex.wf_bds w2,by show ks.length ≤ _; omega,by show js.length ≤ _; omega,wt_str zs,y3⟩
theorem func_open2 (n : Nat) (cs : List Value) (y : DataW H × List MemPlace) (h : DataW.trod enc Tryz.prog w 0 (fun _ => true) held n 61 cs = some y) (hz : Wt Tryz.prog 61 y.1) : ∃ x : Fw,RFw2 w cs x := by
 obtain ⟨xs,m,-,rfl,hl,hx,hf⟩ := DataW.trod_struct Tryz.underlying61 h
 have hc5 : Tryz.prog.cellsOf 61 = 3 := by kernel_rfl
 have hxl : xs.length = 3 := hx
 rw [hc5] at hl
 match cs,hl with
 | [u0,u1,u2],_ =>
  match xs,hxl with
  | [x0,x1,x2],_ =>
   have k1 : Tryz.prog.cellsOf 9 = 1 := by kernel_rfl
   have k2 : Tryz.prog.cellsOf 3 = 1 := by kernel_rfl
   have k3 : Tryz.prog.cellsOf 44 = 1 := by kernel_rfl
   have h0 : DataW.trod enc Tryz.prog w 0 (fun _ => true) held m 9 (([u0,u1,u2].drop 0).take (Tryz.prog.cellsOf 9)) = [x0,x1,x2][0]? := hf 0 _ rfl
   have h1 : DataW.trod enc Tryz.prog w 0 (fun _ => true) held m 44 (([u0,u1,u2].drop 1).take (Tryz.prog.cellsOf 44)) = [x0,x1,x2][1]? := hf 1 _ rfl
   have h2 : DataW.trod enc Tryz.prog w 0 (fun _ => true) held m 3 (([u0,u1,u2].drop 2).take (Tryz.prog.cellsOf 3)) = [x0,x1,x2][2]? := hf 2 _ rfl
   have zs : Wt Tryz.prog 9 x0.1 := hz.agg Tryz.underlying61 (j := 0) rfl rfl
   have z1 : Wt Tryz.prog 44 x1.1 := hz.agg Tryz.underlying61 (j := 1) rfl rfl
   rw [k1] at h0
   rw [k3] at h1
   rw [k2] at h2
   obtain ⟨a0,e0,rfl,w0⟩ := DataW.trod_string Tryz.underlying9 h0
   obtain ⟨po,k,pc,ps,e1,g1,l1,b1,s1,y1⟩ := strs_open2 Tryz.underlying44 h1 z1
   obtain ⟨a2,e2,rfl,w2⟩ := DataW.trod_int Tryz.underlying3 h2
   simp only [List.drop_zero,List.drop_succ_cons,List.take_succ_cons,List.take_zero,List.cons.injEq,and_true] at e0 e1 e2
   subst e0 e1 e2
   have q1 : ps.length = k := by have := g1.1; simpa using this
   exact ⟨⟨a0.data.toList,ps,a2⟩,⟨a0.data.toList,po,k,pc,a2⟩,rfl,⟨rfl,rfl,g1,l1,s1⟩,by show ps.length ≤ _; omega,Lex.wf_bds w2,wt_str zs,y1⟩
theorem open_prog2 {r : Reach} {b0 : Nat} {v : Value} {d : DataW H} {p : List MemPlace} (hv : Value.okWide Tryz.prog w r b0 25 v) (h : DataW.Trod enc Tryz.prog w 0 (fun _ => true) held 25 v d p) (hz : Wt Tryz.prog 25 d) :
  ∃ (no fo : Option Addr) (n nc k fc : Nat) (L : List Nd) (F : List Fw),v = .agg #[.slice no n nc,.slice fo k fc] ∧ NArg w no n L ∧ FArg w fo k F ∧ n ≤ 4611686018427387904 ∧ k ≤ 4611686018427387904 ∧ Rch L F := by
 have hc2 : Tryz.prog.cellsOf 25 = 2 := by kernel_rfl
 obtain ⟨c0,c1,y0,y1,m,rfl,rfl,rfl,h0,h1⟩ := Joins.open_agg2 Tryz.underlying25 (by kernel_rfl) hc2 hv h
 have z0 : Wt Tryz.prog 22 y0.1 := hz.agg Tryz.underlying25 (j := 0) rfl rfl
 have z1 : Wt Tryz.prog 23 y1.1 := hz.agg Tryz.underlying25 (j := 1) rfl rfl
 have hn5 : Tryz.prog.cellsOf 65 = 5 := by kernel_rfl
 have hf3 : Tryz.prog.cellsOf 61 = 3 := by kernel_rfl
 have b5 : Tryz.prog.bytesOf 65 = 80 := by kernel_rfl
 have b3 : Tryz.prog.bytesOf 61 = 48 := by kernel_rfl
 obtain ⟨no,n,nc,L,e0,l0,w0,g0,r0⟩ := rows_open (R := RNd2 w) Tryz.underlying22 hn5 (by omega) node_open2 h0 z0
 obtain ⟨fo,k,fc,F,e1,l1,w1,g1,r1⟩ := rows_open (R := RFw2 w) Tryz.underlying23 hf3 (by omega) func_open2 h1 z1
 simp only [List.cons.injEq,and_true] at e0 e1
 subst e0 e1
 rw [b5] at w0
 rw [b3] at w1
 refine ⟨no,fo,n,nc,k,fc,L,F,rfl,⟨l0,fun h0 => ?_⟩,⟨l1,fun h0 => ?_⟩,reach_lt (by omega) w0,reach_lt (by omega) w1,⟨fun x hx => ?_,fun x hx => ?_,fun x hx => ?_,fun x hx => ?_⟩⟩
 ·obtain ⟨b,off,ho,hr⟩ := r0 h0
  refine ⟨b,off,ho,fun i hi => ?_⟩
  obtain ⟨cs',-,⟨v,rfl,hv,-⟩,hcell⟩ := hr i hi
  exact ⟨v,hv,hcell⟩
 ·obtain ⟨b,off,ho,hr⟩ := r1 h0
  refine ⟨b,off,ho,fun i hi => ?_⟩
  obtain ⟨cs',-,⟨v,rfl,hv,-⟩,hcell⟩ := hr i hi
  exact ⟨v,hv,hcell⟩
 ·obtain ⟨cs,v,-,-,q1,q2,q3,-⟩ := g0 x hx
  exact ⟨q1,q2,q3⟩
 ·obtain ⟨cs,v,-,-,q1,q2,-⟩ := g1 x hx
  exact ⟨q1,q2⟩
 ·obtain ⟨cs,v,-,-,-,-,-,q⟩ := g0 x hx
  exact q
 ·obtain ⟨cs,v,-,-,-,-,q⟩ := g1 x hx
  exact q
end
end Syn
end Go.Proofs.YtcapkeaedpabjaaGreatDoor
