/-
  Layer 8, texts merged: SchO, SchP, SchQ, SchR, SchS, SchT, SchU, SchV, SchW, SchX. For every argument within the bounds that each theorem names.
-/
import Derived.Test.YtcapkeaedpabjaaGreatDoorYG4
import Derived.Test.YtcapkeaedpabjaaGreatDoorYD4
set_option maxRecDepth 100000
set_option maxHeartbeats 16000000

/-
 Layer 8: slices.EqualFunc of nodes and of functions; Same, as the program has them.
-/
namespace Go.Proofs.YtcapkeaedpabjaaGreatDoor
open Go.RowKit Go.ChangeShapes Go.WideShapes
namespace Syn

theorem dropG_at {α : Type} [DecidableEq α] {l m : List α} {k : Nat} (h1 : k < l.length) (h2 : k < m.length) : decide (l.drop k = m.drop k) = (decide (l[k] = m[k]) && decide (l.drop (k + 1) = m.drop (k + 1))) := by
 rw [List.drop_eq_getElem_cons h1,List.drop_eq_getElem_cons h2]
 rw [Bool.eq_iff_iff]
 simp only [decide_eq_true_eq,Bool.and_eq_true,List.cons.injEq]
theorem ent_node : ∀ args w,(callFunc 80 args).run Tryz.prog w = .ok (.enter 80 args) w := enters_of Tryz.func80 (by kernel_rfl) rfl
theorem ent_func : ∀ args w,(callFunc 82 args).run Tryz.prog w = .ok (.enter 82 args) w := enters_of Tryz.func82 (by kernel_rfl) rfl
theorem NFit.skeys {w : World} {v : Nv} {x : Nd} (h : NFit w v x) : SArg w v.ko v.kn x.keys := karg_at h.keys
theorem FFit.sps {w : World} {v : Fv} {x : Fw} (h : FFit w v x) : SArg w v.po v.k x.params := karg_at h.ps
def WfF (F : List Fw) : Prop := ∀ x ∈ F,x.params.length ≤ 4611686018427387904
theorem node_same {w W : World} {v1 v2 : Nv} {x1 x2 : Nd} (B : Bel w W) (h1 : NFit w v1 x1) (h2 : NFit w v2 x2) (a1 : x1.keys.length ≤ 4611686018427387904 ∧ x1.kids.length ≤ 4611686018427387904) (a2 : x2.keys.length ≤ 4611686018427387904 ∧ x2.kids.length ≤ 4611686018427387904) :
  Calls Tryz.prog 80 #[nodV v1,nodV v2] W fun e w' => e = .returned (.bool (decide (x1 = x2))) ∧ Bel W w' := by
 have e1 := h1.skeys.1
 have e2 := h2.skeys.1
 have e3 := h1.kids.1
 have e4 := h2.kids.1
 have := sameNode_any v1.k v2.k v1.s v2.s v1.i v2.i v1.ko v2.ko v1.jo v2.jo v1.kn v2.kn v1.kc v2.kc v1.jn v2.jn v1.jc v2.jc x1.keys x2.keys x1.kids x2.kids (by omega) (by omega) (by omega) (by omega) W (h1.skeys.on B) (h2.skeys.on B) (h1.kids.on B).rarg (h2.kids.on B).rarg
 rw [show (decide (v1.k = v2.k) && (decide (v1.s = v2.s) && (decide (v1.i = v2.i) && (decide (x1.keys = x2.keys) && decide (x1.kids = x2.kids))))) = decide (x1 = x2) by
  rw [h1.k,h2.k,h1.s,h2.s,h1.i,h2.i,Bool.eq_iff_iff]
  simp only [Bool.and_eq_true,decide_eq_true_eq]
  cases x1
  cases x2
  simp only [Nd.mk.injEq]] at this
 exact this
def funV (v : Fv) : Value := .agg #[.string ⟨v.s.toArray⟩,.slice v.po v.k v.pc,.int .i64 v.j]
theorem func_same {w W : World} {v1 v2 : Fv} {x1 x2 : Fw} (B : Bel w W) (h1 : FFit w v1 x1) (h2 : FFit w v2 x2) (a1 : x1.params.length ≤ 4611686018427387904) (a2 : x2.params.length ≤ 4611686018427387904) :
  Calls Tryz.prog 82 #[funV v1,funV v2] W fun e w' => e = .returned (.bool (decide (x1 = x2))) ∧ Bel W w' := by
 have e1 := h1.sps.1
 have e2 := h2.sps.1
 have := sameFunc_any v1.s v2.s v1.po v2.po v1.k v2.k v1.pc v2.pc v1.j v2.j x1.params x2.params (by omega) (by omega) W (h1.sps.on B) (h2.sps.on B)
 rw [show (decide (v1.s = v2.s) && (decide (v1.j = v2.j) && decide (x1.params = x2.params))) = decide (x1 = x2) by
  rw [h1.s,h2.s,h1.j,h2.j,Bool.eq_iff_iff]
  simp only [Bool.and_eq_true,decide_eq_true_eq]
  cases x1
  cases x2
  simp only [Fw.mk.injEq]
  constructor
  ·rintro ⟨a,b,c⟩
   exact ⟨a,c,b⟩
  ·rintro ⟨a,b,c⟩
   exact ⟨a,c,b⟩] at this
 exact this
theorem eqN_any (o1 o2 : Option Addr) (n m c1 c2 : Nat) (L1 L2 : List Nd) (hn : n ≤ 4611686018427387904) (hm : m ≤ 4611686018427387904) (hw1 : WfN L1) (hw2 : WfN L2) (w : World) (hA : NArg w o1 n L1) (hB : NArg w o2 m L2) :
  Calls Tryz.prog 79 #[.slice o1 n c1,.slice o2 m c2,.func (.func 80) #[] #[]] w fun e w' => e = .returned (.bool (decide (L1 = L2))) ∧ Bel w w' := by
 have hent := ent_node
 have k1 := hA.1
 have k2 := hB.1
 by_cases h0 : n = m
 ·subst h0
  obtain ⟨X,hX⟩ : ∃ X,decide (L1 = L2) = X := ⟨_,rfl⟩
  have HX := Lib.hid hX
  rw [hX]
  have K1 := Lib.hid k1
  have K2 := Lib.hid k2
  have HA := Lib.hid hA
  have HBB := Lib.hid hB
  have HW1 := Lib.hid hw1
  have HW2 := Lib.hid hw2
  clear hA hB k1 k2 hX hw1 hw2
  go_enter Tryz.func79,Tryz.ntmps79
  go_wp2_with fail
  go_loopw [17] (fun iv wr => ∃ k : Nat,iv = .int .i64 (k : Int) ∧ k ≤ n ∧ Hid (decide (L1.drop k = L2.drop k) = X) ∧ Hid (Bel w wr)) (fun iv _ => n - (intOf iv).toNat)
  case atStart => exact ⟨0,rfl,Nat.zero_le _,HX,Lib.hid (Bel.refl _)⟩
  case round =>
   obtain ⟨k,rfl,hk,HM,HB⟩ := hrel
   rename World => wr
   rcases Nat.lt_or_ge k n with hkn | hkn
   ·have q1 : k < L1.length := by rw [K1.out]; exact hkn
    have q2 : k < L2.length := by rw [K2.out]; exact hkn
    obtain ⟨b,off,rfl,hc1⟩ := HA.out.2 (by omega)
    obtain ⟨b2,off2,rfl,hc2⟩ := HBB.out.2 (by omega)
    obtain ⟨va,hva,hccva⟩ := hc1 k q1
    obtain ⟨vb,hvb,hccvb⟩ := hc2 k q2
    have c0 : wr.cell? ⟨b,off + k * 5,none⟩ = some (.int .i64 va.k) := HB.out.cell' (by simpa using hccva 0 _ rfl)
    have c1 : wr.cell? ⟨b,off + k * 5 + 1,none⟩ = some (.string ⟨va.s.toArray⟩) := HB.out.cell' (by simpa using hccva 1 _ rfl)
    have c2 : wr.cell? ⟨b,off + k * 5 + 2,none⟩ = some (.int .i64 va.i) := HB.out.cell' (by simpa using hccva 2 _ rfl)
    have c3 : wr.cell? ⟨b,off + k * 5 + 3,none⟩ = some (.slice va.ko va.kn va.kc) := HB.out.cell' (by simpa using hccva 3 _ rfl)
    have c4 : wr.cell? ⟨b,off + k * 5 + 4,none⟩ = some (.slice va.jo va.jn va.jc) := HB.out.cell' (by simpa using hccva 4 _ rfl)
    have d0 : wr.cell? ⟨b2,off2 + k * 5,none⟩ = some (.int .i64 vb.k) := HB.out.cell' (by simpa using hccvb 0 _ rfl)
    have d1 : wr.cell? ⟨b2,off2 + k * 5 + 1,none⟩ = some (.string ⟨vb.s.toArray⟩) := HB.out.cell' (by simpa using hccvb 1 _ rfl)
    have d2 : wr.cell? ⟨b2,off2 + k * 5 + 2,none⟩ = some (.int .i64 vb.i) := HB.out.cell' (by simpa using hccvb 2 _ rfl)
    have d3 : wr.cell? ⟨b2,off2 + k * 5 + 3,none⟩ = some (.slice vb.ko vb.kn vb.kc) := HB.out.cell' (by simpa using hccvb 3 _ rfl)
    have d4 : wr.cell? ⟨b2,off2 + k * 5 + 4,none⟩ = some (.slice vb.jo vb.jn vb.jc) := HB.out.cell' (by simpa using hccvb 4 _ rfl)
    have m1 := HW1.out _ (List.getElem_mem q1)
    have m2 := HW2.out _ (List.getElem_mem q2)
    have hM := HM.out
    rw [dropG_at q1 q2] at hM
    generalize L1[k] = x1 at *
    generalize L2[k] = x2 at *
    obtain ⟨V,hV⟩ : ∃ V,wr.alloc (.cells #[.int .i64 va.k,.string ⟨va.s.toArray⟩,.int .i64 va.i,.slice va.ko va.kn va.kc,.slice va.jo va.jn va.jc] 65) = V := ⟨_,rfl⟩
    obtain ⟨U,hU⟩ : ∃ U,V.alloc (.cells #[.int .i64 vb.k,.string ⟨vb.s.toArray⟩,.int .i64 vb.i,.slice vb.ko vb.kn vb.kc,.slice vb.jo vb.jn vb.jc] 65) = U := ⟨_,rfl⟩
    have BV : Bel wr V := by rw [← hV]; exact Bel.alloc (Bel.refl wr) _
    have BU : Bel V U := by rw [← hU]; exact Bel.alloc (Bel.refl V) _
    obtain ⟨v0,v1,v2,v3,v4⟩ : V.cell? ⟨wr.heap.size,0,none⟩ = some (.int .i64 va.k) ∧ V.cell? ⟨wr.heap.size,1,none⟩ = some (.string ⟨va.s.toArray⟩) ∧ V.cell? ⟨wr.heap.size,2,none⟩ = some (.int .i64 va.i) ∧ V.cell? ⟨wr.heap.size,3,none⟩ = some (.slice va.ko va.kn va.kc) ∧ V.cell? ⟨wr.heap.size,4,none⟩ = some (.slice va.jo va.jn va.jc) := by
     rw [← hV]
     exact ⟨World.cell?_alloc_new ..,World.cell?_alloc_new ..,World.cell?_alloc_new ..,World.cell?_alloc_new ..,World.cell?_alloc_new ..⟩
    obtain ⟨u0,u1,u2,u3,u4⟩ : U.cell? ⟨V.heap.size,0,none⟩ = some (.int .i64 vb.k) ∧ U.cell? ⟨V.heap.size,1,none⟩ = some (.string ⟨vb.s.toArray⟩) ∧ U.cell? ⟨V.heap.size,2,none⟩ = some (.int .i64 vb.i) ∧ U.cell? ⟨V.heap.size,3,none⟩ = some (.slice vb.ko vb.kn vb.kc) ∧ U.cell? ⟨V.heap.size,4,none⟩ = some (.slice vb.jo vb.jn vb.jc) := by
     rw [← hU]
     exact ⟨World.cell?_alloc_new ..,World.cell?_alloc_new ..,World.cell?_alloc_new ..,World.cell?_alloc_new ..,World.cell?_alloc_new ..⟩
    have t0 := BU.cell' v0
    have g0 := BV.cell' d0
    have t1 := BU.cell' v1
    have g1 := BV.cell' d1
    have t2 := BU.cell' v2
    have g2 := BV.cell' d2
    have t3 := BU.cell' v3
    have g3 := BV.cell' d3
    have t4 := BU.cell' v4
    have g4 := BV.cell' d4
    have HBU := Lib.hid (Bel.trans HB.out (Bel.trans BV BU))
    have HS := Lib.hid (node_same HBU.out hva hvb m1.2 m2.2)
    unfold nodV at HS
    obtain ⟨bs,hbs⟩ : ∃ bs,decide (x1 = x2) = bs := ⟨_,rfl⟩
    rw [hbs] at HS hM
    obtain ⟨ka,sa,ia,koa,kna,kca,joa,jna,jca⟩ := va
    obtain ⟨kb,sb,ib,kob,knb,kcb,job,jnb,jcb⟩ := vb
    dsimp only at *
    clear hva hvb hccva hccvb hc1 hc2 BV BU hbs m1 m2 HM
    cases bs with
    | false =>
     rw [Bool.false_and] at hM
     have hz := Lib.hid hM
     clear hM
     go_wp2_with fail
     refine HS.out.mono ?_
     rintro e w2 ⟨rfl,g⟩
     have G := Lib.hid (Bel.trans HBU.out g)
     clear g
     go_wp2_with fail
     go_ret
     exact ⟨by rw [← hz.out]; rfl,G.out⟩
    | true =>
     rw [Bool.true_and] at hM
     have hz := Lib.hid hM
     clear hM
     go_wp2_with fail
     refine HS.out.mono ?_
     rintro e w2 ⟨rfl,g⟩
     have G := Lib.hid (Bel.trans HBU.out g)
     clear g
     go_wp2_with fail
     go_round
     case rel => exact ⟨k + 1,by go_num,by omega,hz,G⟩
     case measure => simp [intOf]; omega
   ·have hz2 : Hid (X = true) := Lib.hid (by
     have := HM.out
     rw [List.drop_eq_nil_of_le (by rw [K1.out]; exact hkn),List.drop_eq_nil_of_le (by rw [K2.out]; exact hkn)] at this
     rw [← this]
     simp)
    obtain rfl : k = n := by omega
    go_wp2_with fail
    go_ret
    exact ⟨by rw [hz2.out]; rfl,HB.out⟩
 ·have hne : decide (L1 = L2) = false := by
   rw [decide_eq_false_iff_not]
   intro e
   rw [e] at k1
   omega
  rw [hne]
  have h0' : ¬ (n : Int) = (m : Int) := by omega
  clear hA hB
  go_enter Tryz.func79,Tryz.ntmps79
  go_wp2_with fail
  go_ret
  exact ⟨rfl,Bel.refl _⟩
theorem eqF_any (o1 o2 : Option Addr) (n m c1 c2 : Nat) (L1 L2 : List Fw) (hn : n ≤ 4611686018427387904) (hm : m ≤ 4611686018427387904) (hw1 : WfF L1) (hw2 : WfF L2) (w : World) (hA : FArg w o1 n L1) (hB : FArg w o2 m L2) :
  Calls Tryz.prog 81 #[.slice o1 n c1,.slice o2 m c2,.func (.func 82) #[] #[]] w fun e w' => e = .returned (.bool (decide (L1 = L2))) ∧ Bel w w' := by
 have hent := ent_func
 have k1 := hA.1
 have k2 := hB.1
 by_cases h0 : n = m
 ·subst h0
  obtain ⟨X,hX⟩ : ∃ X,decide (L1 = L2) = X := ⟨_,rfl⟩
  have HX := Lib.hid hX
  rw [hX]
  have K1 := Lib.hid k1
  have K2 := Lib.hid k2
  have HA := Lib.hid hA
  have HBB := Lib.hid hB
  have HW1 := Lib.hid hw1
  have HW2 := Lib.hid hw2
  clear hA hB k1 k2 hX hw1 hw2
  go_enter Tryz.func81,Tryz.ntmps81
  go_wp2_with fail
  go_loopw [17] (fun iv wr => ∃ k : Nat,iv = .int .i64 (k : Int) ∧ k ≤ n ∧ Hid (decide (L1.drop k = L2.drop k) = X) ∧ Hid (Bel w wr)) (fun iv _ => n - (intOf iv).toNat)
  case atStart => exact ⟨0,rfl,Nat.zero_le _,HX,Lib.hid (Bel.refl _)⟩
  case round =>
   obtain ⟨k,rfl,hk,HM,HB⟩ := hrel
   rename World => wr
   rcases Nat.lt_or_ge k n with hkn | hkn
   ·have q1 : k < L1.length := by rw [K1.out]; exact hkn
    have q2 : k < L2.length := by rw [K2.out]; exact hkn
    obtain ⟨b,off,rfl,hc1⟩ := HA.out.2 (by omega)
    obtain ⟨b2,off2,rfl,hc2⟩ := HBB.out.2 (by omega)
    obtain ⟨va,hva,hccva⟩ := hc1 k q1
    obtain ⟨vb,hvb,hccvb⟩ := hc2 k q2
    have c0 : wr.cell? ⟨b,off + k * 3,none⟩ = some (.string ⟨va.s.toArray⟩) := HB.out.cell' (by simpa using hccva 0 _ rfl)
    have c1 : wr.cell? ⟨b,off + k * 3 + 1,none⟩ = some (.slice va.po va.k va.pc) := HB.out.cell' (by simpa using hccva 1 _ rfl)
    have c2 : wr.cell? ⟨b,off + k * 3 + 2,none⟩ = some (.int .i64 va.j) := HB.out.cell' (by simpa using hccva 2 _ rfl)
    have d0 : wr.cell? ⟨b2,off2 + k * 3,none⟩ = some (.string ⟨vb.s.toArray⟩) := HB.out.cell' (by simpa using hccvb 0 _ rfl)
    have d1 : wr.cell? ⟨b2,off2 + k * 3 + 1,none⟩ = some (.slice vb.po vb.k vb.pc) := HB.out.cell' (by simpa using hccvb 1 _ rfl)
    have d2 : wr.cell? ⟨b2,off2 + k * 3 + 2,none⟩ = some (.int .i64 vb.j) := HB.out.cell' (by simpa using hccvb 2 _ rfl)
    have m1 := HW1.out _ (List.getElem_mem q1)
    have m2 := HW2.out _ (List.getElem_mem q2)
    have hM := HM.out
    rw [dropG_at q1 q2] at hM
    generalize L1[k] = x1 at *
    generalize L2[k] = x2 at *
    obtain ⟨V,hV⟩ : ∃ V,wr.alloc (.cells #[.string ⟨va.s.toArray⟩,.slice va.po va.k va.pc,.int .i64 va.j] 61) = V := ⟨_,rfl⟩
    obtain ⟨U,hU⟩ : ∃ U,V.alloc (.cells #[.string ⟨vb.s.toArray⟩,.slice vb.po vb.k vb.pc,.int .i64 vb.j] 61) = U := ⟨_,rfl⟩
    have BV : Bel wr V := by rw [← hV]; exact Bel.alloc (Bel.refl wr) _
    have BU : Bel V U := by rw [← hU]; exact Bel.alloc (Bel.refl V) _
    obtain ⟨v0,v1,v2⟩ : V.cell? ⟨wr.heap.size,0,none⟩ = some (.string ⟨va.s.toArray⟩) ∧ V.cell? ⟨wr.heap.size,1,none⟩ = some (.slice va.po va.k va.pc) ∧ V.cell? ⟨wr.heap.size,2,none⟩ = some (.int .i64 va.j) := by
     rw [← hV]
     exact ⟨World.cell?_alloc_new ..,World.cell?_alloc_new ..,World.cell?_alloc_new ..⟩
    obtain ⟨u0,u1,u2⟩ : U.cell? ⟨V.heap.size,0,none⟩ = some (.string ⟨vb.s.toArray⟩) ∧ U.cell? ⟨V.heap.size,1,none⟩ = some (.slice vb.po vb.k vb.pc) ∧ U.cell? ⟨V.heap.size,2,none⟩ = some (.int .i64 vb.j) := by
     rw [← hU]
     exact ⟨World.cell?_alloc_new ..,World.cell?_alloc_new ..,World.cell?_alloc_new ..⟩
    have t0 := BU.cell' v0
    have g0 := BV.cell' d0
    have t1 := BU.cell' v1
    have g1 := BV.cell' d1
    have t2 := BU.cell' v2
    have g2 := BV.cell' d2
    have HBU := Lib.hid (Bel.trans HB.out (Bel.trans BV BU))
    have HS := Lib.hid (func_same HBU.out hva hvb m1 m2)
    unfold funV at HS
    obtain ⟨bs,hbs⟩ : ∃ bs,decide (x1 = x2) = bs := ⟨_,rfl⟩
    rw [hbs] at HS hM
    obtain ⟨sa,poa,pka,pca,ja⟩ := va
    obtain ⟨sb,pob,pkb,pcb,jb⟩ := vb
    dsimp only at *
    clear hva hvb hccva hccvb hc1 hc2 BV BU hbs m1 m2 HM
    cases bs with
    | false =>
     rw [Bool.false_and] at hM
     have hz := Lib.hid hM
     clear hM
     go_wp2_with fail
     refine HS.out.mono ?_
     rintro e w2 ⟨rfl,g⟩
     have G := Lib.hid (Bel.trans HBU.out g)
     clear g
     go_wp2_with fail
     go_ret
     exact ⟨by rw [← hz.out]; rfl,G.out⟩
    | true =>
     rw [Bool.true_and] at hM
     have hz := Lib.hid hM
     clear hM
     go_wp2_with fail
     refine HS.out.mono ?_
     rintro e w2 ⟨rfl,g⟩
     have G := Lib.hid (Bel.trans HBU.out g)
     clear g
     go_wp2_with fail
     go_round
     case rel => exact ⟨k + 1,by go_num,by omega,hz,G⟩
     case measure => simp [intOf]; omega
   ·have hz2 : Hid (X = true) := Lib.hid (by
     have := HM.out
     rw [List.drop_eq_nil_of_le (by rw [K1.out]; exact hkn),List.drop_eq_nil_of_le (by rw [K2.out]; exact hkn)] at this
     rw [← this]
     simp)
    obtain rfl : k = n := by omega
    go_wp2_with fail
    go_ret
    exact ⟨by rw [hz2.out]; rfl,HB.out⟩
 ·have hne : decide (L1 = L2) = false := by
   rw [decide_eq_false_iff_not]
   intro e
   rw [e] at k1
   omega
  rw [hne]
  have h0' : ¬ (n : Int) = (m : Int) := by omega
  clear hA hB
  go_enter Tryz.func81,Tryz.ntmps81
  go_wp2_with fail
  go_ret
  exact ⟨rfl,Bel.refl _⟩

theorem same_any (no1 fo1 no2 fo2 : Option Addr) (n1 nc1 k1 fc1 n2 nc2 k2 fc2 : Nat) (L1 L2 : List Nd) (F1 F2 : List Fw) (hn1 : n1 ≤ 4611686018427387904) (hn2 : n2 ≤ 4611686018427387904) (hk1 : k1 ≤ 4611686018427387904) (hk2 : k2 ≤ 4611686018427387904) (w : World) (hA1 : NArg w no1 n1 L1) (hA2 : NArg w no2 n2 L2) (hF1 : FArg w fo1 k1 F1) (hF2 : FArg w fo2 k2 F2) (hw1 : WfN L1) (hw2 : WfN L2) (hv1 : WfF F1) (hv2 : WfF F2) :
  Calls Tryz.prog 41 #[.agg #[.slice no1 n1 nc1,.slice fo1 k1 fc1],.agg #[.slice no2 n2 nc2,.slice fo2 k2 fc2]] w fun e w' => e = .returned (.bool (decide (L1 = L2) && decide (F1 = F2))) ∧ Bel w w' := by
 obtain ⟨V,hV⟩ : ∃ V,w.alloc (.cells #[.slice no1 n1 nc1,.slice fo1 k1 fc1] 25) = V := ⟨_,rfl⟩
 obtain ⟨U,hU⟩ : ∃ U,V.alloc (.cells #[.slice no2 n2 nc2,.slice fo2 k2 fc2] 25) = U := ⟨_,rfl⟩
 have BV : Bel w V := by rw [← hV]; exact Bel.alloc (Bel.refl w) _
 have BU : Bel V U := by rw [← hU]; exact Bel.alloc (Bel.refl V) _
 obtain ⟨v0,v1⟩ : V.cell? ⟨w.heap.size,0,none⟩ = some (.slice no1 n1 nc1) ∧ V.cell? ⟨w.heap.size,1,none⟩ = some (.slice fo1 k1 fc1) := by
  rw [← hV]
  exact ⟨World.cell?_alloc_new ..,World.cell?_alloc_new ..⟩
 obtain ⟨u0,u1⟩ : U.cell? ⟨V.heap.size,0,none⟩ = some (.slice no2 n2 nc2) ∧ U.cell? ⟨V.heap.size,1,none⟩ = some (.slice fo2 k2 fc2) := by
  rw [← hU]
  exact ⟨World.cell?_alloc_new ..,World.cell?_alloc_new ..⟩
 have t0 := BU.cell' v0
 have t1 := BU.cell' v1
 have B := Bel.trans BV BU
 have HB := Lib.hid B
 have HN := Lib.hid (eqN_any no1 no2 n1 n2 nc1 nc2 L1 L2 hn1 hn2 hw1 hw2 U (hA1.on B) (hA2.on B))
 have HF := Lib.hid (fun W (g : Bel U W) => eqF_any fo1 fo2 k1 k2 fc1 fc2 F1 F2 hk1 hk2 hv1 hv2 W ((hF1.on B).on g) ((hF2.on B).on g))
 generalize decide (L1 = L2) = bn at *
 generalize decide (F1 = F2) = bf at *
 clear hA1 hA2 hF1 hF2 hw1 hw2 hv1 hv2 v0 v1 BV BU B
 cases bn with
 | false =>
  rw [Bool.false_and]
  go_enter Tryz.func41,Tryz.ntmps41
  go_wp2_with fail
  refine HN.out.mono ?_
  rintro e w2 ⟨rfl,g⟩
  have G := Lib.hid (Bel.trans HB.out g)
  clear g
  go_wp2_with fail
  go_ret
  exact ⟨rfl,G.out⟩
 | true =>
  rw [Bool.true_and]
  go_enter Tryz.func41,Tryz.ntmps41
  go_wp2_with fail
  refine HN.out.mono ?_
  rintro e w2 ⟨rfl,g⟩
  have c1 := g.cell' t1
  have d1 := g.cell' u1
  have G := Lib.hid (Bel.trans HB.out g)
  have HF2 := Lib.hid (HF.out w2 g)
  clear g
  go_wp2_with fail
  refine HF2.out.mono ?_
  rintro e w3 ⟨rfl,g⟩
  have G2 := Lib.hid (Bel.trans G.out g)
  clear g
  go_wp2_with fail
  go_ret
  exact ⟨rfl,G2.out⟩

theorem unaL_any (s : Txt) (w : World) : Calls Tryz.prog 243 #[.string ⟨s.toArray⟩] w fun e w' => e = .returned (.int .i64 (unaL s : Int)) ∧ w' = w := by
 by_cases h : s = [110,111,116]
 ·subst h
  rw [show unaL [110,111,116] = 3 from rfl]
  go_enter Tryz.func243,Tryz.ntmps243
  go_wp2
  go_ret
  exact ⟨rfl,rfl⟩
 ·rw [show unaL s = 7 by unfold unaL; rw [if_neg h]]
  have hb : (s == [110,111,116]) = false := by simpa using h
  go_enter Tryz.func243,Tryz.ntmps243
  go_wp2
  go_ret
  exact ⟨rfl,rfl⟩
theorem opL_any (l : Nat) (hl : l ≤ 100) (w : World) : Calls Tryz.prog 246 #[.int .i64 (l : Int)] w fun e w' => e = .returned (.tuple #[.int .i64 (leftL l : Int),.int .i64 ((l + 1 : Nat) : Int)]) ∧ w' = w := by
 by_cases h : l = 4
 ·subst h
  rw [show leftL 4 = 5 from rfl]
  go_enter Tryz.func246,Tryz.ntmps246
  go_wp2
  go_ret2
  exact ⟨rfl,rfl⟩
 ·rw [show leftL l = l by unfold leftL; rw [if_neg h]]
  have hb : ¬ (l : Int) = 4 := by omega
  go_enter Tryz.func246,Tryz.ntmps246
  go_wp2
  go_ret2
  exact ⟨by simp,rfl⟩
theorem lvN_any (k : Int) (s : Txt) (i : Int) (ko jo : Option Addr) (kn kc jn jc : Nat) (w : World) : Calls Tryz.prog 201 #[.agg #[.int .i64 k,.string ⟨s.toArray⟩,.int .i64 i,.slice ko kn kc,.slice jo jn jc]] w fun e w' => e = .returned (.int .i64 (lvN k s : Int)) ∧ Bel w w' := by
 have HB := Lib.hid (Bel.alloc (Bel.refl w) (.cells #[.int .i64 k,.string ⟨s.toArray⟩,.int .i64 i,.slice ko kn kc,.slice jo jn jc] 65))
 have HU := Lib.hid (fun W => unaL_any s W)
 have HL := Lib.hid (fun W => binL_any s W)
 by_cases h8 : k = 8
 ·subst h8
  rw [show lvN 8 s = unaL s from rfl]
  generalize unaL s = x at *
  go_enter Tryz.func201,Tryz.ntmps201
  go_wp2_with fail
  refine (HU.out _).mono ?_
  rintro e w2 ⟨rfl,rfl⟩
  go_wp2_with fail
  go_ret
  exact ⟨rfl,HB.out⟩
 by_cases h9 : k = 9
 ·subst h9
  rw [show lvN 9 s = binL s from rfl]
  generalize binL s = x at *
  go_enter Tryz.func201,Tryz.ntmps201
  go_wp2_with fail
  refine (HL.out _).mono ?_
  rintro e w2 ⟨rfl,rfl⟩
  go_wp2_with fail
  go_ret
  exact ⟨rfl,HB.out⟩
 by_cases h10 : k = 10
 ·subst h10
  rw [show lvN 10 s = 8 from rfl]
  go_enter Tryz.func201,Tryz.ntmps201
  go_wp2_with fail
  go_ret
  exact ⟨rfl,HB.out⟩
 rw [show lvN k s = 9 by unfold lvN; rw [if_neg h8,if_neg h9,if_neg h10]]
 go_enter Tryz.func201,Tryz.ntmps201
 go_wp2_with fail
 go_ret
 exact ⟨rfl,HB.out⟩
theorem tokT_any (c k : Int) (s : Txt) (i : Int) (hi : -9223372036854775808 ≤ i ∧ i ≤ 9223372036854775807) (ko jo : Option Addr) (kn kc jn jc : Nat) (w : World) (hm : Lex.ML w) : Calls Tryz.prog 247 #[.int .i64 c,.agg #[.int .i64 k,.string ⟨s.toArray⟩,.int .i64 i,.slice ko kn kc,.slice jo jn jc]] w fun e w' => e = .returned (.string ⟨(Lex.txtT ⟨c,s,i,0⟩).toArray⟩) ∧ Bel w w' := by
 obtain ⟨V,hV⟩ : ∃ V,w.alloc (.cells #[.int .i64 k,.string ⟨s.toArray⟩,.int .i64 i,.slice ko kn kc,.slice jo jn jc] 65) = V := ⟨_,rfl⟩
 have BV : Bel w V := by rw [← hV]; exact Bel.alloc (Bel.refl w) _
 have HB := Lib.hid BV
 obtain ⟨y0,y1,y2,y3,y4⟩ : V.cell? ⟨w.heap.size,0,none⟩ = some (.int .i64 k) ∧ V.cell? ⟨w.heap.size,1,none⟩ = some (.string ⟨s.toArray⟩) ∧ V.cell? ⟨w.heap.size,2,none⟩ = some (.int .i64 i) ∧ V.cell? ⟨w.heap.size,3,none⟩ = some (.slice ko kn kc) ∧ V.cell? ⟨w.heap.size,4,none⟩ = some (.slice jo jn jc) := by rw [← hV]; exact box5 w _ _ _ _ _ _
 have HT := Lib.hid (fun W (B : Bel w W) => text_all c i 0 s hi W (hm.on B))
 generalize Lex.txtT ⟨c,s,i,0⟩ = t at *
 generalize Lex.txtE ⟨c,s,i,0⟩ = x at *
 clear hm BV
 go_enter Tryz.func247,Tryz.ntmps247
 go_wp2_with fail
 refine (HT.out V HB.out).mono ?_
 rintro e w2 ⟨rfl,g⟩
 have G := Lib.hid (Bel.trans HB.out g)
 clear g
 go_wp2_with fail
 go_ret
 exact ⟨rfl,G.out⟩
theorem strT_any (s : Txt) (w : World) (hm : Lex.ML w) : Calls Tryz.prog 266 #[.string ⟨s.toArray⟩] w fun e w' => e = .returned (.string ⟨(Lex.txtT ⟨4,s,0,0⟩).toArray⟩) ∧ Bel w w' := by
 have HT := Lib.hid (fun W (B : Bel w W) => tokT_any 4 0 s 0 (by omega) none none 0 0 0 0 W (hm.on B))
 generalize Lex.txtT ⟨4,s,0,0⟩ = t at *
 clear hm
 go_enter Tryz.func266,Tryz.ntmps266
 go_wp2_with fail
 refine (HT.out _ (by first | exact Bel.refl _ | exact Bel.alloc (Bel.refl _) _)).mono ?_
 rintro e w2 ⟨rfl,g⟩
 have G := Lib.hid g
 clear g
 go_wp2_with fail
 go_ret
 exact ⟨rfl,by first | exact G.out | exact Bel.trans (Bel.alloc (Bel.refl _) _) G.out⟩

def litT (k : Int) (s : Txt) (i : Int) : Txt := if k = 2 then (if i = 0 then [102,97,108,115,101] else [116,114,117,101]) else if k = 3 then Lex.txtT ⟨3,s,i,0⟩ else if k = 4 then Lex.txtT ⟨4,s,0,0⟩ else if k = 5 then s else [110,117,108,108]
theorem lit_any (k : Int) (s : Txt) (i : Int) (hi : -9223372036854775808 ≤ i ∧ i ≤ 9223372036854775807) (ko jo : Option Addr) (kn kc jn jc : Nat) (w : World) (hm : Lex.ML w) : Calls Tryz.prog 248 #[.agg #[.int .i64 k,.string ⟨s.toArray⟩,.int .i64 i,.slice ko kn kc,.slice jo jn jc]] w fun e w' => e = .returned (.string ⟨(litT k s i).toArray⟩) ∧ Bel w w' := by
 obtain ⟨V,hV⟩ : ∃ V,w.alloc (.cells #[.int .i64 k,.string ⟨s.toArray⟩,.int .i64 i,.slice ko kn kc,.slice jo jn jc] 65) = V := ⟨_,rfl⟩
 have BV : Bel w V := by rw [← hV]; exact Bel.alloc (Bel.refl w) _
 have HB := Lib.hid BV
 obtain ⟨y0,y1,y2,y3,y4⟩ : V.cell? ⟨w.heap.size,0,none⟩ = some (.int .i64 k) ∧ V.cell? ⟨w.heap.size,1,none⟩ = some (.string ⟨s.toArray⟩) ∧ V.cell? ⟨w.heap.size,2,none⟩ = some (.int .i64 i) ∧ V.cell? ⟨w.heap.size,3,none⟩ = some (.slice ko kn kc) ∧ V.cell? ⟨w.heap.size,4,none⟩ = some (.slice jo jn jc) := by rw [← hV]; exact box5 w _ _ _ _ _ _
 have HT := Lib.hid (tokT_any 3 k s i hi ko jo kn kc jn jc V (hm.on BV))
 have HS := Lib.hid (strT_any s V (hm.on BV))
 clear hm BV
 by_cases h2 : k = 2
 ·subst h2
  by_cases h0 : i = 0
  ·subst h0
   rw [show litT 2 s 0 = [102,97,108,115,101] from rfl]
   go_enter Tryz.func248,Tryz.ntmps248
   go_wp2_with fail
   go_ret
   exact ⟨rfl,HB.out⟩
  ·rw [show litT 2 s i = [116,114,117,101] by unfold litT; rw [if_pos rfl,if_neg h0]]
   go_enter Tryz.func248,Tryz.ntmps248
   go_wp2_with fail
   go_ret
   exact ⟨rfl,HB.out⟩
 by_cases h3 : k = 3
 ·subst h3
  rw [show litT 3 s i = Lex.txtT ⟨3,s,i,0⟩ from rfl]
  generalize Lex.txtT ⟨3,s,i,0⟩ = t at *
  go_enter Tryz.func248,Tryz.ntmps248
  go_wp2_with fail
  refine (HT.out).mono ?_
  rintro e w2 ⟨rfl,g⟩
  have G := Lib.hid (Bel.trans HB.out g)
  clear g
  go_wp2_with fail
  go_ret
  exact ⟨rfl,G.out⟩
 by_cases h4 : k = 4
 ·subst h4
  rw [show litT 4 s i = Lex.txtT ⟨4,s,0,0⟩ from rfl]
  generalize Lex.txtT ⟨4,s,0,0⟩ = t at *
  go_enter Tryz.func248,Tryz.ntmps248
  go_wp2_with fail
  refine (HS.out).mono ?_
  rintro e w2 ⟨rfl,g⟩
  have G := Lib.hid (Bel.trans HB.out g)
  clear g
  go_wp2_with fail
  go_ret
  exact ⟨rfl,G.out⟩
 by_cases h5 : k = 5
 ·subst h5
  rw [show litT 5 s i = s from rfl]
  go_enter Tryz.func248,Tryz.ntmps248
  go_wp2_with fail
  go_ret
  exact ⟨rfl,HB.out⟩
 rw [show litT k s i = [110,117,108,108] by unfold litT; rw [if_neg h2,if_neg h3,if_neg h4,if_neg h5]]
 go_enter Tryz.func248,Tryz.ntmps248
 go_wp2_with fail
 go_ret
 exact ⟨rfl,HB.out⟩

def brk (b : Bool) (X : Txt) : Txt := if b then 40 :: (X ++ [41]) else X
theorem exp_any (no : Option Addr) (n nc z : Nat) (L : List Nd) (x : Nd) (X : Txt) (hX : X.length ≤ 1000000000) (hz : z < L.length) (hx : L[z] = x) (req : Nat) (w : World) (hA : NArg w no n L) (hb : ∀ v,NFit w v x → ∀ W,Bel w W → Calls Tryz.prog 202 #[.slice no n nc,nodV v] W fun e w' => e = .returned (.string ⟨X.toArray⟩) ∧ Bel W w') :
  Calls Tryz.prog 152 #[.slice no n nc,.int .i64 (z : Int),.int .i64 (req : Int)] w fun e w' => e = .returned (.string ⟨(brk (decide (lvN x.k x.s < req)) X).toArray⟩) ∧ Bel w w' := by
 have hn := hA.1
 obtain ⟨b,off,rfl,hcs⟩ := hA.2 (by omega)
 obtain ⟨v,hv,hcc⟩ := hcs z hz
 rw [hx] at hv
 have c0 : w.cell? ⟨b,off + z * 5,none⟩ = some (.int .i64 v.k) := by simpa using hcc 0 _ rfl
 have c1 : w.cell? ⟨b,off + z * 5 + 1,none⟩ = some (.string ⟨v.s.toArray⟩) := by simpa using hcc 1 _ rfl
 have c2 : w.cell? ⟨b,off + z * 5 + 2,none⟩ = some (.int .i64 v.i) := by simpa using hcc 2 _ rfl
 have c3 : w.cell? ⟨b,off + z * 5 + 3,none⟩ = some (.slice v.ko v.kn v.kc) := by simpa using hcc 3 _ rfl
 have c4 : w.cell? ⟨b,off + z * 5 + 4,none⟩ = some (.slice v.jo v.jn v.jc) := by simpa using hcc 4 _ rfl
 have HLv := Lib.hid (lvN_any v.k v.s v.i v.ko v.jo v.kn v.kc v.jn v.jc w)
 rw [hv.k,hv.s] at HLv
 have HBa := Lib.hid (hb v hv)
 unfold nodV at HBa
 rw [hv.k,hv.s] at HBa
 rw [hv.k] at c0
 rw [hv.s] at c1
 obtain ⟨k,s,i,ko,kn,kc,jo,jn,jc⟩ := v
 dsimp only at *
 have hzn : (z : Int) < (n : Int) := by omega
 have hz0 : (0 : Int) ≤ (z : Int) := by omega
 generalize lvN x.k x.s = lv at *
 have Hs := Lib.hid hX
 clear hcs hcc hb hv hx hA hX hz hn
 by_cases hlt : lv < req
 ·rw [decide_eq_true hlt]
  have hlt' : (lv : Int) < (req : Int) := by omega
  have h1 : (9223372036854775807 < 1 + X.length + 1) = False := by
   have := Hs.out
   simp only [eq_iff_iff,iff_false]
   omega
  have h2 : (9223372036854775807 < 1 + X.length) = False := by
   have := Hs.out
   simp only [eq_iff_iff,iff_false]
   omega
  go_enter Tryz.func152,Tryz.ntmps152
  go_wp2_with fail
  refine HLv.out.mono ?_
  rintro e w2 ⟨rfl,g⟩
  have d0 := g.cell' c0
  have d1 := g.cell' c1
  have d2 := g.cell' c2
  have d3 := g.cell' c3
  have d4 := g.cell' c4
  have G := Lib.hid g
  clear g
  have HB2 := Lib.hid (HBa.out w2 G.out)
  go_wp2_with fail
  refine HB2.out.mono ?_
  rintro e w3 ⟨rfl,g⟩
  have G2 := Lib.hid (Bel.trans G.out g)
  clear g
  go_wp2_with fail
  go_ret
  exact ⟨by simp [brk,ByteArray.ext_iff],G2.out⟩
 ·rw [decide_eq_false hlt]
  have hlt' : ¬ (lv : Int) < (req : Int) := by omega
  go_enter Tryz.func152,Tryz.ntmps152
  go_wp2_with fail
  refine HLv.out.mono ?_
  rintro e w2 ⟨rfl,g⟩
  have d0 := g.cell' c0
  have d1 := g.cell' c1
  have d2 := g.cell' c2
  have d3 := g.cell' c3
  have d4 := g.cell' c4
  have G := Lib.hid g
  clear g
  have HB2 := Lib.hid (HBa.out w2 G.out)
  go_wp2_with fail
  refine HB2.out.mono ?_
  rintro e w3 ⟨rfl,g⟩
  have G2 := Lib.hid (Bel.trans G.out g)
  clear g
  go_wp2_with fail
  go_ret
  exact ⟨rfl,G2.out⟩

def unT (s X : Txt) : Txt := if s = [110,111,116] then [110,111,116,32] ++ X else 45 :: X
theorem una_any (no : Option Addr) (n nc z : Nat) (k : Int) (s : Txt) (i : Int) (ko : Option Addr) (kn kc jn jc bj oj : Nat) (hj : 0 < jn) (X : Txt) (hX : X.length ≤ 1000000000) (w : World) (hz : w.cell? ⟨bj,oj,none⟩ = some (.int .i64 (z : Int))) (hb : ∀ W,Bel w W → Calls Tryz.prog 152 #[.slice no n nc,.int .i64 (z : Int),.int .i64 (unaL s : Int)] W fun e w' => e = .returned (.string ⟨X.toArray⟩) ∧ Bel W w') :
  Calls Tryz.prog 245 #[.slice no n nc,.agg #[.int .i64 k,.string ⟨s.toArray⟩,.int .i64 i,.slice ko kn kc,.slice (some ⟨bj,oj,none⟩) jn jc]] w fun e w' => e = .returned (.string ⟨(unT s X).toArray⟩) ∧ Bel w w' := by
 obtain ⟨V,hV⟩ : ∃ V,w.alloc (.cells #[.int .i64 k,.string ⟨s.toArray⟩,.int .i64 i,.slice ko kn kc,.slice (some ⟨bj,oj,none⟩) jn jc] 65) = V := ⟨_,rfl⟩
 have BV : Bel w V := by rw [← hV]; exact Bel.alloc (Bel.refl w) _
 obtain ⟨y0,y1,y2,y3,y4⟩ : V.cell? ⟨w.heap.size,0,none⟩ = some (.int .i64 k) ∧ V.cell? ⟨w.heap.size,1,none⟩ = some (.string ⟨s.toArray⟩) ∧ V.cell? ⟨w.heap.size,2,none⟩ = some (.int .i64 i) ∧ V.cell? ⟨w.heap.size,3,none⟩ = some (.slice ko kn kc) ∧ V.cell? ⟨w.heap.size,4,none⟩ = some (.slice (some ⟨bj,oj,none⟩) jn jc) := by rw [← hV]; exact box5 w _ _ _ _ _ _
 have z0 := BV.cell' hz
 have HB := Lib.hid BV
 have HE := Lib.hid hb
 have hj0 : (0 : Int) < (jn : Int) := by omega
 have Hs := Lib.hid hX
 clear hb hz BV hX
 by_cases hn : s = [110,111,116]
 ·subst hn
  rw [show unT [110,111,116] X = [110,111,116,32] ++ X from rfl]
  have h1 : (9223372036854775807 < 4 + X.length) = False := by
   have := Hs.out
   simp only [eq_iff_iff,iff_false]
   omega
  have HU : Hid (∀ W,Calls Tryz.prog 243 #[.string ⟨#[110,111,116]⟩] W fun e w' => e = .returned (.int .i64 3) ∧ w' = W) := Lib.hid (fun W => unaL_any [110,111,116] W)
  have y1 : V.cell? ⟨w.heap.size,1,none⟩ = some (.string ⟨#[110,111,116]⟩) := y1
  have HE2 := Lib.hid (show ∀ W,(W.cell? ⟨w.heap.size,1,none⟩ = some (.string ⟨#[110,111,116]⟩) ∧ W.cell? ⟨w.heap.size,4,none⟩ = some (.slice (some ⟨bj,oj,none⟩) jn jc) ∧ W.cell? ⟨bj,oj,none⟩ = some (.int .i64 (z : Int)) ∧ Bel V W) → Calls Tryz.prog 152 #[.slice no n nc,.int .i64 (z : Int),.int .i64 (3 : Int)] W fun e w' => e = .returned (.string ⟨X.toArray⟩) ∧ w'.cell? ⟨w.heap.size,1,none⟩ = some (.string ⟨#[110,111,116]⟩) ∧ w'.cell? ⟨w.heap.size,4,none⟩ = some (.slice (some ⟨bj,oj,none⟩) jn jc) ∧ w'.cell? ⟨bj,oj,none⟩ = some (.int .i64 (z : Int)) ∧ Bel V w' from fun W hS => (HE.out W (Bel.trans HB.out hS.2.2.2)).mono fun e w' k => by
   obtain ⟨e1,g⟩ := k
   exact ⟨e1,g.cell' hS.1,g.cell' hS.2.1,g.cell' hS.2.2.1,Bel.trans hS.2.2.2 g⟩)
  go_enter Tryz.func245,Tryz.ntmps245
  go_wp2_with fail
  go_region_held3 (fun W => W.cell? ⟨w.heap.size,1,none⟩ = some (.string ⟨#[110,111,116]⟩) ∧ W.cell? ⟨w.heap.size,4,none⟩ = some (.slice (some ⟨bj,oj,none⟩) jn jc) ∧ W.cell? ⟨bj,oj,none⟩ = some (.int .i64 (z : Int)) ∧ Bel V W) (first | exact ⟨a1,a2,a3,a4⟩ | exact ⟨y1,y4,z0,Below.drew (Bel.refl _)⟩) (first | (go_at_call 243; (with_reducible refine (HU.out _).mono ?_); rintro e w' ⟨rfl,rfl⟩) | (go_at_call 152; (with_reducible refine (HE2.out _ ?_).mono ?_); (first | assumption | exact ⟨y1,y4,z0,Below.drew (Bel.refl _)⟩); rintro e w' ⟨rfl,a1,a2,a3,a4⟩))
  all_goals
   have A4 := Lib.hid a4
   go_wp2_with fail
   go_ret
   exact ⟨by simp [ByteArray.ext_iff],Bel.trans HB.out A4.out⟩
 ·rw [show unT s X = 45 :: X by unfold unT; rw [if_neg hn]]
  have e7 : unaL s = 7 := by unfold unaL; rw [if_neg hn]
  rw [e7] at HE
  have h1 : (9223372036854775807 < 1 + X.length) = False := by
   have := Hs.out
   simp only [eq_iff_iff,iff_false]
   omega
  have HU : Hid (∀ W,Calls Tryz.prog 243 #[.string ⟨s.toArray⟩] W fun e w' => e = .returned (.int .i64 7) ∧ w' = W) := Lib.hid (fun W => by have := unaL_any s W; rw [e7] at this; exact this)
  have hb : (s == [110,111,116]) = false := by simpa using hn
  have HE2 := Lib.hid (show ∀ W,(W.cell? ⟨w.heap.size,1,none⟩ = some (.string ⟨s.toArray⟩) ∧ W.cell? ⟨w.heap.size,4,none⟩ = some (.slice (some ⟨bj,oj,none⟩) jn jc) ∧ W.cell? ⟨bj,oj,none⟩ = some (.int .i64 (z : Int)) ∧ Bel V W) → Calls Tryz.prog 152 #[.slice no n nc,.int .i64 (z : Int),.int .i64 (7 : Int)] W fun e w' => e = .returned (.string ⟨X.toArray⟩) ∧ w'.cell? ⟨w.heap.size,1,none⟩ = some (.string ⟨s.toArray⟩) ∧ w'.cell? ⟨w.heap.size,4,none⟩ = some (.slice (some ⟨bj,oj,none⟩) jn jc) ∧ w'.cell? ⟨bj,oj,none⟩ = some (.int .i64 (z : Int)) ∧ Bel V w' from fun W hS => (HE.out W (Bel.trans HB.out hS.2.2.2)).mono fun e w' k => by
   obtain ⟨e1,g⟩ := k
   exact ⟨e1,g.cell' hS.1,g.cell' hS.2.1,g.cell' hS.2.2.1,Bel.trans hS.2.2.2 g⟩)
  go_enter Tryz.func245,Tryz.ntmps245
  go_wp2_with fail
  go_region_held3 (fun W => W.cell? ⟨w.heap.size,1,none⟩ = some (.string ⟨s.toArray⟩) ∧ W.cell? ⟨w.heap.size,4,none⟩ = some (.slice (some ⟨bj,oj,none⟩) jn jc) ∧ W.cell? ⟨bj,oj,none⟩ = some (.int .i64 (z : Int)) ∧ Bel V W) (first | exact ⟨a1,a2,a3,a4⟩ | exact ⟨y1,y4,z0,Below.drew (Bel.refl _)⟩) (first | (go_at_call 243; (with_reducible refine (HU.out _).mono ?_); rintro e w' ⟨rfl,rfl⟩) | (go_at_call 152; (with_reducible refine (HE2.out _ ?_).mono ?_); (first | assumption | exact ⟨y1,y4,z0,Below.drew (Bel.refl _)⟩); rintro e w' ⟨rfl,a1,a2,a3,a4⟩))
  all_goals
   have A4 := Lib.hid a4
   go_wp2_with fail
   go_ret
   exact ⟨by simp [ByteArray.ext_iff],Bel.trans HB.out A4.out⟩

theorem bin_any (no : Option Addr) (n nc z1 z2 : Nat) (s : Txt) (i : Int) (ko : Option Addr) (kn kc jn jc bj oj : Nat) (hj : 1 < jn) (X1 X2 : Txt) (h1 : X1.length ≤ 1000000000) (h2 : X2.length ≤ 1000000000) (hs : s.length ≤ 1000000000) (w : World) (hz1 : w.cell? ⟨bj,oj,none⟩ = some (.int .i64 (z1 : Int))) (hz2 : w.cell? ⟨bj,oj + 1,none⟩ = some (.int .i64 (z2 : Int)))
  (hb1 : ∀ W,Bel w W → Calls Tryz.prog 152 #[.slice no n nc,.int .i64 (z1 : Int),.int .i64 (leftL (binL s) : Int)] W fun e w' => e = .returned (.string ⟨X1.toArray⟩) ∧ Bel W w')
  (hb2 : ∀ W,Bel w W → Calls Tryz.prog 152 #[.slice no n nc,.int .i64 (z2 : Int),.int .i64 ((binL s + 1 : Nat) : Int)] W fun e w' => e = .returned (.string ⟨X2.toArray⟩) ∧ Bel W w') :
  Calls Tryz.prog 202 #[.slice no n nc,.agg #[.int .i64 9,.string ⟨s.toArray⟩,.int .i64 i,.slice ko kn kc,.slice (some ⟨bj,oj,none⟩) jn jc]] w fun e w' => e = .returned (.string ⟨(X1 ++ 32 :: (s ++ 32 :: X2)).toArray⟩) ∧ Bel w w' := by
 obtain ⟨V,hV⟩ : ∃ V,w.alloc (.cells #[.int .i64 9,.string ⟨s.toArray⟩,.int .i64 i,.slice ko kn kc,.slice (some ⟨bj,oj,none⟩) jn jc] 65) = V := ⟨_,rfl⟩
 have BV : Bel w V := by rw [← hV]; exact Bel.alloc (Bel.refl w) _
 obtain ⟨y0,y1,y2,y3,y4⟩ : V.cell? ⟨w.heap.size,0,none⟩ = some (.int .i64 9) ∧ V.cell? ⟨w.heap.size,1,none⟩ = some (.string ⟨s.toArray⟩) ∧ V.cell? ⟨w.heap.size,2,none⟩ = some (.int .i64 i) ∧ V.cell? ⟨w.heap.size,3,none⟩ = some (.slice ko kn kc) ∧ V.cell? ⟨w.heap.size,4,none⟩ = some (.slice (some ⟨bj,oj,none⟩) jn jc) := by rw [← hV]; exact box5 w _ _ _ _ _ _
 have c1 := BV.cell' hz1
 have c2 := BV.cell' hz2
 have HB := Lib.hid BV
 have HV := Lib.hid (lvN_any 9 s i ko (some ⟨bj,oj,none⟩) kn kc jn jc V)
 rw [show lvN 9 s = binL s from rfl] at HV
 have hle : binL s ≤ 100 := by unfold binL; (repeat' split) <;> omega
 have HO := Lib.hid (fun W => opL_any (binL s) hle W)
 generalize leftL (binL s) = ll at *
 generalize binL s = bl at *
 have hj0 : (0 : Int) < (jn : Int) := by omega
 have hjp : 0 < jn := by omega
 have hj1 : (1 : Int) < (jn : Int) := by omega
 have E1 := Lib.hid h1
 have E2 := Lib.hid h2
 have E3 := Lib.hid hs
 rw [show ((bl + 1 : Nat) : Int) = (bl : Int) + 1 from rfl] at hb2
 have HE1 := Lib.hid (show ∀ W,(W.cell? ⟨w.heap.size,1,none⟩ = some (.string ⟨s.toArray⟩) ∧ W.cell? ⟨w.heap.size,4,none⟩ = some (.slice (some ⟨bj,oj,none⟩) jn jc) ∧ W.cell? ⟨bj,oj,none⟩ = some (.int .i64 (z1 : Int)) ∧ W.cell? ⟨bj,oj + 1,none⟩ = some (.int .i64 (z2 : Int)) ∧ Bel V W) → Calls Tryz.prog 152 #[.slice no n nc,.int .i64 (z1 : Int),.int .i64 ((ll : Int))] W fun e w' => e = .returned (.string ⟨X1.toArray⟩) ∧ w'.cell? ⟨w.heap.size,1,none⟩ = some (.string ⟨s.toArray⟩) ∧ w'.cell? ⟨w.heap.size,4,none⟩ = some (.slice (some ⟨bj,oj,none⟩) jn jc) ∧ w'.cell? ⟨bj,oj,none⟩ = some (.int .i64 (z1 : Int)) ∧ w'.cell? ⟨bj,oj + 1,none⟩ = some (.int .i64 (z2 : Int)) ∧ Bel V w' from fun W hS => (hb1 W (Bel.trans HB.out hS.2.2.2.2)).mono fun e w' k => by
  obtain ⟨e1,g⟩ := k
  exact ⟨e1,g.cell' hS.1,g.cell' hS.2.1,g.cell' hS.2.2.1,g.cell' hS.2.2.2.1,Bel.trans hS.2.2.2.2 g⟩)
 have HE2 := Lib.hid (show ∀ W,(W.cell? ⟨w.heap.size,1,none⟩ = some (.string ⟨s.toArray⟩) ∧ W.cell? ⟨w.heap.size,4,none⟩ = some (.slice (some ⟨bj,oj,none⟩) jn jc) ∧ W.cell? ⟨bj,oj,none⟩ = some (.int .i64 (z1 : Int)) ∧ W.cell? ⟨bj,oj + 1,none⟩ = some (.int .i64 (z2 : Int)) ∧ Bel V W) → Calls Tryz.prog 152 #[.slice no n nc,.int .i64 (z2 : Int),.int .i64 ((bl : Int) + 1)] W fun e w' => e = .returned (.string ⟨X2.toArray⟩) ∧ w'.cell? ⟨w.heap.size,1,none⟩ = some (.string ⟨s.toArray⟩) ∧ w'.cell? ⟨w.heap.size,4,none⟩ = some (.slice (some ⟨bj,oj,none⟩) jn jc) ∧ w'.cell? ⟨bj,oj,none⟩ = some (.int .i64 (z1 : Int)) ∧ w'.cell? ⟨bj,oj + 1,none⟩ = some (.int .i64 (z2 : Int)) ∧ Bel V w' from fun W hS => (hb2 W (Bel.trans HB.out hS.2.2.2.2)).mono fun e w' k => by
  obtain ⟨e1,g⟩ := k
  exact ⟨e1,g.cell' hS.1,g.cell' hS.2.1,g.cell' hS.2.2.1,g.cell' hS.2.2.2.1,Bel.trans hS.2.2.2.2 g⟩)
 clear hb1 hb2 hz1 hz2 h1 h2 hs BV
 go_enter Tryz.func202,Tryz.ntmps202
 go_wp2_with fail
 refine HV.out.mono ?_
 rintro e w2 ⟨rfl,g⟩
 have y0 := g.cell' y0
 have y1 := g.cell' y1
 have y2 := g.cell' y2
 have y3 := g.cell' y3
 have y4 := g.cell' y4
 have c1 := g.cell' c1
 have c2 := g.cell' c2
 have G := Lib.hid g
 clear g
 go_wp2_with fail
 refine (HO.out _).mono ?_
 rintro e w3 ⟨rfl,rfl⟩
 have q1 : (9223372036854775807 < X1.length + 1) = False := by have := E1.out; simp only [eq_iff_iff,iff_false]; omega
 have q2 : (9223372036854775807 < X1.length + 1 + s.length) = False := by have := E1.out; have := E3.out; simp only [eq_iff_iff,iff_false]; omega
 have q3 : (9223372036854775807 < X1.length + 1 + s.length + 1) = False := by have := E1.out; have := E3.out; simp only [eq_iff_iff,iff_false]; omega
 have q4 : (9223372036854775807 < X1.length + 1 + s.length + 1 + X2.length) = False := by have := E1.out; have := E2.out; have := E3.out; simp only [eq_iff_iff,iff_false]; omega
 go_wp2_with fail
 go_region_held3 (fun W => W.cell? ⟨w.heap.size,1,none⟩ = some (.string ⟨s.toArray⟩) ∧ W.cell? ⟨w.heap.size,4,none⟩ = some (.slice (some ⟨bj,oj,none⟩) jn jc) ∧ W.cell? ⟨bj,oj,none⟩ = some (.int .i64 (z1 : Int)) ∧ W.cell? ⟨bj,oj + 1,none⟩ = some (.int .i64 (z2 : Int)) ∧ Bel V W) (first | exact ⟨a1,a2,a3,a4,a5⟩ | exact ⟨y1,y4,c1,c2,Below.drew G.out⟩) (first | (go_at_call 152; first | ((with_reducible refine (HE1.out _ ?_).mono ?_); (first | assumption | exact ⟨y1,y4,c1,c2,Below.drew G.out⟩); rintro e w' ⟨rfl,a1,a2,a3,a4,a5⟩) | ((with_reducible refine (HE2.out _ ?_).mono ?_); (first | assumption | exact ⟨y1,y4,c1,c2,Below.drew G.out⟩); rintro e w' ⟨rfl,a1,a2,a3,a4,a5⟩)))
 all_goals
  have A5 := Lib.hid a5
  go_wp2_with fail
  go_ret
  exact ⟨by simp [ByteArray.ext_iff],Bel.trans HB.out A5.out⟩

theorem idx_any (no : Option Addr) (n nc z1 z2 : Nat) (s : Txt) (i : Int) (ko : Option Addr) (kn kc jn jc bj oj : Nat) (hj : 1 < jn) (X1 X2 : Txt) (h1 : X1.length ≤ 1000000000) (h2 : X2.length ≤ 1000000000) (w : World) (hz1 : w.cell? ⟨bj,oj,none⟩ = some (.int .i64 (z1 : Int))) (hz2 : w.cell? ⟨bj,oj + 1,none⟩ = some (.int .i64 (z2 : Int)))
  (hb1 : ∀ W,Bel w W → Calls Tryz.prog 152 #[.slice no n nc,.int .i64 (z1 : Int),.int .i64 (8 : Int)] W fun e w' => e = .returned (.string ⟨X1.toArray⟩) ∧ Bel W w')
  (hb2 : ∀ W,Bel w W → Calls Tryz.prog 152 #[.slice no n nc,.int .i64 (z2 : Int),.int .i64 (1 : Int)] W fun e w' => e = .returned (.string ⟨X2.toArray⟩) ∧ Bel W w') :
  Calls Tryz.prog 202 #[.slice no n nc,.agg #[.int .i64 10,.string ⟨s.toArray⟩,.int .i64 i,.slice ko kn kc,.slice (some ⟨bj,oj,none⟩) jn jc]] w fun e w' => e = .returned (.string ⟨(X1 ++ 91 :: (X2 ++ [93])).toArray⟩) ∧ Bel w w' := by
 obtain ⟨V,hV⟩ : ∃ V,w.alloc (.cells #[.int .i64 10,.string ⟨s.toArray⟩,.int .i64 i,.slice ko kn kc,.slice (some ⟨bj,oj,none⟩) jn jc] 65) = V := ⟨_,rfl⟩
 have BV : Bel w V := by rw [← hV]; exact Bel.alloc (Bel.refl w) _
 obtain ⟨y0,y1,y2,y3,y4⟩ : V.cell? ⟨w.heap.size,0,none⟩ = some (.int .i64 10) ∧ V.cell? ⟨w.heap.size,1,none⟩ = some (.string ⟨s.toArray⟩) ∧ V.cell? ⟨w.heap.size,2,none⟩ = some (.int .i64 i) ∧ V.cell? ⟨w.heap.size,3,none⟩ = some (.slice ko kn kc) ∧ V.cell? ⟨w.heap.size,4,none⟩ = some (.slice (some ⟨bj,oj,none⟩) jn jc) := by rw [← hV]; exact box5 w _ _ _ _ _ _
 have c1 := BV.cell' hz1
 have c2 := BV.cell' hz2
 have HB := Lib.hid BV
 have hj0 : (0 : Int) < (jn : Int) := by omega
 have hjp : 0 < jn := by omega
 have hj1 : (1 : Int) < (jn : Int) := by omega
 have E1 := Lib.hid h1
 have E2 := Lib.hid h2
 have HE1 := Lib.hid (show ∀ W,(W.cell? ⟨w.heap.size,1,none⟩ = some (.string ⟨s.toArray⟩) ∧ W.cell? ⟨w.heap.size,4,none⟩ = some (.slice (some ⟨bj,oj,none⟩) jn jc) ∧ W.cell? ⟨bj,oj,none⟩ = some (.int .i64 (z1 : Int)) ∧ W.cell? ⟨bj,oj + 1,none⟩ = some (.int .i64 (z2 : Int)) ∧ Bel V W) → Calls Tryz.prog 152 #[.slice no n nc,.int .i64 (z1 : Int),.int .i64 8] W fun e w' => e = .returned (.string ⟨X1.toArray⟩) ∧ w'.cell? ⟨w.heap.size,1,none⟩ = some (.string ⟨s.toArray⟩) ∧ w'.cell? ⟨w.heap.size,4,none⟩ = some (.slice (some ⟨bj,oj,none⟩) jn jc) ∧ w'.cell? ⟨bj,oj,none⟩ = some (.int .i64 (z1 : Int)) ∧ w'.cell? ⟨bj,oj + 1,none⟩ = some (.int .i64 (z2 : Int)) ∧ Bel V w' from fun W hS => (hb1 W (Bel.trans HB.out hS.2.2.2.2)).mono fun e w' k => by
  obtain ⟨e1,g⟩ := k
  exact ⟨e1,g.cell' hS.1,g.cell' hS.2.1,g.cell' hS.2.2.1,g.cell' hS.2.2.2.1,Bel.trans hS.2.2.2.2 g⟩)
 have HE2 := Lib.hid (show ∀ W,(W.cell? ⟨w.heap.size,1,none⟩ = some (.string ⟨s.toArray⟩) ∧ W.cell? ⟨w.heap.size,4,none⟩ = some (.slice (some ⟨bj,oj,none⟩) jn jc) ∧ W.cell? ⟨bj,oj,none⟩ = some (.int .i64 (z1 : Int)) ∧ W.cell? ⟨bj,oj + 1,none⟩ = some (.int .i64 (z2 : Int)) ∧ Bel V W) → Calls Tryz.prog 152 #[.slice no n nc,.int .i64 (z2 : Int),.int .i64 1] W fun e w' => e = .returned (.string ⟨X2.toArray⟩) ∧ w'.cell? ⟨w.heap.size,1,none⟩ = some (.string ⟨s.toArray⟩) ∧ w'.cell? ⟨w.heap.size,4,none⟩ = some (.slice (some ⟨bj,oj,none⟩) jn jc) ∧ w'.cell? ⟨bj,oj,none⟩ = some (.int .i64 (z1 : Int)) ∧ w'.cell? ⟨bj,oj + 1,none⟩ = some (.int .i64 (z2 : Int)) ∧ Bel V w' from fun W hS => (hb2 W (Bel.trans HB.out hS.2.2.2.2)).mono fun e w' k => by
  obtain ⟨e1,g⟩ := k
  exact ⟨e1,g.cell' hS.1,g.cell' hS.2.1,g.cell' hS.2.2.1,g.cell' hS.2.2.2.1,Bel.trans hS.2.2.2.2 g⟩)
 clear hb1 hb2 hz1 hz2 h1 h2 BV
 go_enter Tryz.func202,Tryz.ntmps202
 have q1 : (9223372036854775807 < X1.length + 1) = False := by have := E1.out; simp only [eq_iff_iff,iff_false]; omega
 have q2 : (9223372036854775807 < X1.length + 1 + X2.length) = False := by have := E1.out; have := E2.out; simp only [eq_iff_iff,iff_false]; omega
 have q3 : (9223372036854775807 < X1.length + 1 + X2.length + 1) = False := by have := E1.out; have := E2.out; simp only [eq_iff_iff,iff_false]; omega
 go_wp2_with fail
 go_region_held3 (fun W => W.cell? ⟨w.heap.size,1,none⟩ = some (.string ⟨s.toArray⟩) ∧ W.cell? ⟨w.heap.size,4,none⟩ = some (.slice (some ⟨bj,oj,none⟩) jn jc) ∧ W.cell? ⟨bj,oj,none⟩ = some (.int .i64 (z1 : Int)) ∧ W.cell? ⟨bj,oj + 1,none⟩ = some (.int .i64 (z2 : Int)) ∧ Bel V W) (first | exact ⟨a1,a2,a3,a4,a5⟩ | exact ⟨y1,y4,c1,c2,Below.drew (Bel.refl _)⟩) (first | (go_at_call 152; first | ((with_reducible refine (HE1.out _ ?_).mono ?_); (first | assumption | exact ⟨y1,y4,c1,c2,Below.drew (Bel.refl _)⟩); rintro e w' ⟨rfl,a1,a2,a3,a4,a5⟩) | ((with_reducible refine (HE2.out _ ?_).mono ?_); (first | assumption | exact ⟨y1,y4,c1,c2,Below.drew (Bel.refl _)⟩); rintro e w' ⟨rfl,a1,a2,a3,a4,a5⟩)))
 all_goals
  have A5 := Lib.hid a5
  go_wp2_with fail
  go_ret
  exact ⟨by simp [ByteArray.ext_iff],Bel.trans HB.out A5.out⟩

theorem bareUna_any (no : Option Addr) (n nc : Nat) (s : Txt) (i : Int) (ko jo : Option Addr) (kn kc jn jc : Nat) (X : Txt) (w : World)
  (hu : ∀ W,Bel w W → Calls Tryz.prog 245 #[.slice no n nc,.agg #[.int .i64 8,.string ⟨s.toArray⟩,.int .i64 i,.slice ko kn kc,.slice jo jn jc]] W fun e w' => e = .returned (.string ⟨X.toArray⟩) ∧ Bel W w') :
  Calls Tryz.prog 202 #[.slice no n nc,.agg #[.int .i64 8,.string ⟨s.toArray⟩,.int .i64 i,.slice ko kn kc,.slice jo jn jc]] w fun e w' => e = .returned (.string ⟨X.toArray⟩) ∧ Bel w w' := by
 obtain ⟨V,hV⟩ : ∃ V,w.alloc (.cells #[.int .i64 8,.string ⟨s.toArray⟩,.int .i64 i,.slice ko kn kc,.slice jo jn jc] 65) = V := ⟨_,rfl⟩
 have BV : Bel w V := by rw [← hV]; exact Bel.alloc (Bel.refl w) _
 obtain ⟨y0,y1,y2,y3,y4⟩ : V.cell? ⟨w.heap.size,0,none⟩ = some (.int .i64 8) ∧ V.cell? ⟨w.heap.size,1,none⟩ = some (.string ⟨s.toArray⟩) ∧ V.cell? ⟨w.heap.size,2,none⟩ = some (.int .i64 i) ∧ V.cell? ⟨w.heap.size,3,none⟩ = some (.slice ko kn kc) ∧ V.cell? ⟨w.heap.size,4,none⟩ = some (.slice jo jn jc) := by rw [← hV]; exact box5 w _ _ _ _ _ _
 have HB := Lib.hid BV
 have HU := Lib.hid (hu V BV)
 clear hu BV
 go_enter Tryz.func202,Tryz.ntmps202
 go_wp2_with fail
 refine HU.out.mono ?_
 rintro e w2 ⟨rfl,g⟩
 have G := Lib.hid (Bel.trans HB.out g)
 clear g
 go_wp2_with fail
 go_ret
 exact ⟨rfl,G.out⟩
theorem bareLit_any (no : Option Addr) (n nc : Nat) (k : Int) (hk : k < 6 ∨ 12 < k) (s : Txt) (i : Int) (hi : -9223372036854775808 ≤ i ∧ i ≤ 9223372036854775807) (ko jo : Option Addr) (kn kc jn jc : Nat) (w : World) (hm : Lex.ML w) :
  Calls Tryz.prog 202 #[.slice no n nc,.agg #[.int .i64 k,.string ⟨s.toArray⟩,.int .i64 i,.slice ko kn kc,.slice jo jn jc]] w fun e w' => e = .returned (.string ⟨(litT k s i).toArray⟩) ∧ Bel w w' := by
 obtain ⟨V,hV⟩ : ∃ V,w.alloc (.cells #[.int .i64 k,.string ⟨s.toArray⟩,.int .i64 i,.slice ko kn kc,.slice jo jn jc] 65) = V := ⟨_,rfl⟩
 have BV : Bel w V := by rw [← hV]; exact Bel.alloc (Bel.refl w) _
 obtain ⟨y0,y1,y2,y3,y4⟩ : V.cell? ⟨w.heap.size,0,none⟩ = some (.int .i64 k) ∧ V.cell? ⟨w.heap.size,1,none⟩ = some (.string ⟨s.toArray⟩) ∧ V.cell? ⟨w.heap.size,2,none⟩ = some (.int .i64 i) ∧ V.cell? ⟨w.heap.size,3,none⟩ = some (.slice ko kn kc) ∧ V.cell? ⟨w.heap.size,4,none⟩ = some (.slice jo jn jc) := by rw [← hV]; exact box5 w _ _ _ _ _ _
 have HB := Lib.hid BV
 have HU := Lib.hid (lit_any k s i hi ko jo kn kc jn jc V (hm.on BV))
 have n6 : ¬ k = 6 := by omega
 have n7 : ¬ k = 7 := by omega
 have n8 : ¬ k = 8 := by omega
 have n9 : ¬ k = 9 := by omega
 have n10 : ¬ k = 10 := by omega
 have n11 : ¬ k = 11 := by omega
 have n12 : ¬ k = 12 := by omega
 generalize litT k s i = X at *
 clear hm BV hk hi
 go_enter Tryz.func202,Tryz.ntmps202
 go_wp2_with fail
 refine HU.out.mono ?_
 rintro e w2 ⟨rfl,g⟩
 have G := Lib.hid (Bel.trans HB.out g)
 clear g
 go_wp2_with fail
 go_ret
 exact ⟨rfl,G.out⟩

theorem tlB (l : Txt) : (⟨l.toArray⟩ : ByteArray).toList = l := by rw [Go.ByteArray.toList_eq]
theorem fil_again {w : World} {B cnt k : Nat} {D : List ByteArray} {x y : ByteArray} (h : w.rowIs B 9 cnt (Lex.fil (D ++ [x]))) (hD : D.length = k) : (w.setCell ⟨B,k,none⟩ (.string y)).rowIs B 9 cnt (Lex.fil (D ++ [y])) :=
 (h.set k (.string y)).congr fun i _ => by
  subst hD
  simp only [Lex.fil,List.getD]
  by_cases e : i = D.length
  ·subst e; simp
  ·rw [if_neg e]
   rcases Nat.lt_or_ge i D.length with g | g
   ·rw [List.getElem?_append_left g,List.getElem?_append_left g]
   ·rw [List.getElem?_eq_none (by rw [List.length_append,List.length_singleton]; omega),List.getElem?_eq_none (by rw [List.length_append,List.length_singleton]; omega)]
theorem list_any (no : Option Addr) (n nc : Nat) (k : Int) (hk7 : ¬ k = 7) (s : Txt) (i : Int) (ko jo : Option Addr) (kn kc m jc : Nat) (hm : m ≤ 100000) (kids : List Int) (X : List Txt) (hX : X.length = m) (w : World) (hZ : ZArg w jo m kids)
  (hb : ∀ j (h : j < kids.length) (h' : j < X.length) W,Bel w W → Calls Tryz.prog 152 #[.slice no n nc,.int .i64 kids[j],.int .i64 1] W fun e w' => e = .returned (.string ⟨X[j].toArray⟩) ∧ Bel W w')
  (hlen : (Lib.join X [44,32]).length ≤ 140737488355328) :
  Calls Tryz.prog 244 #[.slice no n nc,.agg #[.int .i64 k,.string ⟨s.toArray⟩,.int .i64 i,.slice ko kn kc,.slice jo m jc]] w fun e w' => e = .returned (.string ⟨(Lib.join X [44,32]).toArray⟩) ∧ Bel w w' := by
 obtain ⟨V,hV⟩ : ∃ V,w.alloc (.cells #[.int .i64 k,.string ⟨s.toArray⟩,.int .i64 i,.slice ko kn kc,.slice jo m jc] 65) = V := ⟨_,rfl⟩
 have BV : Bel w V := by rw [← hV]; exact Bel.alloc (Bel.refl w) _
 obtain ⟨y0,y1,y2,y3,y4⟩ : V.cell? ⟨w.heap.size,0,none⟩ = some (.int .i64 k) ∧ V.cell? ⟨w.heap.size,1,none⟩ = some (.string ⟨s.toArray⟩) ∧ V.cell? ⟨w.heap.size,2,none⟩ = some (.int .i64 i) ∧ V.cell? ⟨w.heap.size,3,none⟩ = some (.slice ko kn kc) ∧ V.cell? ⟨w.heap.size,4,none⟩ = some (.slice jo m jc) := by rw [← hV]; exact box5 w _ _ _ _ _ _
 have hmk := fun W => run_make_row' (P := Tryz.prog) 44 9 (.string ByteArray.empty) 16 Tryz.underlying44 Lex.info_str rfl .i64 .i64 m (by omega) (by omega) W
 obtain ⟨W0,hW0⟩ : ∃ W0,V.alloc (.cells (madeCells #[.string ByteArray.empty] m) 9) = W0 := ⟨_,rfl⟩
 have B0 : Bel V W0 := by rw [← hW0]; exact Bel.alloc (Bel.refl V) _
 have R0 : W0.rowIs V.heap.size 9 m (Lex.fil []) := by rw [← hW0]; exact (World.rowIs_made V (.string ByteArray.empty) m 9).congr fun i _ => rfl
 have hz0 : V.heap.size < W0.heap.size := by rw [← hW0]; exact alloc_lt _ _
 have y0 := B0.cell' y0
 have y4 := B0.cell' y4
 have HB0 := Lib.hid B0
 have HR0 := Lib.hid R0
 have HZ0 := Lib.hid hz0
 have HBV := Lib.hid BV
 have HZ := Lib.hid hZ
 have HE := Lib.hid hb
 have HX := Lib.hid hX
 have HK := Lib.hid hZ.1
 have HLn := Lib.hid hlen
 have HY := Lib.hid y0
 clear hX hZ hb hlen B0 R0 hz0 BV y1 y2 y3
 go_enter Tryz.func244,Tryz.ntmps244
 go_wp2_with fail
 go_loopw [15] (fun iv wr => ∃ (q : Nat) (D : List ByteArray),iv = .int .i64 (q : Int) ∧ q ≤ m ∧ Hid (D.length = q) ∧ Hid (D.map ByteArray.toList = X.take q) ∧ Hid (wr.rowIs V.heap.size 9 m (Lex.fil D)) ∧ Hid (V.heap.size < wr.heap.size) ∧ Hid (Bel V wr)) (fun iv _ => m - (intOf iv).toNat)
 case atStart => exact ⟨0,[],rfl,Nat.zero_le _,Lib.hid rfl,Lib.hid rfl,HR0,HZ0,HB0⟩
 case round =>
  obtain ⟨q,D,rfl,hq,hD,hMap,hRow,hsz,hB⟩ := hrel
  rename World => wr
  clear HR0 HZ0 hmk
  by_cases hqm : q < m
  ·obtain ⟨b,off,rfl,hc⟩ := za_addr HZ.out (by omega)
   have hql : q < kids.length := by rw [HK.out]; exact hqm
   have hqx : q < X.length := by rw [HX.out]; exact hqm
   have c0 := hB.out.cell' (HBV.out.cell' (hc q hql))
   have z0 : wr.cell? ⟨w.heap.size,0,none⟩ = some (.int .i64 k) := hB.out.cell' (by rw [← hV]; exact (box5 w _ _ _ _ _ _).1)
   have HC := Lib.hid (HE.out q hql hqx wr (Bel.trans HBV.out hB.out))
   have hMap2 : Hid ((D ++ [(⟨X[q].toArray⟩ : ByteArray)]).map ByteArray.toList = X.take (q + 1)) := Lib.hid (by rw [List.map_append,hMap.out,List.map_singleton,tlB,List.take_succ_eq_append_getElem hqx])
   generalize (⟨X[q].toArray⟩ : ByteArray) = x at HC hMap2
   generalize kids[q] = z at *
   clear hc hql hqx hMap
   go_wp2_with fail
   refine HC.out.mono ?_
   rintro e w2 ⟨rfl,g2⟩
   have z0 := g2.cell' z0
   have hRow2 := Lib.hid (Lex.row_on hRow.out hsz.out g2)
   have G2 := Lib.hid (Bel.trans hB.out g2)
   have hsz2 : Hid (V.heap.size < w2.heap.size) := Lib.hid (Nat.lt_of_lt_of_le hsz.out g2.size)
   have hcell := hRow2.out.cell (i := q) hqm
   have hfree := hRow2.out.frozen q
   have hne : ¬ V.heap.size = w.heap.size := by have : w.heap.size < V.heap.size := cell_lt' (show V.cell? ⟨w.heap.size,0,none⟩ = some (.int .i64 k) by rw [← hV]; exact (box5 w _ _ _ _ _ _).1); omega
   have z1 : (w2.setCell ⟨V.heap.size,q,none⟩ (.string x)).cell? ⟨w.heap.size,0,none⟩ = some (.int .i64 k) := (World.cell?_setCell_other w2 ⟨V.heap.size,q,none⟩ ⟨w.heap.size,0,none⟩ _ (by intro e; simp only [Addr.mk.injEq] at e; exact hne e.1)).trans z0
   clear g2 HC hRow hB hsz
   go_wp2_with fail
   go_round
   case rel => exact ⟨q + 1,D ++ [x],by go_num,by omega,Lib.hid (by rw [List.length_append,hD.out]; rfl),hMap2,Lib.hid (Lex.fil_step hRow2.out hD.out),Lib.hid (by rw [show (w2.setCell ⟨V.heap.size,q,none⟩ (.string x)).heap.size = w2.heap.size by simp [World.setCell]]; exact hsz2.out),Lib.hid (G2.out.setCell (Nat.le_refl _) _)⟩
   case measure => simp [intOf]; omega
  ·obtain rfl : q = m := by omega
   have hmap : D.map (·.data.toList) = X := by have := hMap.out; rw [List.take_of_length_le (by rw [HX.out]; omega)] at this; rw [← this]; exact List.map_congr_left fun x _ => (Lex.toL x).symm
   have HJ := Lib.hid (fun W hc hb => Tryz.strings_Join V.heap.size 0 q D ⟨#[44,32]⟩ W hc hb (by rw [hD.out]; omega) (by rw [hD.out]; omega) (by rw [hmap,show (⟨#[44,32]⟩ : ByteArray).data.toList = [44,32] from rfl]; exact HLn.out))
   rw [hmap,show (⟨#[44,32]⟩ : ByteArray).data.toList = [44,32] from rfl,hD.out] at HJ
   have hcl : Hid (∀ (j : Nat) x,D[j]? = some x → wr.cell? ⟨V.heap.size,0 + j,none⟩ = some (.string x)) := Lib.hid (fun j x hj => by
    have hlt : j < D.length := by
     rcases Nat.lt_or_ge j D.length with g | g
     ·exact g
     ·rw [List.getElem?_eq_none g] at hj; cases hj
    rw [Nat.zero_add,hRow.out.cell (i := j) (by rw [hD.out] at hlt; exact hlt)]
    simp [Lex.fil,List.getD,hj])
   clear hmap hMap
   go_wp2_with fail
   refine (HJ.out _ hcl.out hsz.out).mono ?_
   rintro e w2 ⟨rfl,g2⟩
   have G2 := Lib.hid (Bel.trans HBV.out (Bel.trans hB.out g2))
   clear g2 HJ hcl hB
   go_wp2_with fail
   go_ret
   exact ⟨rfl,G2.out⟩
end Syn
end Go.Proofs.YtcapkeaedpabjaaGreatDoor
