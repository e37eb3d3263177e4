/-
  Layer 8, texts merged: SchF, SchG, SchH. For every argument within the bounds that each theorem names.
-/
import Derived.Test.YtcapkeaedpabjaaGreatDoorYG1
import Derived.Laws.MakeOwn
set_option maxRecDepth 100000
set_option maxHeartbeats 16000000

/-
 Layer 8: keysFit, as the program has it.
-/
namespace Go.Proofs.YtcapkeaedpabjaaGreatDoor
open Go.RowKit Go.ChangeShapes Go.WideShapes
namespace Syn

def ascB : Option Txt → List Txt → Bool
 | _,[] => true
 | p,k :: r => strB k && ((match p with | none => true | some l => !leqT k l) && ascB (some k) r)
theorem asc_cons (p : Option Txt) (k : Txt) (r : List Txt) : ascB p (k :: r) = (strB k && ((match p with | none => true | some l => !leqT k l) && ascB (some k) r)) := by cases p <;> rfl
def keysB (k : Int) (ks : List Txt) (m : Nat) : Bool := if k = 7 then decide (ks.length = m) && ascB none ks else decide (ks.length = 0)
def prevK (ks : List Txt) (k : Nat) : Option Txt := if k = 0 then none else ks[k - 1]?
theorem asc_no {ks : List Txt} {k : Nat} {X : Bool} (hk : k < ks.length) (h : ascB (prevK ks k) (ks.drop k) = X) (hs : strB ks[k] = false) : X = false := by
 rw [List.drop_eq_getElem_cons hk,asc_cons,hs] at h
 rw [← h]
 rfl
theorem asc_first {ks : List Txt} {X : Bool} (hk : 0 < ks.length) (h : ascB (prevK ks 0) (ks.drop 0) = X) (hs : strB ks[0] = true) : ascB (prevK ks 1) (ks.drop 1) = X := by
 rw [List.drop_eq_getElem_cons hk,asc_cons,hs] at h
 rw [← h]
 show ascB ks[0]? _ = _
 rw [List.getElem?_eq_getElem hk]
 rfl
theorem asc_leq {ks : List Txt} {k : Nat} {X : Bool} (hk : k + 1 < ks.length) (h : ascB (prevK ks (k + 1)) (ks.drop (k + 1)) = X) (hs : strB ks[k + 1] = true) (hl : leqT ks[k + 1] ks[k] = true) : X = false := by
 rw [List.drop_eq_getElem_cons hk,show prevK ks (k + 1) = some ks[k] from List.getElem?_eq_getElem (by omega),asc_cons,hs] at h
 rw [← h]
 simp [hl]
theorem asc_go {ks : List Txt} {k : Nat} {X : Bool} (hk : k + 1 < ks.length) (h : ascB (prevK ks (k + 1)) (ks.drop (k + 1)) = X) (hs : strB ks[k + 1] = true) (hl : leqT ks[k + 1] ks[k] = false) : ascB (prevK ks (k + 2)) (ks.drop (k + 2)) = X := by
 rw [List.drop_eq_getElem_cons hk,show prevK ks (k + 1) = some ks[k] from List.getElem?_eq_getElem (by omega),asc_cons,hs] at h
 rw [← h,show prevK ks (k + 2) = some ks[k + 1] from List.getElem?_eq_getElem hk]
 simp [hl]
theorem keys_fits (k : Int) (s : Txt) (i : Int) (ko jo : Option Addr) (kn kc jn jc : Nat) (ks : List Txt) (hkn : kn ≤ 4611686018427387904) (w : World) (hm : Lex.ML w) (hA : KArg w ko kn ks) :
  Calls Tryz.prog 140 #[.agg #[.int .i64 k,.string ⟨s.toArray⟩,.int .i64 i,.slice ko kn kc,.slice jo jn jc]] w fun e w' => e = .returned (.bool (keysB k ks jn)) ∧ Bel w w' := by
 have hl : ks.length = kn := by have := hA.1; rw [List.length_map] at this; exact this
 by_cases hk : k = 7
 ·subst hk
  by_cases hlj : kn = jn
  ·subst hlj
   obtain ⟨X,hX⟩ : ∃ X,ascB none ks = X := ⟨_,rfl⟩
   rw [show keysB 7 ks kn = X by unfold keysB; rw [if_pos rfl,hl,hX]; simp]
   obtain ⟨W,hW⟩ : ∃ W,w.alloc (.cells #[.int .i64 7,.string ⟨s.toArray⟩,.int .i64 i,.slice ko kn kc,.slice jo kn jc] 65) = W := ⟨_,rfl⟩
   have B : Bel w W := by rw [← hW]; exact Bel.alloc (Bel.refl w) _
   have y3 : W.cell? ⟨w.heap.size,3,none⟩ = some (.slice ko kn kc) := by rw [← hW]; exact (box5 w _ _ _ _ _ _).2.2.2.1
   have y0 : W.cell? ⟨w.heap.size,0,none⟩ = some (.int .i64 7) := by rw [← hW]; exact (box5 w _ _ _ _ _ _).1
   have y4 : W.cell? ⟨w.heap.size,4,none⟩ = some (.slice jo kn jc) := by rw [← hW]; exact (box5 w _ _ _ _ _ _).2.2.2.2
   have HY := Lib.hid y3
   have HB := Lib.hid B
   have HX := Lib.hid hX
   have HL := Lib.hid hl
   have HS := Lib.hid (fun (t : Txt) W' (g : Bel w W') => isStr_any t W' (hm.on g))
   by_cases h0 : kn = 0
   ·have hz : Hid (X = true) := Lib.hid (by
     have e : ks = [] := List.eq_nil_of_length_eq_zero (by omega)
     rw [← HX.out,e]
     rfl)
    subst h0
    clear hA hm hX hl B
    go_enter Tryz.func140,Tryz.ntmps140
    go_wp2_with fail
    go_loopw [22] (fun iv wr => iv = .int .i64 0 ∧ wr = W) (fun _ _ => 0)
    case atStart => exact ⟨rfl,rfl⟩
    case round =>
     obtain ⟨rfl,rfl⟩ := hrel
     go_wp2
     go_ret
     exact ⟨by rw [hz.out]; rfl,HB.out⟩
   ·obtain ⟨b,off,rfl,hc⟩ := sl_addr hA (by omega)
    have hc' : ∀ j (h : j < ks.length),w.cell? ⟨b,off + j,none⟩ = some (.string ⟨ks[j].toArray⟩) := fun j h => by
     rw [hc j (by rw [List.length_map]; exact h)]
     simp [bz,List.getElem?_eq_getElem h]
    have HC := Lib.hid hc'
    have hn0 : (0 : Int) < (kn : Int) := by omega
    clear hA hm hX hl B hc hc'
    go_enter Tryz.func140,Tryz.ntmps140
    go_wp2_with fail
    go_loopw [22] (fun iv wr => ∃ j : Nat,iv = .int .i64 (j : Int) ∧ j ≤ kn ∧ Hid (ascB (prevK ks j) (ks.drop j) = X) ∧ Hid (Bel W wr)) (fun iv _ => kn - (intOf iv).toNat)
    case atStart => exact ⟨0,rfl,Nat.zero_le _,HX,Lib.hid (Bel.refl _)⟩
    case round =>
     obtain ⟨j,rfl,hj,HM,HBr⟩ := hrel
     rename World => wr
     rcases Nat.lt_or_ge j kn with hjn | hjn
     ·have hjl : j < ks.length := by rw [HL.out]; exact hjn
      have c0 := (Bel.trans HB.out HBr.out).cell' (HC.out j hjl)
      have HSj := Lib.hid (HS.out ks[j] wr (Bel.trans HB.out HBr.out))
      cases hs : strB ks[j] with
      | false =>
       rw [hs] at HSj
       have hz := Lib.hid (asc_no hjl HM.out hs)
       generalize ks[j] = t at *
       clear y3 hs
       go_wp2_with fail
       refine HSj.out.mono ?_
       rintro e w2 ⟨rfl,g⟩
       have G := Lib.hid (Bel.trans HBr.out g)
       clear g
       go_wp2_with fail
       go_ret
       exact ⟨by rw [hz.out]; rfl,Bel.trans HB.out G.out⟩
      | true =>
       rw [hs] at HSj
       cases j with
       | zero =>
        have hM2 := Lib.hid (asc_first hjl HM.out hs)
        rw [Nat.add_zero] at c0
        generalize ks[0] = t at *
        clear y3 hs
        go_wp2_with fail
        refine HSj.out.mono ?_
        rintro e w2 ⟨rfl,g⟩
        have G := Lib.hid (Bel.trans HBr.out g)
        clear g
        go_wp2_with fail
        go_round
        case rel => exact ⟨1,rfl,by omega,hM2,G⟩
        case measure => simp [intOf]; omega
       | succ j =>
        have hjl1 : j < ks.length := by omega
        have c1 := (Bel.trans HB.out HBr.out).cell' (HC.out j hjl1)
        cases hle : leqT ks[j + 1] ks[j] with
        | true =>
         have hz := Lib.hid (asc_leq hjl HM.out hs hle)
         unfold leqT at hle
         have HC1 := Lib.hid c1
         generalize ks[j + 1] = t at *
         generalize ks[j] = u at *
         clear y3 hs c1
         go_wp2_with fail
         refine HSj.out.mono ?_
         rintro e w2 ⟨rfl,g⟩
         have G := Lib.hid (Bel.trans HBr.out g)
         have y3 := G.out.cell' HY.out
         have c1 := g.cell' HC1.out
         clear g
         go_wp2_with fail
         go_ret
         exact ⟨by rw [hz.out]; rfl,Bel.trans HB.out G.out⟩
        | false =>
         have hM2 := Lib.hid (asc_go hjl HM.out hs hle)
         unfold leqT at hle
         have HC1 := Lib.hid c1
         generalize ks[j + 1] = t at *
         generalize ks[j] = u at *
         clear y3 hs c1
         go_wp2_with fail
         refine HSj.out.mono ?_
         rintro e w2 ⟨rfl,g⟩
         have G := Lib.hid (Bel.trans HBr.out g)
         have y3 := G.out.cell' HY.out
         have c1 := g.cell' HC1.out
         clear g
         go_wp2_with fail
         go_round
         case rel => exact ⟨j + 2,by go_num,by omega,hM2,G⟩
         case measure => simp [intOf]; omega
     ·have hz : Hid (X = true) := Lib.hid (by
       have := HM.out
       rw [List.drop_eq_nil_of_le (by rw [HL.out]; exact hjn)] at this
       rw [← this]
       cases prevK ks j <;> rfl)
      obtain rfl : j = kn := by omega
      go_wp2_with fail
      go_ret
      exact ⟨by rw [hz.out]; rfl,Bel.trans HB.out HBr.out⟩
  ·rw [show keysB 7 ks jn = false by unfold keysB; rw [if_pos rfl,hl]; simp [hlj]]
   have h1 : ¬ (kn : Int) = (jn : Int) := by omega
   clear hA hm
   go_enter Tryz.func140,Tryz.ntmps140
   go_wp2_with fail
   go_ret
   exact ⟨rfl,Bel.alloc (Bel.refl _) _⟩
 ·rw [show keysB k ks jn = ((kn : Int) == 0) by
   unfold keysB
   rw [if_neg hk,hl,Bool.eq_iff_iff]
   simp]
  have hk1 : (k == 7) = false := by simpa using hk
  clear hA hm
  go_enter Tryz.func140,Tryz.ntmps140
  go_wp2_with fail
  go_ret
  exact ⟨rfl,Bel.alloc (Bel.refl _) _⟩

def Row (g n : Nat) (f : Nat → Int) (w : World) : Prop := ∀ j,j < n → w.cell? ⟨g,j,none⟩ = some (.int .i64 (f j)) ∧ w.frozen? ⟨g,j,none⟩ = false
def upd (f : Nat → Int) (k : Nat) (v : Int) : Nat → Int := fun j => if j = k then v else f j
theorem Row.set {g n k : Nat} {f : Nat → Int} {w : World} {v : Int} (h : Row g n f w) (hk : k < n) : Row g n (upd f k v) (w.setCell ⟨g,k,none⟩ (.int .i64 v)) := fun j hj => by
 unfold upd
 by_cases e : j = k
 ·subst e
  rw [if_pos rfl]
  exact ⟨World.cell?_setCell_same w _ _ (h j hj).1,by rw [World.frozen?_setCell]; exact (h j hj).2⟩
 ·rw [if_neg e]
  exact ⟨(World.cell?_setCell_other w ⟨g,k,none⟩ ⟨g,j,none⟩ _ (by intro q; simp only [Addr.mk.injEq] at q; exact e q.2.1.symm)).trans (h j hj).1,by rw [World.frozen?_setCell]; exact (h j hj).2⟩
theorem Row.on {g n : Nat} {f : Nat → Int} {w w' : World} (h : Row g n f w) (b : Bel w w') : Row g n f w' := fun j hj =>
 ⟨b.cell' (h j hj).1,(World.frozen?_of_block (a := ⟨g,j,none⟩) (b.block g (cell_lt' (h j hj).1))).trans (h j hj).2⟩
theorem Row.congr {g n : Nat} {f f' : Nat → Int} {w : World} (h : Row g n f w) (e : ∀ j,j < n → f j = f' j) : Row g n f' w := fun j hj => by rw [← e j hj]; exact h j hj
theorem Row.arg {g n : Nat} {f : Nat → Int} {w : World} (h : Row g n f w) (l : List Int) (hl : l.length = n) (e : ∀ j (hj : j < l.length),f j = l[j]) : RArg w (some ⟨g,0,none⟩) n l :=
 ⟨hl,fun _ => ⟨g,0,rfl,fun i hi => by rw [Nat.zero_add,(h i (by omega)).1,e i hi]⟩⟩
theorem made_row (w : World) (n : Nat) (t : TypeId) : Row w.heap.size n (fun _ => 0) (w.alloc (.cells (madeCells #[.int .i64 0] n) t)) := fun j hj => ⟨by
 rw [World.cell?_alloc_new]
 have : (madeCells #[Value.int .i64 0] n).toList[j]? = some (.int .i64 0) := by rw [toList_madeCells_one,List.getElem?_replicate,if_pos hj]
 simpa using this,World.frozen?_alloc_new _ _ _ _⟩
theorem info_role : (Tryz.prog.info? 182).map (fun i => (i.zero,i.size,i.bytes)) = some (some (.int .i64 0),1,8) := by kernel_rfl
theorem make_roles (n : Nat) (hn : n ≤ 100000) (W : World) : (Instr.makeSlice 151 (.int .i64 (n : Int)) (.int .i64 (n : Int))).run Tryz.prog W = .ok (.slice (some ⟨W.heap.size,0,none⟩) n n) (W.alloc (.cells (madeCells #[.int .i64 0] n) 182)) := by
 obtain ⟨i0,hi,hz0,hz1,hz2⟩ := info_parts info_role
 have h := run_make (P := Tryz.prog) (w := W) 151 182 i0 _ Tryz.underlying151 hi hz0 .i64 .i64 (n : Int) (n : Int) (by omega) (by omega) (by rw [hz2]; omega) (by omega)
 rw [h,hz1]
 simp only [Int.toNat_natCast,Nat.mul_one]
 rfl
theorem za_addr {w : World} {o : Option Addr} {n : Nat} {l : List Int} (h : ZArg w o n l) (hn : 0 < n) : ∃ b off,o = some ⟨b,off,none⟩ ∧ ∀ j (hj : j < l.length),w.cell? ⟨b,off + j,none⟩ = some (.int .i64 l[j]) := by
 have hl := h.1
 obtain ⟨⟨b,off,sp⟩,rfl,hc⟩ := h.2 0 (by omega)
 have hs : sp = none := by
  cases sp with
  | none => rfl
  | some x =>
   unfold World.cell? Addr.add at hc
   rw [if_pos rfl] at hc
   split at hc
   ·simp at hc
   ·cases hc
 subst hs
 refine ⟨b,off,rfl,fun j hj => ?_⟩
 obtain ⟨a,e,c⟩ := h.2 j hj
 obtain rfl := Option.some.inj e
 rw [Lib.add_plain] at c
 exact c
theorem nd_kind {w : World} {o : Option Addr} {n : Nat} {L : List Nd} (h : NArg w o n L) (hn : 0 < n) : ∃ b off,o = some ⟨b,off,none⟩ ∧ ∀ i (hi : i < L.length),w.cell? ⟨b,off + i * 5,none⟩ = some (.int .i64 L[i].k) := by
 obtain ⟨b,off,e,k⟩ := h.2 hn
 refine ⟨b,off,e,fun i hi => ?_⟩
 obtain ⟨v,h1,h2⟩ := k i hi
 have := h2 0 (.int .i64 v.k) rfl
 rw [h1.k] at this
 exact this
def rolesL (L : List Nd) (kids : List Int) : List Int := kids.map fun z => match L[z.toNat]? with | some x => roleI x.k | none => 0
theorem roles_any (no jo : Option Addr) (n nc m jc : Nat) (L : List Nd) (kids : List Int) (hm : m ≤ 100000) (hnL : n ≤ 4611686018427387904) (hk : ∀ z ∈ kids,0 ≤ z ∧ z < (n : Int)) (w : World) (hA : NArg w no n L) (hB : ZArg w jo m kids) :
  Calls Tryz.prog 142 #[.slice no n nc,.slice jo m jc] w fun e w' => (∃ o,e = .returned (.slice o m m) ∧ RArg w' o m (rolesL L kids)) ∧ Bel w w' := by
 have hmk := make_roles m hm w
 obtain ⟨W,hW⟩ : ∃ W,w.alloc (.cells (madeCells #[.int .i64 0] m) 182) = W := ⟨_,rfl⟩
 have B : Bel w W := by rw [← hW]; exact Bel.alloc (Bel.refl w) _
 have r0 : Row w.heap.size m (fun _ => 0) W := by rw [← hW]; exact made_row w m _
 rw [hW] at hmk
 have HB := Lib.hid B
 have HR0 := Lib.hid r0
 have hkl := hB.1
 have HRo := Lib.hid (fun k W => roleOf_any k W)
 have HA := Lib.hid hA
 have HZ := Lib.hid hB
 have HK := Lib.hid hk
 clear hA hB hk B r0 hW
 go_enter Tryz.func142,Tryz.ntmps142
 go_wp2_with fail
 go_loopw [13] (fun iv wr => ∃ k : Nat,iv = .int .i64 (k : Int) ∧ k ≤ m ∧ Hid (Row w.heap.size m (fun j => if j < k then (rolesL L kids).getD j 0 else 0) wr) ∧ Hid (Bel w wr)) (fun iv _ => m - (intOf iv).toNat)
 case atStart => exact ⟨0,rfl,Nat.zero_le _,Lib.hid (HR0.out.congr fun j _ => by simp),HB⟩
 case round =>
  obtain ⟨k,rfl,hk,HRow,HBr⟩ := hrel
  rename World => wr
  rcases Nat.lt_or_ge k m with hkm | hkm
  ·obtain ⟨b,off,rfl,hc⟩ := za_addr HZ.out (by omega)
   have hkk : k < kids.length := by omega
   obtain ⟨z0,z1⟩ := HK.out kids[k] (List.getElem_mem hkk)
   obtain ⟨b2,off2,rfl,hc2⟩ := nd_kind HA.out (by omega)
   have c0 := HBr.out.cell' (hc k hkk)
   obtain ⟨q,hq⟩ : ∃ q : Nat,kids[k] = (q : Int) := ⟨kids[k].toNat,by omega⟩
   have hqn : q < n := by omega
   have hqL : q < L.length := by rw [HA.out.1]; exact hqn
   have c2 := HBr.out.cell' (hc2 q hqL)
   have er : (rolesL L kids).getD k 0 = roleI L[q].k := by
    unfold rolesL
    rw [List.getD_eq_getElem?_getD,List.getElem?_map,List.getElem?_eq_getElem hkk]
    simp only [Option.map_some,Option.getD_some,hq,Int.toNat_natCast]
    rw [List.getElem?_eq_getElem hqL]
   rw [hq] at c0
   have f0 := (HRow.out k hkm).2
   have g0 := (HRow.out k hkm).1
   have HR2 := Lib.hid ((HRow.out.set (v := roleI L[q].k) hkm).congr (f' := fun j => if j < k + 1 then (rolesL L kids).getD j 0 else 0) fun j hj => by
    unfold upd
    by_cases e : j = k
    ·subst e
     rw [if_pos rfl,if_pos (by omega),er]
    ·rw [if_neg e]
     dsimp only
     by_cases e2 : j < k
     ·rw [if_pos e2,if_pos (by omega)]
     ·rw [if_neg e2,if_neg (by omega)])
   have hB2 := Lib.hid (Bel.setCell HBr.out (p := ⟨w.heap.size,k,none⟩) (Nat.le_refl _) (.int .i64 (roleI L[q].k)))
   generalize L[q].k = kd at *
   clear z0 z1 hq er hc hc2
   go_wp2_with fail
   refine (HRo.out kd _).mono ?_
   rintro e w2 ⟨rfl,rfl⟩
   go_wp2_with fail
   go_round
   case rel => exact ⟨k + 1,by go_num,by omega,HR2,hB2⟩
   case measure => simp [intOf]; omega
  ·obtain rfl : k = m := by omega
   have hlen : (rolesL L kids).length = k := by unfold rolesL; rw [List.length_map]; exact hkl
   go_wp2_with fail
   go_ret
   refine ⟨⟨_,rfl,HRow.out.arg _ hlen fun j hj => ?_⟩,HBr.out⟩
   rw [if_pos (by omega),List.getD_eq_getElem?_getD,List.getElem?_eq_getElem hj]
   rfl

theorem eqI_any (o1 o2 : Option Addr) (n m c1 c2 : Nat) (l1 l2 : List Int) (hn : n ≤ 4611686018427387904) (hm : m ≤ 4611686018427387904) (w : World) (hA : RArg w o1 n l1) (hB : RArg w o2 m l2) :
  Calls Tryz.prog 137 #[.slice o1 n c1,.slice o2 m c2] w fun e w' => e = .returned (.bool (decide (l1 = l2))) ∧ Bel w w' := by
 have k1 := hA.1
 have k2 := hB.1
 by_cases h0 : n = m
 ·subst h0
  by_cases hz : n = 0
  ·subst hz
   have e1 : l1 = [] := List.eq_nil_of_length_eq_zero k1
   have e2 : l2 = [] := List.eq_nil_of_length_eq_zero k2
   subst e1 e2
   clear hA hB
   go_enter Tryz.func137,Tryz.ntmps137
   go_wp2_with fail
   go_loopw [13] (fun iv wr => iv = .int .i64 0 ∧ wr = w) (fun _ _ => 0)
   case atStart => exact ⟨rfl,rfl⟩
   case round =>
    obtain ⟨rfl,rfl⟩ := hrel
    go_wp2
    go_ret
    exact ⟨rfl,Bel.refl _⟩
  ·obtain ⟨b,off,rfl,hc⟩ := hA.2 (by omega)
   obtain ⟨b2,off2,rfl,hc2⟩ := hB.2 (by omega)
   obtain ⟨X,hX⟩ : ∃ X,decide (l1 = l2) = X := ⟨_,rfl⟩
   have HX := Lib.hid hX
   rw [hX]
   have K1 := Lib.hid k1
   have K2 := Lib.hid k2
   have HC := Lib.hid hc
   have HC2 := Lib.hid hc2
   have hn0 : (0 : Int) < (n : Int) := by omega
   clear hA hB hc hc2 k1 k2 hX
   go_enter Tryz.func137,Tryz.ntmps137
   go_wp2_with fail
   go_loopw [13] (fun iv wr => ∃ k : Nat,iv = .int .i64 (k : Int) ∧ k ≤ n ∧ Hid (decide (l1.drop k = l2.drop k) = X) ∧ Hid (Bel w wr)) (fun iv _ => n - (intOf iv).toNat)
   case atStart => exact ⟨0,rfl,Nat.zero_le _,HX,Lib.hid (Bel.refl _)⟩
   case round =>
    obtain ⟨k,rfl,hk,HM,HB⟩ := hrel
    rename World => wr
    rcases Nat.lt_or_ge k n with hkn | hkn
    ·have q1 : k < l1.length := by rw [K1.out]; exact hkn
     have q2 : k < l2.length := by rw [K2.out]; exact hkn
     have c0 := HB.out.cell' (HC.out k q1)
     have c02 := HB.out.cell' (HC2.out k q2)
     have hM := HM.out
     rw [drop_eq_at q1 q2] at hM
     generalize l1[k] = u at *
     generalize l2[k] = v at *
     by_cases huv : u = v
     ·subst huv
      have hM2 : Hid (decide (l1.drop (k + 1) = l2.drop (k + 1)) = X) := Lib.hid (by rw [← hM]; simp)
      clear hM HM
      go_wp2_with fail
      go_quiet (fail)
      go_wp2_with fail
      go_round
      case rel => exact ⟨k + 1,by go_num,by omega,hM2,Lib.hid (Bel.drewN HB.out _)⟩
      case measure => simp [intOf]; omega
     ·have hz2 : Hid (X = false) := Lib.hid (by rw [← hM]; simp [huv])
      have buv : (u == v) = false := by simpa using huv
      clear hM HM
      go_wp2_with fail
      go_quiet (fail)
      go_wp2_with fail
      go_ret
      exact ⟨by rw [hz2.out]; rfl,Bel.drewN HB.out _⟩
    ·have hz2 : Hid (X = true) := Lib.hid (by
      have := HM.out
      rw [List.drop_eq_nil_of_le (by rw [K1.out]; exact hkn),List.drop_eq_nil_of_le (by rw [K2.out]; exact hkn)] at this
      rw [← this]
      rfl)
     obtain rfl : k = n := by omega
     go_wp2_with fail
     go_ret
     exact ⟨by rw [hz2.out]; rfl,HB.out⟩
 ·have hne : decide (l1 = l2) = false := by
   rw [decide_eq_false_iff_not]
   intro e
   rw [e] at k1
   omega
  rw [hne]
  have h0' : ¬ (n : Int) = (m : Int) := by omega
  clear hA hB
  go_enter Tryz.func137,Tryz.ntmps137
  go_wp2_with fail
  go_ret
  exact ⟨rfl,Bel.refl _⟩
theorem ZArg.rarg {w : World} {o : Option Addr} {n : Nat} {l : List Int} (h : ZArg w o n l) : RArg w o n l := ⟨h.1,fun h0 => za_addr h h0⟩
def ndB (L : List Nd) (x : Nd) : Bool := textB x.k x.s && (intF x.k x.i && (keysB x.k x.keys x.kids.length && partB x.k (rolesL L x.kids)))
def rts (L : List Nd) : Nat → List Nd → List Int → Option (List Int)
 | _,[],op => some op
 | i,x :: r,op => if x.kids.length ≤ op.length ∧ op.drop (op.length - x.kids.length) = x.kids then (if ndB L x = true then rts L (i + 1) r (op.take (op.length - x.kids.length) ++ [(i : Int)]) else none) else none
theorem rts_far {L : List Nd} {i : Nat} {x : Nd} {r : List Nd} {op : List Int} (h : ¬ (x.kids.length ≤ op.length ∧ op.drop (op.length - x.kids.length) = x.kids)) : rts L i (x :: r) op = none := by rw [rts,if_neg h]
theorem rts_bad {L : List Nd} {i : Nat} {x : Nd} {r : List Nd} {op : List Int} (h : ndB L x = false) : rts L i (x :: r) op = none := by
 rw [rts]
 split
 ·rw [if_neg (by rw [h]; decide)]
 ·rfl
theorem rts_go {L : List Nd} {i : Nat} {x : Nd} {r : List Nd} {op : List Int} (h : x.kids.length ≤ op.length ∧ op.drop (op.length - x.kids.length) = x.kids) (h2 : ndB L x = true) : rts L i (x :: r) op = rts L (i + 1) r (op.take (op.length - x.kids.length) ++ [(i : Int)]) := by rw [rts,if_pos h,if_pos h2]
theorem list_appZ {Y : World} {m c g : Nat} {p : Option Addr} {l : List Int} {z : Int} {w : World} {ops : Array Oper} {rest : List Oper} {o : Oper} {a : Act} {Q : Exit → Act → World → Prop} (s y : Operand)
  (ho : o.op = .call { callee := .builtin .append,args := #[s,y],argTypes := #[38,38] }) (hgd : o.guard = none) (_hty : o.type = 38) (hs : a.eval s = .slice p m c) (hx : a.eval y = .slice (some ⟨g,0,none⟩) 1 1)
  (hb : Bel w Y) (hown : Y.ownsRow w.heap.size 3 1 (.slice p m c) m (encZ l)) (h2 : ∀ j u,[Value.int .i64 z][j]? = some u → Y.cell? ((⟨g,0,none⟩ : Addr).add j) = some u) (hm : m + 1 ≤ 1099511627776)
  (h : ∀ o3 c3 w',Hid (Bel w w') → Hid (w'.ownsRow w.heap.size 3 1 (.slice o3 (m + 1) c3) (m + 1) (encZ (l ++ [z]))) → wpList Tryz.prog ops Q rest (a.put o.dst (.slice o3 (m + 1) c3)) w') : wpList Tryz.prog ops Q (o :: rest) a Y := by
 obtain ⟨i0,hi,hz0,hz1,hz2⟩ := info_parts info_int
 refine wpList_append_own _ hgd s y 38 ho w.heap.size 3 i0 _ 1 8 Tryz.underlying38 hi hz0 hz1 hz2 rfl (by decide) _ m _ hs hown ⟨g,0,none⟩ 1 1 [.int .i64 z] hx rfl h2 (fun u hu => by simp at hu; subst hu; rfl) (by unfold maxLen; omega) (by omega) hb.size ?_
 intro v' w' ho' hg _
 obtain ⟨o3,c3,rfl⟩ := own_shape ho'
 exact h o3 c3 w' (Lib.hid (own_bel hown hb hg)) (Lib.hid (by rw [show encZ (l ++ [z]) = encZ l ++ [.int .i64 z] by simp [encZ]]; exact ho'))
theorem elem_int : Tryz.prog.underlying 38 = some (.slice (Tryz.prog.elem 38)) := by kernel_rfl
theorem size_int (w : World) : (sizeOf (Tryz.prog.elem 38)).run Tryz.prog w = .ok 1 w := by kernel_rfl
theorem cut_from {w : World} {base m c : Nat} {p : Option Addr} {l : List Int} (h : w.ownsRow base 3 1 (.slice p m c) m (encZ l)) (i : Nat) (hi : i ≤ m) :
  ∃ q d,(∀ W : World,(Instr.slice 38 (.slice p m c) (some (.int .i64 (i : Int))) none none).run Tryz.prog W = .ok (.slice q (m - i) d) W) ∧ RArg w q (m - i) (l.drop i) := by
 have hz := own_zarg h
 have hl := hz.1
 have hcap := own_cap h
 rcases h.2 with ⟨hv,hk⟩ | ⟨g,cap,cur,hv,_,_,_⟩
 ·simp only [Value.slice.injEq] at hv
  obtain ⟨rfl,-,rfl⟩ := hv
  subst hk
  obtain rfl : i = 0 := by omega
  refine ⟨none,0,fun W => ?_,⟨by simp [hl],fun h => by omega⟩⟩
  rw [run_slice_l W _ _ _ _ elem_int .i64 _ (by omega) (by omega),size_int]
  rfl
 ·simp only [Value.slice.injEq] at hv
  obtain ⟨rfl,-,rfl⟩ := hv
  by_cases hci : c = i
  ·subst hci
   refine ⟨some ⟨g,0,none⟩,0,fun W => ?_,⟨by rw [List.length_drop]; omega,fun h => by omega⟩⟩
   rw [run_slice_l W _ _ _ _ elem_int .i64 _ (by omega) (by omega),size_int]
   simp [Result.andThen,sliced]
  ·refine ⟨some ⟨g,i,none⟩,c - i,fun W => ?_,⟨by rw [List.length_drop]; omega,fun h0 => ⟨g,i,rfl,fun j hj => ?_⟩⟩⟩
   ·rw [run_slice_l W _ _ _ _ elem_int .i64 _ (by omega) (by omega),size_int]
    simp [Result.andThen,sliced,hci,Addr.add]
    exact fun q => q.symm
   ·rw [List.length_drop] at hj
    obtain ⟨b2,off2,e2,hc2⟩ := za_addr hz (by omega)
    simp only [Option.some.injEq,Addr.mk.injEq] at e2
    obtain ⟨rfl,rfl,-⟩ := e2
    rw [List.getElem_drop]
    have := hc2 (i + j) (by omega)
    rwa [Nat.zero_add] at this
end Syn
end Go.Proofs.YtcapkeaedpabjaaGreatDoor
