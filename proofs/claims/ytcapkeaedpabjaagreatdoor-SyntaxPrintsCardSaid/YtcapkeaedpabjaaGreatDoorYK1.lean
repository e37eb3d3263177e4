/-
  Layer 8, texts merged: SrA, SrB, SrC. For every argument within the bounds that each theorem names.
-/
import Derived.Test.YtcapkeaedpabjaaGreatDoorYE1
set_option maxRecDepth 100000
set_option maxHeartbeats 16000000

/-
 Layer 8, plainly: the reference's measure, and that it accepts what Check accepts.
-/
namespace Go.Proofs.YtcapkeaedpabjaaGreatDoor
namespace Syn
def kidsG (low : Int) (sz ht : List Int) : List Int → Int → Int → Option (Int × Int)
 | [],a,t => some (a,t)
 | z :: r,a,t => if z = a ∧ low ≤ a then kidsG low sz ht r (a - sz.getD a.toNat 0) (max t (ht.getD a.toNat 0)) else none
def oneG (L : List Nd) (low : Int) (sz ht : List Int) (i : Nat) (x : Nd) : Option (Int × Int) :=
 match kidsG low sz ht x.kids.reverse ((i : Int) - 1) 0 with
 | none => none
 | some (a,t) => if ndB L x = true then some ((i : Int) - a,t + 1) else none
def nodesG (L : List Nd) (low : Int) : List Nd → Nat → List Int → List Int → Option (List Int × List Int)
 | [],_,sz,ht => some (sz,ht)
 | x :: r,i,sz,ht =>
  match oneG L low sz ht i x with
  | none => none
  | some (s,t) => nodesG L low r (i + 1) (sz ++ [s]) (ht ++ [t])
def headG (L : List Nd) (low : Int) (f : Fw) : Bool := decide (low ≤ f.body) && (decide (f.body < (L.length : Int)) && (decide (kindAt L f.body = 19) && (nameB f.name && !(f.params.any fun p => !nameB p))))
def funcsG (L : List Nd) : List Fw → Nat → List Int → List Int → Option (List Int × List Int × Nat)
 | [],low,sz,ht => some (sz,ht,low)
 | f :: F,low,sz,ht =>
  if headG L low f = true then
   match nodesG L low ((L.drop low).take (f.body.toNat + 1 - low)) low sz ht with
   | none => none
   | some (sz',ht') => if sz'.getD f.body.toNat 0 = f.body - low + 1 then funcsG L F (f.body.toNat + 1) sz' ht' else none
  else none
def measG (L : List Nd) (F : List Fw) : Option (List Int × List Int × Nat) := funcsG L F 0 [] []
def measB (L : List Nd) (F : List Fw) : Bool := match measG L F with | none => false | some x => decide (x.2.2 = L.length)
mutual
def szT : T → List Int
 | .node _ _ _ _ ts => szTs ts ++ [((sizes ts + 1 : Nat) : Int)]
def szTs : Ts → List Int
 | .nil => []
 | .cons t r => szT t ++ szTs r
end
mutual
def htT : T → List Int
 | .node _ _ _ _ ts => htTs ts ++ [((heights ts + 1 : Nat) : Int)]
def htTs : Ts → List Int
 | .nil => []
 | .cons t r => htT t ++ htTs r
end
mutual
theorem szT_len : ∀ t,(szT t).length = size t
 | .node _ _ _ _ ts => by rw [szT,size,List.length_append,szTs_len ts]; rfl
theorem szTs_len : ∀ ts,(szTs ts).length = sizes ts
 | .nil => rfl
 | .cons t r => by rw [szTs,sizes,List.length_append,szT_len t,szTs_len r]
end
mutual
theorem htT_len : ∀ t,(htT t).length = size t
 | .node _ _ _ _ ts => by rw [htT,size,List.length_append,htTs_len ts]; rfl
theorem htTs_len : ∀ ts,(htTs ts).length = sizes ts
 | .nil => rfl
 | .cons t r => by rw [htTs,sizes,List.length_append,htT_len t,htTs_len r]
end
theorem szT_last : ∀ t,∃ X,szT t = X ++ [((size t : Nat) : Int)]
 | .node _ _ _ _ ts => ⟨_,by rw [szT,size]⟩
theorem htT_last : ∀ t,∃ X,htT t = X ++ [((height t : Nat) : Int)]
 | .node _ _ _ _ ts => ⟨_,by rw [htT,height]⟩
def szS : List T → List Int
 | [] => []
 | t :: s => szS s ++ szT t
def htS : List T → List Int
 | [] => []
 | t :: s => htS s ++ htT t
theorem szS_len : ∀ s,(szS s).length = fsum s
 | [] => rfl
 | t :: s => by rw [szS,List.length_append,szS_len s,szT_len,fsum]
theorem htS_len : ∀ s,(htS s).length = fsum s
 | [] => rfl
 | t :: s => by rw [htS,List.length_append,htS_len s,htT_len,fsum]
theorem szS_stk : ∀ (us : Ts) (st : List T),szS (stk us st) = szS st ++ szTs us
 | .nil,st => by rw [stk,szTs,List.append_nil]
 | .cons t r,st => by rw [stk,szS_stk r,szS,szTs,List.append_assoc]
theorem htS_stk : ∀ (us : Ts) (st : List T),htS (stk us st) = htS st ++ htTs us
 | .nil,st => by rw [stk,htTs,List.append_nil]
 | .cons t r,st => by rw [stk,htS_stk r,htS,htTs,List.append_assoc]
theorem last_at {A B D : List Int} {v : Int} {i : Nat} (h : A.length + B.length = i) : (A ++ (B ++ [v]) ++ D).getD i 0 = v := by
 subst h
 simp [List.getD]
theorem sz_at {A D : List Int} {st : List T} {t : T} {i : Nat} (h : i + 1 = A.length + fsum (t :: st)) : (A ++ szS (t :: st) ++ D).getD i 0 = (size t : Int) := by
 obtain ⟨X,e⟩ := szT_last t
 have hl := szT_len t
 rw [e,List.length_append,List.length_singleton] at hl
 rw [szS,e,← List.append_assoc]
 rw [fsum] at h
 exact last_at (by rw [List.length_append,szS_len]; omega)
theorem ht_at {A D : List Int} {st : List T} {t : T} {i : Nat} (h : i + 1 = A.length + fsum (t :: st)) : (A ++ htS (t :: st) ++ D).getD i 0 = (height t : Int) := by
 obtain ⟨X,e⟩ := htT_last t
 have hl := htT_len t
 rw [e,List.length_append,List.length_singleton] at hl
 rw [htS,e,← List.append_assoc]
 rw [fsum] at h
 exact last_at (by rw [List.length_append,htS_len]; omega)
theorem heights_app : ∀ (a b : Ts),heights (app a b) = max (heights a) (heights b)
 | .nil,b => by rw [app,heights]; omega
 | .cons t r,b => by rw [app,heights,heights,heights_app r]; omega
theorem stk_app : ∀ (a b : Ts) (st : List T),stk (app a b) st = stk b (stk a st)
 | .nil,b,st => by rw [app,stk]
 | .cons t r,b,st => by rw [app,stk,stk,stk_app r]
theorem kids_sound (low : Nat) (A C : List Int) (hA : A.length = low) (hC : C.length = low) : ∀ (zs : List Int) (st : List T) (D E : List Int) (a t a' t' : Int),
  a = ((low + fsum st : Nat) : Int) - 1 → 0 ≤ t → kidsG low (A ++ szS st ++ D) (C ++ htS st ++ E) zs a t = some (a',t') →
  ∃ us st2,st = stk us st2 ∧ zs.reverse = roots (low + fsum st2) us ∧ a' = ((low + fsum st2 : Nat) : Int) - 1 ∧ t' = max t (heights us : Int)
 | [],st,D,E,a,t,a',t',ha,ht,h => by
  rw [kidsG] at h
  obtain ⟨rfl,rfl⟩ := Prod.mk.inj (Option.some.inj h)
  exact ⟨.nil,st,rfl,rfl,ha,by rw [heights]; omega⟩
 | z :: zs,[],D,E,a,t,a',t',ha,ht,h => by
  rw [kidsG,if_neg (by rw [fsum] at ha; omega)] at h
  cases h
 | z :: zs,u :: st,D,E,a,t,a',t',ha,ht,h => by
  rw [kidsG] at h
  split at h
  ·rename_i hz
   have hp := size_pos u
   have hi : a.toNat + 1 = A.length + fsum (u :: st) := by rw [fsum] at *; omega
   have hi2 : a.toNat + 1 = C.length + fsum (u :: st) := by omega
   rw [sz_at hi,ht_at hi2] at h
   rw [szS,htS,← List.append_assoc A,← List.append_assoc C,List.append_assoc _ (szT u),List.append_assoc _ (htT u)] at h
   have ha2 : a - (size u : Int) = ((low + fsum st : Nat) : Int) - 1 := by rw [fsum] at ha; omega
   obtain ⟨us,st2,rfl,h2,h3,h4⟩ := kids_sound low A C hA hC zs st _ _ _ _ _ _ ha2 (by omega) h
   refine ⟨app us (.cons u .nil),st2,by rw [stk_app]; rfl,?_,h3,?_⟩
   ·rw [List.reverse_cons,h2,roots_app,roots,roots,hz.1,ha]
    rw [fsum,fsum_stk]
    congr 2
    omega
   ·rw [h4,heights_app,heights,heights]
    omega
  ·cases h
theorem kids_full (low : Nat) (A C : List Int) (hA : A.length = low) (hC : C.length = low) : ∀ (us : Ts) (st : List T) (D E : List Int) (zs : List Int) (t : Int),0 ≤ t →
  kidsG low (A ++ szS (stk us st) ++ D) (C ++ htS (stk us st) ++ E) ((roots (low + fsum st) us).reverse ++ zs) (((low + fsum (stk us st) : Nat) : Int) - 1) t
  = kidsG low (A ++ szS (stk us st) ++ D) (C ++ htS (stk us st) ++ E) zs (((low + fsum st : Nat) : Int) - 1) (max t (heights us : Int))
 | .nil,st,D,E,zs,t,ht => by
  rw [roots,stk,heights,List.reverse_nil,List.nil_append,show max t ((0 : Nat) : Int) = t by omega]
 | .cons u r,st,D,E,zs,t,ht => by
  rw [roots,stk,List.reverse_cons,List.append_assoc (List.reverse _)]
  have := kids_full low A C hA hC r (u :: st) D E ([((low + fsum st + size u - 1 : Nat) : Int)] ++ zs) t ht
  rw [show low + fsum (u :: st) = low + fsum st + size u by rw [fsum]; omega] at this
  rw [this]
  have hp := size_pos u
  rw [List.singleton_append,kidsG,if_pos (by constructor <;> omega),szS_stk,htS_stk]
  have hi : (((low + fsum st + size u : Nat) : Int) - 1).toNat + 1 = A.length + fsum (u :: st) := by rw [fsum]; omega
  rw [← List.append_assoc A,← List.append_assoc C,List.append_assoc (A ++ _),List.append_assoc (C ++ _),sz_at hi,ht_at (by omega)]
  rw [heights]
  congr 1 <;> omega
theorem flatS_stkB (low : Nat) : ∀ (us : Ts) (st : List T),flatS low (stk us st) = flatS low st ++ flats (low + fsum st) us
 | .nil,st => by rw [stk,flats,List.append_nil]
 | .cons t r,st => by rw [stk,flatS_stkB low r,flatS,flats,fsum,List.append_assoc]; congr 3; omega
theorem one_sound {L : List Nd} {low : Nat} {A C : List Int} {x : Nd} {P R : List Nd} {st : List T} {s t : Int} (hA : A.length = low) (hC : C.length = low) (hP : P.length = low)
  (hL : L = P ++ flatS low st ++ x :: R) (hg : ∀ t ∈ st,goodT t) (h : oneG L low (A ++ szS st) (C ++ htS st) (low + fsum st) x = some (s,t)) :
  ∃ us st2,st = stk us st2 ∧ x.kids = roots (low + fsum st2) us ∧ s = (sizes us + 1 : Nat) ∧ t = (heights us + 1 : Nat) ∧ goodT (.node x.k x.s x.i x.keys us) ∧ ∀ t ∈ st2,goodT t := by
 unfold oneG at h
 cases e : kidsG low (A ++ szS st) (C ++ htS st) x.kids.reverse (((low + fsum st : Nat) : Int) - 1) 0 with
 | none => rw [e] at h; cases h
 | some q =>
  obtain ⟨a,t1⟩ := q
  rw [e] at h
  simp only at h
  split at h
  ·rename_i hx
   obtain ⟨rfl,rfl⟩ := Prod.mk.inj (Option.some.inj h)
   have e2 : kidsG low (A ++ szS st ++ []) (C ++ htS st ++ []) x.kids.reverse (((low + fsum st : Nat) : Int) - 1) 0 = some (a,t1) := by rw [List.append_nil,List.append_nil]; exact e
   obtain ⟨us,st2,rfl,h2,h3,h4⟩ := kids_sound low A C hA hC _ st [] [] _ _ _ _ rfl (by omega) e2
   rw [List.reverse_reverse] at h2
   obtain ⟨g1,g2⟩ := good_stk us st2 hg
   have hro : rolesL L x.kids = rolesT us := by
    have := roles_flats us (P ++ flatS low st2) (x :: R)
    rw [List.length_append,hP,flatS_len,← h2] at this
    rw [hL,← this,flatS_stkB]
    simp only [List.append_assoc]
   refine ⟨us,st2,rfl,h2,?_,?_,?_,g2⟩
   ·rw [h3,fsum_stk]; omega
   ·rw [h4]; omega
   ·unfold ndB at hx
    rw [Bool.and_eq_true,Bool.and_eq_true,Bool.and_eq_true,hro,h2,roots_len] at hx
    rw [goodT]
    exact ⟨⟨hx.1,hx.2.1,hx.2.2.1,hx.2.2.2⟩,g1⟩
  ·cases h
theorem nodes_sound {L : List Nd} {low : Nat} {A C : List Int} {P R : List Nd} (hA : A.length = low) (hC : C.length = low) (hP : P.length = low) : ∀ (r : List Nd) (st : List T) (sz ht : List Int),
  L = P ++ flatS low st ++ r ++ R → (∀ t ∈ st,goodT t) → nodesG L low r (low + fsum st) (A ++ szS st) (C ++ htS st) = some (sz,ht) →
  ∃ st2,flatS low st2 = flatS low st ++ r ∧ sz = A ++ szS st2 ∧ ht = C ++ htS st2 ∧ ∀ t ∈ st2,goodT t
 | [],st,sz,ht,hL,hg,h => by
  rw [nodesG] at h
  obtain ⟨rfl,rfl⟩ := Prod.mk.inj (Option.some.inj h)
  exact ⟨st,by rw [List.append_nil],rfl,rfl,hg⟩
 | x :: r,st,sz,ht,hL,hg,h => by
  rw [nodesG] at h
  cases e : oneG L low (A ++ szS st) (C ++ htS st) (low + fsum st) x with
  | none => rw [e] at h; cases h
  | some q =>
   obtain ⟨s,t⟩ := q
   rw [e] at h
   simp only at h
   obtain ⟨us,st2,rfl,h2,rfl,rfl,g1,g2⟩ := one_sound hA hC hP (R := r ++ R) (by rw [hL]; simp) hg e
   have hf : fsum (.node x.k x.s x.i x.keys us :: st2) = fsum (stk us st2) + 1 := by rw [fsum,size,fsum_stk]; omega
   have hfl : flatS low (.node x.k x.s x.i x.keys us :: st2) = flatS low (stk us st2) ++ [x] := by
    rw [flatS,flat,flatS_stkB,List.append_assoc,← h2]
   have h' : nodesG L low r (low + fsum (.node x.k x.s x.i x.keys us :: st2)) (A ++ szS (.node x.k x.s x.i x.keys us :: st2)) (C ++ htS (.node x.k x.s x.i x.keys us :: st2)) = some (sz,ht) := by
    rw [hf,szS,htS,szT,htT,← List.append_assoc (szS st2),← List.append_assoc (htS st2),← szS_stk,← htS_stk,← Nat.add_assoc]
    simp only [List.append_assoc,szS_stk,htS_stk,fsum_stk] at h ⊢
    exact h
   obtain ⟨st3,k1,k2,k3,k4⟩ := nodes_sound (R := R) hA hC hP r _ sz ht (by rw [hfl,hL]; simp) (fun t ht => by
    rcases List.mem_cons.1 ht with rfl | ht
    ·exact g1
    ·exact g2 t ht) h'
   exact ⟨st3,by rw [k1,hfl]; simp,k2,k3,k4⟩
def szF : List Fu → List Int
 | [] => []
 | f :: r => szT f.body ++ szF r
def htF : List Fu → List Int
 | [] => []
 | f :: r => htT f.body ++ htF r
theorem funcs_sound {L : List Nd} : ∀ (F : List Fw) (low : Nat) (A C : List Int) (P R : List Nd) (sz ht : List Int) (e : Nat),A.length = low → C.length = low → P.length = low → L = P ++ R → funcsG L F low A C = some (sz,ht,e) →
  ∃ fs R2,R = flatF low fs ++ R2 ∧ F = funcF low fs ∧ e = low + sizeF fs ∧ sz = A ++ szF fs ∧ ht = C ++ htF fs ∧ ∀ f ∈ fs,goodFu f
 | [],low,A,C,P,R,sz,ht,e,hA,hC,hP,hL,h => by
  rw [funcsG] at h
  simp only [Option.some.injEq,Prod.mk.injEq] at h
  obtain ⟨rfl,rfl,rfl⟩ := h
  exact ⟨[],R,rfl,rfl,rfl,by rw [szF,List.append_nil],by rw [htF,List.append_nil],fun f hf => by cases hf⟩
 | f :: F,low,A,C,P,R,sz,ht,e,hA,hC,hP,hL,h => by
  rw [funcsG] at h
  split at h
  ·rename_i hh
   cases e1 : nodesG L low ((L.drop low).take (f.body.toNat + 1 - low)) low A C with
   | none => rw [e1] at h; cases h
   | some q =>
    obtain ⟨sz1,ht1⟩ := q
    rw [e1] at h
    simp only at h
    split at h
    ·rename_i hs
     unfold headG at hh
     rw [Bool.and_eq_true,Bool.and_eq_true,Bool.and_eq_true,Bool.and_eq_true,decide_eq_true_eq,decide_eq_true_eq,decide_eq_true_eq] at hh
     obtain ⟨b1,b2,b3,b4,b5⟩ := hh
     have hd : L.drop low = R := by rw [hL,← hP,List.drop_left]
     have hRl : L.length = low + R.length := by rw [hL,List.length_append,hP]
     rw [hd] at e1
     obtain ⟨st,k1,k2,k3,k4⟩ := nodes_sound (L := L) hA hC hP (R := R.drop (f.body.toNat + 1 - low)) (R.take (f.body.toNat + 1 - low)) [] sz1 ht1 (by rw [flatS,List.append_nil,List.append_assoc,List.take_append_drop]; exact hL) (fun t h => by cases h) (by rw [szS,htS,List.append_nil,List.append_nil,fsum,Nat.add_zero]; exact e1)
     rw [flatS,List.nil_append] at k1
     have hlen : fsum st = f.body.toNat + 1 - low := by
      rw [← flatS_len low st,k1,List.length_take]
      omega
     cases st with
     | nil => rw [fsum] at hlen; omega
     | cons t st =>
      have hz := sz_at (A := A) (D := []) (st := st) (t := t) (i := f.body.toNat) (by omega)
      rw [List.append_nil,← k2,hs] at hz
      have hst : st = [] := by
       rw [fsum] at hlen
       cases st with
       | nil => rfl
       | cons u st => rw [fsum] at hlen; have := size_pos u; omega
      subst hst
      have h0 : flatS low [t] = flat low t := by rw [flatS,flatS,fsum,List.nil_append,Nat.add_zero]
      rw [h0] at k1
      rw [fsum,fsum,Nat.zero_add] at hlen
      have hR : R = flat low t ++ R.drop (f.body.toNat + 1 - low) := by rw [k1,List.take_append_drop]
      rw [szS,szS,List.nil_append] at k2
      rw [htS,htS,List.nil_append] at k3
      rw [show f.body.toNat + 1 = low + size t by omega] at h
      obtain ⟨fs,R2,m1,m2,m3,m4,m5,m6⟩ := funcs_sound F (low + size t) sz1 ht1 (P ++ flat low t) (R.drop (f.body.toNat + 1 - low)) sz ht e (by rw [k2,List.length_append,hA,szT_len]) (by rw [k3,List.length_append,hC,htT_len]) (by rw [List.length_append,hP,flat_len]) (by rw [hL,List.append_assoc,← hR]) h
      have hk : kT t = 19 := by
       unfold kindAt at b3
       have hp := size_pos t
       rw [hL,List.getElem?_append_right (by omega),hR,List.getElem?_append_left (by rw [flat_len]; omega),hP,show f.body.toNat - low = size t - 1 by omega,flat_at] at b3
       cases t
       exact b3
      refine ⟨⟨f.name,f.params,t⟩ :: fs,R2,?_,?_,?_,?_,?_,fun g hg => ?_⟩
      ·rw [flatF,List.append_assoc,← m1]
       exact hR
      ·rw [funcF,← m2]
       congr 1
       cases f
       simp only [Fw.mk.injEq,true_and]
       simp only at *
       omega
      ·rw [m3,sizeF]
       simp only
       omega
      ·rw [m4,k2,szF,List.append_assoc]
      ·rw [m5,k3,htF,List.append_assoc]
      ·rcases List.mem_cons.1 hg with rfl | hg
       ·refine ⟨k4 t (List.mem_cons_self ..),hk,b4,fun p hp => ?_⟩
        simp only [Bool.not_eq_true',List.any_eq_false] at b5
        simpa using b5 p hp
       ·exact m6 g hg
    ·cases h
  ·cases h
mutual
theorem nodes_tree {L : List Nd} {low : Nat} {A C : List Int} {P : List Nd} (hA : A.length = low) (hC : C.length = low) (hP : P.length = low) : ∀ (t : T) (st : List T) (q R : List Nd),
  L = P ++ flatS low (t :: st) ++ R → goodT t → nodesG L low (flat (low + fsum st) t ++ q) (low + fsum st) (A ++ szS st) (C ++ htS st) = nodesG L low q (low + fsum (t :: st)) (A ++ szS (t :: st)) (C ++ htS (t :: st))
 | .node k s i keys ts,st,q,R,hL,hg => by
  rw [goodT] at hg
  obtain ⟨⟨g1,g2,g3,g4⟩,g5⟩ := hg
  have hL2 : L = P ++ flatS low (stk ts st) ++ (⟨k,s,i,keys,roots (low + fsum st) ts⟩ :: R) := by
   rw [hL,flatS,flat,flatS_stkB]; simp
  rw [flat,List.append_assoc,nodes_trees hA hC hP ts st _ _ hL2 g5,List.singleton_append,nodesG]
  have hro : rolesL L (roots (low + fsum st) ts) = rolesT ts := by
   have := roles_flats ts (P ++ flatS low st) (⟨k,s,i,keys,roots (low + fsum st) ts⟩ :: R)
   rw [List.length_append,hP,flatS_len] at this
   rw [hL2,← this,flatS_stkB]
   simp only [List.append_assoc]
  have ho : oneG L low (A ++ szS (stk ts st)) (C ++ htS (stk ts st)) (low + fsum (stk ts st)) ⟨k,s,i,keys,roots (low + fsum st) ts⟩ = some (((sizes ts + 1 : Nat) : Int),((heights ts + 1 : Nat) : Int)) := by
   unfold oneG
   have := kids_full low A C hA hC ts st [] [] [] 0 (by omega)
   rw [List.append_nil,List.append_nil,List.append_nil,kidsG] at this
   simp only [this]
   rw [if_pos (by unfold ndB; simp only [roots_len,hro,g1,g2,g3,g4,Bool.and_self])]
   rw [fsum_stk]
   congr 2 <;> omega
  rw [ho]
  have hf : fsum (.node k s i keys ts :: st) = fsum (stk ts st) + 1 := by rw [fsum,size,fsum_stk]; omega
  simp only
  rw [hf,szS,htS,szT,htT,szS_stk,htS_stk]
  simp only [List.append_assoc,Nat.add_assoc]
theorem nodes_trees {L : List Nd} {low : Nat} {A C : List Int} {P : List Nd} (hA : A.length = low) (hC : C.length = low) (hP : P.length = low) : ∀ (ts : Ts) (st : List T) (q R : List Nd),
  L = P ++ flatS low (stk ts st) ++ R → goodTs ts → nodesG L low (flats (low + fsum st) ts ++ q) (low + fsum st) (A ++ szS st) (C ++ htS st) = nodesG L low q (low + fsum (stk ts st)) (A ++ szS (stk ts st)) (C ++ htS (stk ts st))
 | .nil,st,q,R,hL,hg => by rw [flats,stk,List.nil_append]
 | .cons t r,st,q,R,hL,hg => by
  rw [goodTs] at hg
  rw [stk] at hL
  have hL2 : L = P ++ flatS low (t :: st) ++ (flats (low + fsum (t :: st)) r ++ R) := by rw [hL,flatS_stkB]; simp
  rw [flats,List.append_assoc,nodes_tree hA hC hP t st _ _ hL2 hg.1,stk]
  have := nodes_trees hA hC hP r (t :: st) q R hL hg.2
  rw [← this,show low + fsum st + size t = low + fsum (t :: st) by rw [fsum]; omega]
end
theorem funcs_full {L : List Nd} : ∀ (fs : List Fu) (low : Nat) (A C : List Int) (P R : List Nd),A.length = low → C.length = low → P.length = low → L = P ++ (flatF low fs ++ R) → (∀ f ∈ fs,goodFu f) →
  funcsG L (funcF low fs) low A C = some (A ++ szF fs,C ++ htF fs,low + sizeF fs)
 | [],low,A,C,P,R,_,_,_,_,_ => by rw [funcF,funcsG,szF,htF,sizeF,List.append_nil,List.append_nil,Nat.add_zero]
 | f :: fs,low,A,C,P,R,hA,hC,hP,hL,hg => by
  obtain ⟨g1,g2,g3,g4⟩ := hg f (List.mem_cons_self ..)
  have hp := size_pos f.body
  rw [flatF,List.append_assoc] at hL
  have hk : kindAt L ((low + size f.body - 1 : Nat) : Int) = 19 := by
   unfold kindAt
   rw [Int.toNat_natCast,hL,List.getElem?_append_right (by omega),List.getElem?_append_left (by rw [flat_len]; omega),hP,show low + size f.body - 1 - low = size f.body - 1 by omega,flat_at]
   revert g2
   cases f.body
   exact id
  have hlen : low + size f.body ≤ L.length := by rw [hL,List.length_append,List.length_append,hP,flat_len]; omega
  rw [funcF,funcsG,if_pos (by
   unfold headG
   simp only [hk,g3,Bool.and_eq_true,decide_eq_true_eq,Bool.not_eq_true',List.any_eq_false]
   refine ⟨by omega,by omega,trivial,trivial,fun p hp => by simp [g4 p hp]⟩)]
  simp only
  have hd : (L.drop low).take (((low + size f.body - 1 : Nat) : Int).toNat + 1 - low) = flat low f.body := by
   rw [hL,← hP,List.drop_left,Int.toNat_natCast,show P.length + size f.body - 1 + 1 - P.length = (flat P.length f.body).length by rw [flat_len]; omega,List.take_left]
  rw [hd]
  have hn := nodes_tree (L := L) hA hC hP f.body [] [] (flatF (low + size f.body) fs ++ R) (by rw [flatS,flatS,fsum,List.nil_append,Nat.add_zero,hL,List.append_assoc]) g1
  rw [List.append_nil,fsum,Nat.add_zero,szS,htS,List.append_nil,List.append_nil,nodesG,szS,htS,szS,htS,List.nil_append,List.nil_append] at hn
  rw [hn]
  simp only
  have hz := sz_at (A := A) (D := []) (st := []) (t := f.body) (i := ((low + size f.body - 1 : Nat) : Int).toNat) (by rw [fsum,fsum]; omega)
  rw [szS,szS,List.nil_append,List.append_nil] at hz
  rw [hz,if_pos (by omega),show ((low + size f.body - 1 : Nat) : Int).toNat + 1 = low + size f.body by omega]
  rw [funcs_full fs (low + size f.body) (A ++ szT f.body) (C ++ htT f.body) (P ++ flat low f.body) R (by rw [List.length_append,hA,szT_len]) (by rw [List.length_append,hC,htT_len]) (by rw [List.length_append,hP,flat_len]) (by rw [hL,List.append_assoc]) (fun f h => hg f (List.mem_cons_of_mem _ h))]
  rw [szF,htF,sizeF,List.append_assoc,List.append_assoc,Nat.add_assoc]
theorem meas_good {fs : List Fu} (hg : ∀ f ∈ fs,goodFu f) : measG (flatF 0 fs) (funcF 0 fs) = some (szF fs,htF fs,sizeF fs) := by
 have := funcs_full (L := flatF 0 fs) fs 0 [] [] [] [] rfl rfl rfl (by rw [List.nil_append,List.append_nil]) hg
 rw [List.nil_append,List.nil_append,Nat.zero_add] at this
 exact this
theorem meas_sound {L : List Nd} {F : List Fw} (h : measB L F = true) : ∃ fs,L = flatF 0 fs ∧ F = funcF 0 fs ∧ ∀ f ∈ fs,goodFu f := by
 unfold measB at h
 cases e : measG L F with
 | none => rw [e] at h; cases h
 | some q =>
  obtain ⟨sz,ht,n⟩ := q
  rw [e] at h
  simp only [decide_eq_true_eq] at h
  obtain ⟨fs,R2,h1,h2,h3,h4,h5,h6⟩ := funcs_sound F 0 [] [] [] L sz ht n rfl rfl rfl rfl e
  refine ⟨fs,?_,h2,h6⟩
  have hl := congrArg List.length h1
  rw [List.length_append,flatF_len] at hl
  have : R2 = [] := List.length_eq_zero_iff.1 (by omega)
  rw [h1,this,List.append_nil]
mutual
theorem rts_tree {L : List Nd} : ∀ (t : T) (st : List T) (q R : List Nd),L = flatS 0 (t :: st) ++ R → goodT t →
  rts L (fsum st) (flat (fsum st) t ++ q) (rootS st) = rts L (fsum (t :: st)) q (rootS (t :: st))
 | .node k s i keys ts,st,q,R,hL,hg => by
  rw [goodT] at hg
  obtain ⟨⟨g1,g2,g3,g4⟩,g5⟩ := hg
  have hL2 : L = flatS 0 (stk ts st) ++ (⟨k,s,i,keys,roots (fsum st) ts⟩ :: R) := by
   rw [hL,flatS,flat,flatS_stk,Nat.zero_add]; simp
  rw [flat,List.append_assoc,rts_trees2 ts st _ _ hL2 g5,List.singleton_append]
  have hro : rolesL L (roots (fsum st) ts) = rolesT ts := by
   have := roles_flats ts (flatS 0 st) (⟨k,s,i,keys,roots (fsum st) ts⟩ :: R)
   rw [flatS_len] at this
   rw [hL2,← this,flatS_stk]
  have hf : fsum (.node k s i keys ts :: st) = fsum (stk ts st) + 1 := by rw [fsum,size,fsum_stk]; omega
  have hn : (rootS (stk ts st)).length - (roots (fsum st) ts).length = (rootS st).length := by
   rw [rootS_stk,List.length_append]; omega
  rw [rts_go (x := ⟨k,s,i,keys,roots (fsum st) ts⟩) ⟨?_,?_⟩ ?_]
  ·simp only
   rw [hn,rootS_stk,List.take_left,hf,rootS]
   congr 3
   rw [fsum_stk,size]
   omega
  ·simp only
   rw [rootS_stk,List.length_append]; omega
  ·simp only
   rw [hn,rootS_stk,List.drop_left]
  ·unfold ndB; simp only [roots_len,hro,g1,g2,g3,g4,Bool.and_self]
theorem rts_trees2 {L : List Nd} : ∀ (ts : Ts) (st : List T) (q R : List Nd),L = flatS 0 (stk ts st) ++ R → goodTs ts →
  rts L (fsum st) (flats (fsum st) ts ++ q) (rootS st) = rts L (fsum (stk ts st)) q (rootS (stk ts st))
 | .nil,st,q,R,hL,hg => by rw [flats,stk,List.nil_append]
 | .cons t r,st,q,R,hL,hg => by
  rw [goodTs] at hg
  rw [stk] at hL
  have hL2 : L = flatS 0 (t :: st) ++ (flats (fsum (t :: st)) r ++ R) := by rw [hL,flatS_stk]; simp
  rw [flats,List.append_assoc,rts_tree t st _ _ hL2 hg.1,stk]
  have := rts_trees2 r (t :: st) q R hL hg.2
  rw [← this,show fsum st + size t = fsum (t :: st) from rfl]
end
def stF : List T → List Fu → List T
 | st,[] => st
 | st,f :: r => stF (f.body :: st) r
def rootF : Nat → List Fu → List Int
 | _,[] => []
 | b,f :: r => ((b + size f.body - 1 : Nat) : Int) :: rootF (b + size f.body) r
theorem rootS_stF : ∀ (fs : List Fu) (st : List T),rootS (stF st fs) = rootS st ++ rootF (fsum st) fs
 | [],st => by rw [stF,rootF,List.append_nil]
 | f :: r,st => by rw [stF,rootS_stF r,rootS,rootF,fsum,List.append_assoc,Nat.add_comm (fsum st)]; rfl
theorem rts_funcs {L : List Nd} : ∀ (fs : List Fu) (st : List T) (q : List Nd),L = flatS 0 st ++ (flatF (fsum st) fs ++ q) → (∀ f ∈ fs,goodFu f) →
  rts L (fsum st) (flatF (fsum st) fs ++ q) (rootS st) = rts L (fsum (stF st fs)) q (rootS (stF st fs))
 | [],st,q,hL,hg => by rw [flatF,stF,List.nil_append]
 | f :: r,st,q,hL,hg => by
  rw [flatF,List.append_assoc] at hL
  rw [flatF,List.append_assoc,rts_tree f.body st _ (flatF (fsum st + size f.body) r ++ q) (by rw [hL,flatS,Nat.zero_add,List.append_assoc]) (hg f (List.mem_cons_self ..)).1,stF]
  have e : fsum st + size f.body = fsum (f.body :: st) := rfl
  rw [e]
  exact rts_funcs r (f.body :: st) q (by rw [hL,flatS,Nat.zero_add,List.append_assoc,e]) (fun f h => hg f (List.mem_cons_of_mem _ h))
theorem rootF_len : ∀ (fs : List Fu) (b : Nat),(rootF b fs).length = (funcF b fs).length
 | [],_ => rfl
 | f :: r,b => by rw [rootF,funcF,List.length_cons,List.length_cons,rootF_len r]
theorem goodFs_full {L : List Nd} : ∀ (fs : List Fu) (P R : List Nd),L = P ++ (flatF P.length fs ++ R) → (∀ f ∈ fs,goodFu f) → goodFs L (rootF P.length fs) (funcF P.length fs) = true
 | [],P,R,hL,hg => by rw [rootF,funcF,goodFs]; intro _ _ _ _ h; cases h
 | f :: r,P,R,hL,hg => by
  obtain ⟨g1,g2,g3,g4⟩ := hg f (List.mem_cons_self ..)
  rw [flatF,List.append_assoc] at hL
  have hp := size_pos f.body
  have hk : kindAt L ((P.length + size f.body - 1 : Nat) : Int) = 19 := by
   unfold kindAt
   rw [Int.toNat_natCast,hL,List.getElem?_append_right (by omega),List.getElem?_append_left (by rw [flat_len]; omega),show P.length + size f.body - 1 - P.length = size f.body - 1 by omega,flat_at]
   revert g2
   cases f.body
   exact id
  have ih := goodFs_full (L := L) r (P ++ flat P.length f.body) R (by rw [hL,List.length_append,flat_len,List.append_assoc]) (fun f h => hg f (List.mem_cons_of_mem _ h))
  rw [List.length_append,flat_len] at ih
  rw [rootF,funcF,goodFs,ih,Bool.and_true]
  unfold goodF
  simp only [hk,g3,Bool.and_eq_true,decide_eq_true_eq,Bool.not_eq_true',List.any_eq_false]
  exact ⟨trivial,trivial,trivial,fun p hp => by simp [g4 p hp]⟩
theorem good_proper {fs : List Fu} (hg : ∀ f ∈ fs,goodFu f) : properB (flatF 0 fs) (funcF 0 fs) = true := by
 unfold properB
 have := rts_funcs (L := flatF 0 fs) fs [] [] (by rw [flatS,List.nil_append,List.append_nil]; rfl) hg
 rw [List.append_nil,rootS,fsum,rts,rootS_stF,rootS,List.nil_append,fsum] at this
 rw [this,withRts,Bool.and_eq_true,decide_eq_true_eq]
 exact ⟨rootF_len _ _,goodFs_full fs [] [] (by rw [List.nil_append,List.append_nil]; rfl) hg⟩
theorem meas_proper (L : List Nd) (F : List Fw) : measB L F = properB L F := by
 rw [Bool.eq_iff_iff]
 constructor
 ·intro h
  obtain ⟨fs,rfl,rfl,hg⟩ := meas_sound h
  exact good_proper hg
 ·intro h
  obtain ⟨fs,rfl,rfl,hg⟩ := proper_good h
  unfold measB
  rw [meas_good hg]
  simp only [flatF_len,decide_true]
theorem fold_kids (i : Nat) : ∀ (zs : List Int) (f : Nat → Int),(∀ z ∈ zs,z.toNat ≠ i) → zs.foldl (kidStep i) f = upd f i (zs.foldl (fun m z => max m (f z.toNat)) (f i))
 | [],f,_ => by
  funext j
  unfold upd
  simp only [List.foldl]
  split
  ·rename_i h; rw [h]
  ·rfl
 | z :: zs,f,h => by
  rw [List.foldl_cons,List.foldl_cons,fold_kids i zs _ (fun z hz => h z (List.mem_cons_of_mem _ hz))]
  have hz : ∀ z ∈ zs,kidStep i f z z.toNat = kidStep i f z z.toNat := fun _ _ => rfl
  have e : ∀ (l : List Int) (m : Int),(∀ z ∈ l,z.toNat ≠ i) → l.foldl (fun m y => max m (kidStep i f z y.toNat)) m = l.foldl (fun m y => max m (f y.toNat)) m := by
   intro l
   induction l with
   | nil => intros; rfl
   | cons y l ih =>
    intro m hl
    rw [List.foldl_cons,List.foldl_cons,ih _ (fun z hz => hl z (List.mem_cons_of_mem _ hz))]
    congr 2
    unfold kidStep upd
    rw [if_neg (hl y (List.mem_cons_self ..))]
  rw [e zs _ (fun z hz => h z (List.mem_cons_of_mem _ hz))]
  funext j
  unfold kidStep upd
  simp only [if_true]
  split <;> rfl
theorem fold_roots : ∀ (us : Ts) (st : List T) (D : List Int) (v : Int),0 ≤ v → (roots (fsum st) us).foldl (fun m z => max m ((htS (stk us st) ++ D).getD z.toNat 0)) v = max v (heights us : Int)
 | .nil,st,D,v,hv => by rw [roots,heights,List.foldl]; omega
 | .cons u r,st,D,v,hv => by
  have hp := size_pos u
  have hi := ht_at (A := []) (D := htTs r ++ D) (st := st) (t := u) (i := (((fsum st + size u - 1 : Nat) : Int)).toNat) (by rw [fsum,List.length_nil]; omega)
  have e : htS (stk (.cons u r) st) ++ D = [] ++ htS (u :: st) ++ (htTs r ++ D) := by rw [stk,htS_stk,List.nil_append,List.append_assoc]
  rw [roots,List.foldl_cons,e,hi,← e,stk]
  have := fold_roots r (u :: st) D (max v (height u : Int)) (by omega)
  rw [show fsum (u :: st) = fsum st + size u from rfl] at this
  rw [this,heights]
  omega
mutual
theorem nest_tree : ∀ (t : T) (st : List T) (g : Int) (q : List Nd),0 ≤ g → nestL (fsum st) (fun j => (htS st).getD j 0) g (flat (fsum st) t ++ q) = nestL (fsum (t :: st)) (fun j => (htS (t :: st)).getD j 0) (max g (height t : Int)) q
 | .node k s i keys ts,st,g,q,hg => by
  rw [flat,List.append_assoc,nest_trees ts st g _ hg,List.singleton_append,nestL]
  have hlt : ∀ z ∈ roots (fsum st) ts,z.toNat ≠ fsum (stk ts st) := fun z hz => by
   have := roots_bd ts (fsum st) z hz
   rw [fsum_stk]
   omega
  have h0 : (htS (stk ts st)).getD (fsum (stk ts st)) 0 = 0 := by
   rw [List.getD_eq_getElem?_getD,List.getElem?_eq_none (by rw [htS_len]; omega)]; rfl
  have hfr := fold_roots ts st [] 0 (by omega)
  rw [List.append_nil] at hfr
  have hk : (roots (fsum st) ts).foldl (kidStep (fsum (stk ts st))) (fun j => (htS (stk ts st)).getD j 0) (fsum (stk ts st)) = (heights ts : Int) := by
   rw [fold_kids _ _ _ hlt]
   unfold upd
   simp only [if_true,h0,hfr]
   omega
  simp only [hk]
  have hf : fsum (.node k s i keys ts :: st) = fsum (stk ts st) + 1 := by rw [fsum,size,fsum_stk]; omega
  rw [hf]
  congr 1
  ·funext j
   rw [fold_kids _ _ _ hlt]
   unfold upd
   rw [htS,htT,← List.append_assoc,← htS_stk]
   split
   ·rename_i h
    rw [h]
    have := last_at (A := []) (B := htS (stk ts st)) (D := []) (v := ((heights ts + 1 : Nat) : Int)) (i := fsum (stk ts st)) (by rw [htS_len]; simp)
    rw [List.nil_append,List.append_nil] at this
    rw [this]
    omega
   ·rename_i h
    show (htS (stk ts st)).getD j 0 = _
    rw [List.getD_eq_getElem?_getD,List.getD_eq_getElem?_getD]
    congr 1
    by_cases hj : j < fsum (stk ts st)
    ·rw [List.getElem?_append_left (by rw [htS_len]; exact hj)]
    ·rw [List.getElem?_eq_none (by rw [htS_len]; omega),List.getElem?_eq_none (by rw [List.length_append,htS_len,List.length_singleton]; omega)]
  ·rw [height]
   omega
theorem nest_trees : ∀ (ts : Ts) (st : List T) (g : Int) (q : List Nd),0 ≤ g → nestL (fsum st) (fun j => (htS st).getD j 0) g (flats (fsum st) ts ++ q) = nestL (fsum (stk ts st)) (fun j => (htS (stk ts st)).getD j 0) (max g (heights ts : Int)) q
 | .nil,st,g,q,hg => by rw [flats,stk,heights,List.nil_append,show max g ((0 : Nat) : Int) = g by omega]
 | .cons t r,st,g,q,hg => by
  rw [flats,List.append_assoc,nest_tree t st g _ hg,stk,heights]
  have := nest_trees r (t :: st) (max g (height t : Int)) q (by omega)
  rw [show fsum (t :: st) = fsum st + size t from rfl] at this ⊢
  rw [this]
  congr 1
  omega
end
def hmax : List Fu → Nat
 | [] => 0
 | f :: r => max (height f.body) (hmax r)
theorem nest_funcs : ∀ (fs : List Fu) (st : List T) (g : Int),0 ≤ g → nestL (fsum st) (fun j => (htS st).getD j 0) g (flatF (fsum st) fs) = max g (hmax fs : Int)
 | [],st,g,hg => by rw [flatF,nestL,hmax]; omega
 | f :: r,st,g,hg => by
  rw [flatF,nest_tree f.body st g _ hg,hmax]
  have := nest_funcs r (f.body :: st) (max g (height f.body : Int)) (by omega)
  rw [show fsum (f.body :: st) = fsum st + size f.body from rfl] at this ⊢
  rw [this]
  omega
theorem nest_max (fs : List Fu) : nestL 0 (fun _ => 0) 0 (flatF 0 fs) = (hmax fs : Int) := by
 have := nest_funcs fs [] 0 (by omega)
 rw [fsum,htS] at this
 have e : (fun j => ([] : List Int).getD j 0) = fun _ => 0 := by funext j; simp
 rw [e] at this
 rw [this]
 omega
theorem ht_bodies : ∀ (fs : List Fu) (A : List Int),(funcF A.length fs).map (fun f => (A ++ htF fs).getD f.body.toNat 0) = fs.map fun f => (height f.body : Int)
 | [],A => rfl
 | f :: r,A => by
  have hp := size_pos f.body
  have ih := ht_bodies r (A ++ htT f.body)
  rw [List.length_append,htT_len] at ih
  rw [funcF,List.map_cons,List.map_cons,htF,← List.append_assoc,ih]
  congr 1
  have := ht_at (A := A) (D := htF r) (st := []) (t := f.body) (i := ((A.length + size f.body - 1 : Nat) : Int).toNat) (by rw [fsum,fsum]; omega)
  rw [htS,htS,List.nil_append] at this
  exact this
def chkG (L : List Nd) (F : List Fw) : Int := if 600 < L.length ∨ 16 < F.length then 3 else match measG L F with
 | none => 1
 | some x => if x.2.2 = L.length then (if (F.any fun f => decide (8 < f.params.length) || decide (32 < x.2.1.getD f.body.toNat 0)) = true then 3 else 0) else 1
theorem any_or {α : Type} (p q : α → Bool) : ∀ l : List α,(l.any fun x => p x || q x) = (l.any p || l.any q)
 | [] => rfl
 | x :: l => by
  rw [List.any_cons,List.any_cons,List.any_cons,any_or p q l]
  cases p x <;> cases q x <;> cases l.any p <;> cases l.any q <;> rfl
theorem any_hmax : ∀ fs : List Fu,((fs.map fun f => (height f.body : Int)).any fun h => decide (32 < h)) = decide (32 < (hmax fs : Int))
 | [] => rfl
 | f :: r => by
  rw [List.map_cons,List.any_cons,any_hmax r,hmax]
  rw [Bool.eq_iff_iff,Bool.or_eq_true,decide_eq_true_eq,decide_eq_true_eq,decide_eq_true_eq]
  omega
theorem chkG_eq (L : List Nd) (F : List Fw) : chkG L F = chkE L F := by
 unfold chkG chkE
 split
 ·rfl
 ·cases hp : properB L F with
  | false =>
   rw [if_pos rfl]
   have := meas_proper L F
   rw [hp] at this
   unfold measB at this
   cases e : measG L F with
   | none => rfl
   | some x =>
    rw [e] at this
    simp only [decide_eq_false_iff_not] at this
    simp only [if_neg this]
  | true =>
   rw [if_neg (by decide)]
   obtain ⟨fs,rfl,rfl,hg⟩ := proper_good hp
   rw [meas_good hg,nest_max]
   simp only [flatF_len,if_true]
   have hb := ht_bodies fs []
   rw [List.length_nil,List.nil_append] at hb
   have h2 : ((funcF 0 fs).any fun f => decide (32 < (htF fs).getD f.body.toNat 0)) = decide (32 < (hmax fs : Int)) := by
    rw [← any_hmax fs,← hb,List.any_map]
    rfl
   rw [any_or,h2]
   by_cases h3 : 32 < (hmax fs : Int)
   ·simp [h3]
   ·simp [h3]
def kidG (k : Int) (i : Nat) (z : Int) : Bool := if k = 19 then decide (13 ≤ z ∧ z ≤ 18) else if (k = 15 ∨ k = 16) ∧ 0 < i then decide (z = 19) else decide (1 ≤ z ∧ z ≤ 12)
def loopG (k : Int) : Nat → List Int → Bool
 | _,[] => true
 | i,z :: r => kidG k i z && loopG k (i + 1) r
def arG (k : Int) (m : Nat) : Bool :=
 if k < 1 ∨ 19 < k then false else if k ≤ 5 then decide (m = 0) else if k = 8 ∨ k = 13 ∨ k = 14 ∨ k = 17 ∨ k = 18 then decide (m = 1)
 else if k = 9 ∨ k = 10 ∨ k = 16 then decide (m = 2) else if k = 15 then decide (m = 2 ∨ m = 3) else true
theorem rolesL_map (L : List Nd) (kids : List Int) : rolesL L kids = (kids.map (kindAt L)).map roleI := by
 unfold rolesL
 rw [List.map_map]
 refine List.map_congr_left fun z _ => ?_
 show _ = roleI (kindAt L z)
 unfold kindAt
 cases L[z.toNat]? <;> rfl
theorem role_expr (z : Int) : (roleI z != 1) = !decide (1 ≤ z ∧ z ≤ 12) := by
 unfold roleI
 by_cases h : 1 ≤ z ∧ z ≤ 12
 ·rw [if_pos h,decide_eq_true h]; rfl
 ·rw [if_neg h,decide_eq_false h]
  split
  ·rfl
  ·split <;> rfl
theorem role_stmt (z : Int) : (roleI z != 2) = !decide (13 ≤ z ∧ z ≤ 18) := by
 unfold roleI
 by_cases h : 13 ≤ z ∧ z ≤ 18
 ·rw [if_neg (by omega),if_pos h,decide_eq_true h]; rfl
 ·rw [decide_eq_false h]
  split
  ·rfl
  ·split <;> rfl
theorem role1 (z : Int) : decide (roleI z = 1) = decide (1 ≤ z ∧ z ≤ 12) := by
 have := role_expr z
 rw [Bool.eq_iff_iff] at this ⊢
 simp only [decide_eq_true_eq,bne_iff_ne,Bool.not_eq_true',decide_eq_false_iff_not] at *
 constructor
 ·intro h
  by_cases q : 1 ≤ z ∧ z ≤ 12
  ·exact q
  ·exact absurd h (this.2 q)
 ·intro h
  by_cases q : roleI z = 1
  ·exact q
  ·exact absurd h (this.1 q)
theorem role3 (z : Int) : decide (roleI z = 3) = decide (z = 19) := by
 rw [Bool.eq_iff_iff,decide_eq_true_eq,decide_eq_true_eq]
 unfold roleI
 split
 ·constructor <;> intro h <;> omega
 ·split
  ·constructor <;> intro h <;> omega
  ·split
   ·constructor <;> intro h <;> omega
   ·constructor <;> intro h <;> omega
theorem loop_expr {k : Int} (h1 : k ≠ 19) (h2 : k ≠ 15) (h3 : k ≠ 16) : ∀ (ks : List Int) (i : Nat),loopG k i ks = !(ks.map roleI).any fun v => v != 1
 | [],_ => rfl
 | z :: r,i => by
  rw [loopG,loop_expr h1 h2 h3 r,List.map_cons,List.any_cons,role_expr,kidG,if_neg h1,if_neg (by omega)]
  cases decide (1 ≤ z ∧ z ≤ 12) <;> rfl
theorem loop_stmt : ∀ (ks : List Int) (i : Nat),loopG 19 i ks = !(ks.map roleI).any fun v => v != 2
 | [],_ => rfl
 | z :: r,i => by
  rw [loopG,loop_stmt r,List.map_cons,List.any_cons,role_stmt,kidG,if_pos rfl]
  cases decide (13 ≤ z ∧ z ≤ 18) <;> rfl
theorem part_is (k : Int) (Z : List Int) : partB k (Z.map roleI) = (arG k Z.length && loopG k 0 Z) := by
 unfold partB arG
 by_cases cA : k = 1 ∨ k = 2 ∨ k = 3 ∨ k = 4 ∨ k = 5
 ·have eA : (k = 1 ∨ k = 2 ∨ k = 3 ∨ k = 4 ∨ k = 5) := by omega
  have eB : ¬ (k = 6 ∨ k = 7 ∨ k = 11 ∨ k = 12) := by omega
  have eC : ¬ (k = 8 ∨ k = 13 ∨ k = 14 ∨ k = 17 ∨ k = 18) := by omega
  have eD : ¬ (k = 9 ∨ k = 10) := by omega
  have eE : ¬ (k = 15) := by omega
  have eF : ¬ (k = 16) := by omega
  have eG : ¬ (k = 19) := by omega
  have eO : ¬ (k < 1 ∨ 19 < k) := by omega
  have eL : (k ≤ 5) := by omega
  have eM : ¬ (k = 9 ∨ k = 10 ∨ k = 16) := by omega
  simp only [if_pos eA,if_neg eB,if_neg eC,if_neg eD,if_neg eE,if_neg eF,if_neg eG,if_neg eO,if_pos eL,if_neg eM]
  cases Z with
  | nil => rfl
  | cons z r => rfl
 by_cases cO : k < 1 ∨ 19 < k
 ·have eA : ¬ (k = 1 ∨ k = 2 ∨ k = 3 ∨ k = 4 ∨ k = 5) := by omega
  have eB : ¬ (k = 6 ∨ k = 7 ∨ k = 11 ∨ k = 12) := by omega
  have eC : ¬ (k = 8 ∨ k = 13 ∨ k = 14 ∨ k = 17 ∨ k = 18) := by omega
  have eD : ¬ (k = 9 ∨ k = 10) := by omega
  have eE : ¬ (k = 15) := by omega
  have eF : ¬ (k = 16) := by omega
  have eG : ¬ (k = 19) := by omega
  have eO : (k < 1 ∨ 19 < k) := by omega
  have eM : ¬ (k = 9 ∨ k = 10 ∨ k = 16) := by omega
  simp only [if_neg eA,if_neg eB,if_neg eC,if_neg eD,if_neg eE,if_neg eF,if_neg eG,if_pos eO,if_neg eM]
  rfl
 by_cases cB : k = 6 ∨ k = 7 ∨ k = 11 ∨ k = 12
 ·have eA : ¬ (k = 1 ∨ k = 2 ∨ k = 3 ∨ k = 4 ∨ k = 5) := by omega
  have eB : (k = 6 ∨ k = 7 ∨ k = 11 ∨ k = 12) := by omega
  have eC : ¬ (k = 8 ∨ k = 13 ∨ k = 14 ∨ k = 17 ∨ k = 18) := by omega
  have eD : ¬ (k = 9 ∨ k = 10) := by omega
  have eE : ¬ (k = 15) := by omega
  have eF : ¬ (k = 16) := by omega
  have eG : ¬ (k = 19) := by omega
  have eO : ¬ (k < 1 ∨ 19 < k) := by omega
  have eL : ¬ (k ≤ 5) := by omega
  have eM : ¬ (k = 9 ∨ k = 10 ∨ k = 16) := by omega
  simp only [if_neg eA,if_pos eB,if_neg eC,if_neg eD,if_neg eE,if_neg eF,if_neg eG,if_neg eO,if_neg eL,if_neg eM]
  rw [loop_expr (by omega) (by omega) (by omega)]
  rfl
 by_cases cC : k = 8 ∨ k = 13 ∨ k = 14 ∨ k = 17 ∨ k = 18
 ·have eA : ¬ (k = 1 ∨ k = 2 ∨ k = 3 ∨ k = 4 ∨ k = 5) := by omega
  have eB : ¬ (k = 6 ∨ k = 7 ∨ k = 11 ∨ k = 12) := by omega
  have eC : (k = 8 ∨ k = 13 ∨ k = 14 ∨ k = 17 ∨ k = 18) := by omega
  have eD : ¬ (k = 9 ∨ k = 10) := by omega
  have eE : ¬ (k = 15) := by omega
  have eF : ¬ (k = 16) := by omega
  have eG : ¬ (k = 19) := by omega
  have eO : ¬ (k < 1 ∨ 19 < k) := by omega
  have eL : ¬ (k ≤ 5) := by omega
  have eM : ¬ (k = 9 ∨ k = 10 ∨ k = 16) := by omega
  simp only [if_neg eA,if_neg eB,if_pos eC,if_neg eD,if_neg eE,if_neg eF,if_neg eG,if_neg eO,if_neg eL,if_neg eM]
  rcases Z with _ | ⟨a,_ | ⟨b,r⟩⟩
  ·rfl
  ·rw [loopG,loopG,kidG,if_neg (by omega),if_neg (by omega),Bool.and_true,← role1]
   simp
  ·simp
 by_cases cD : k = 9 ∨ k = 10
 ·have eA : ¬ (k = 1 ∨ k = 2 ∨ k = 3 ∨ k = 4 ∨ k = 5) := by omega
  have eB : ¬ (k = 6 ∨ k = 7 ∨ k = 11 ∨ k = 12) := by omega
  have eC : ¬ (k = 8 ∨ k = 13 ∨ k = 14 ∨ k = 17 ∨ k = 18) := by omega
  have eD : (k = 9 ∨ k = 10) := by omega
  have eE : ¬ (k = 15) := by omega
  have eF : ¬ (k = 16) := by omega
  have eG : ¬ (k = 19) := by omega
  have eO : ¬ (k < 1 ∨ 19 < k) := by omega
  have eL : ¬ (k ≤ 5) := by omega
  have eM : (k = 9 ∨ k = 10 ∨ k = 16) := by omega
  simp only [if_neg eA,if_neg eB,if_neg eC,if_pos eD,if_neg eE,if_neg eF,if_neg eG,if_neg eO,if_neg eL,if_pos eM]
  rcases Z with _ | ⟨a,_ | ⟨b,_ | ⟨c,r⟩⟩⟩
  ·rfl
  ·simp
  ·rw [loopG,loopG,loopG,kidG,kidG,if_neg (by omega),if_neg (by omega),if_neg (by omega),if_neg (by omega),Bool.and_true,← role1,← role1]
   simp
  ·simp
 by_cases cE : k = 15
 ·have eA : ¬ (k = 1 ∨ k = 2 ∨ k = 3 ∨ k = 4 ∨ k = 5) := by omega
  have eB : ¬ (k = 6 ∨ k = 7 ∨ k = 11 ∨ k = 12) := by omega
  have eC : ¬ (k = 8 ∨ k = 13 ∨ k = 14 ∨ k = 17 ∨ k = 18) := by omega
  have eD : ¬ (k = 9 ∨ k = 10) := by omega
  have eE : (k = 15) := by omega
  have eF : ¬ (k = 16) := by omega
  have eG : ¬ (k = 19) := by omega
  have eO : ¬ (k < 1 ∨ 19 < k) := by omega
  have eL : ¬ (k ≤ 5) := by omega
  have eM : ¬ (k = 9 ∨ k = 10 ∨ k = 16) := by omega
  simp only [if_neg eA,if_neg eB,if_neg eC,if_neg eD,if_pos eE,if_neg eF,if_neg eG,if_neg eO,if_neg eL,if_neg eM]
  rcases Z with _ | ⟨a,_ | ⟨b,_ | ⟨c,_ | ⟨d,r⟩⟩⟩⟩
  ·rfl
  ·simp
  ·rw [loopG,loopG,loopG,kidG,kidG,if_neg (by omega),if_neg (by omega),if_neg (by omega),if_pos (by omega),Bool.and_true,← role1,← role3]
   simp
  ·rw [loopG,loopG,loopG,loopG,kidG,kidG,kidG,if_neg (by omega),if_neg (by omega),if_neg (by omega),if_pos (by omega),if_neg (by omega),if_pos (by omega),Bool.and_true,← role1,← role3,← role3]
   simp
  ·simp
 by_cases cF : k = 16
 ·have eA : ¬ (k = 1 ∨ k = 2 ∨ k = 3 ∨ k = 4 ∨ k = 5) := by omega
  have eB : ¬ (k = 6 ∨ k = 7 ∨ k = 11 ∨ k = 12) := by omega
  have eC : ¬ (k = 8 ∨ k = 13 ∨ k = 14 ∨ k = 17 ∨ k = 18) := by omega
  have eD : ¬ (k = 9 ∨ k = 10) := by omega
  have eE : ¬ (k = 15) := by omega
  have eF : (k = 16) := by omega
  have eG : ¬ (k = 19) := by omega
  have eO : ¬ (k < 1 ∨ 19 < k) := by omega
  have eL : ¬ (k ≤ 5) := by omega
  have eM : (k = 9 ∨ k = 10 ∨ k = 16) := by omega
  simp only [if_neg eA,if_neg eB,if_neg eC,if_neg eD,if_neg eE,if_pos eF,if_neg eG,if_neg eO,if_neg eL,if_pos eM]
  rcases Z with _ | ⟨a,_ | ⟨b,_ | ⟨c,r⟩⟩⟩
  ·rfl
  ·simp
  ·rw [loopG,loopG,loopG,kidG,kidG,if_neg (by omega),if_neg (by omega),if_neg (by omega),if_pos (by omega),Bool.and_true,← role1,← role3]
   simp
  ·simp
 have eA : ¬ (k = 1 ∨ k = 2 ∨ k = 3 ∨ k = 4 ∨ k = 5) := by omega
 have eB : ¬ (k = 6 ∨ k = 7 ∨ k = 11 ∨ k = 12) := by omega
 have eC : ¬ (k = 8 ∨ k = 13 ∨ k = 14 ∨ k = 17 ∨ k = 18) := by omega
 have eD : ¬ (k = 9 ∨ k = 10) := by omega
 have eE : ¬ (k = 15) := by omega
 have eF : ¬ (k = 16) := by omega
 have eG : (k = 19) := by omega
 have eO : ¬ (k < 1 ∨ 19 < k) := by omega
 have eL : ¬ (k ≤ 5) := by omega
 have eM : ¬ (k = 9 ∨ k = 10 ∨ k = 16) := by omega
 simp only [if_neg eA,if_neg eB,if_neg eC,if_neg eD,if_neg eE,if_neg eF,if_pos eG,if_neg eO,if_neg eL,if_neg eM]
 have c7 : k = 19 := by omega
 rw [c7,loop_stmt]
 rfl
end Syn
end Go.Proofs.YtcapkeaedpabjaaGreatDoor
