/-
  Layer 8, texts merged: SynE, SynF, SynG, SynH, SynI, SynJ, SynK. For every argument within the bounds that each theorem names.
-/
import Derived.Test.YtcapkeaedpabjaaGreatDoorYF6
import Derived.Test.YtcapkeaedpabjaaGreatDoorYG4
set_option maxRecDepth 100000
set_option maxHeartbeats 16000000

/-
 Layer 8, plainly: what Check accepts is the row of a program's trees, each node as its kind wants it.
-/
namespace Go.Proofs.YtcapkeaedpabjaaGreatDoor
namespace Syn
def kT : T → Int
 | .node k _ _ _ _ => k
def rolesT : Ts → List Int
 | .nil => []
 | .cons t r => roleI (kT t) :: rolesT r
mutual
def goodT : T → Prop
 | .node k s i keys ts => (textB k s = true ∧ intF k i = true ∧ keysB k keys (count ts) = true ∧ partB k (rolesT ts) = true) ∧ goodTs ts
def goodTs : Ts → Prop
 | .nil => True
 | .cons t r => goodT t ∧ goodTs r
end
def goodFu (f : Fu) : Prop := goodT f.body ∧ kT f.body = 19 ∧ nameB f.name = true ∧ ∀ p ∈ f.params,nameB p = true
def rootS : List T → List Int
 | [] => []
 | t :: s => rootS s ++ [((fsum s + size t - 1 : Nat) : Int)]
theorem rootS_len : ∀ s,(rootS s).length = s.length
 | [] => rfl
 | t :: s => by rw [rootS,List.length_append,rootS_len s]; rfl
theorem rootS_stk : ∀ (us : Ts) (st : List T),rootS (stk us st) = rootS st ++ roots (fsum st) us
 | .nil,st => by rw [stk,roots,List.append_nil]
 | .cons t r,st => by rw [stk,rootS_stk r,rootS,roots,fsum]; simp
theorem flatS_stk : ∀ (us : Ts) (st : List T),flatS 0 (stk us st) = flatS 0 st ++ flats (fsum st) us
 | .nil,st => by rw [stk,flats,List.append_nil]
 | .cons t r,st => by rw [stk,flatS_stk r,flatS,flats,fsum,Nat.zero_add,List.append_assoc]
theorem stk_split : ∀ (m : Nat) (st : List T),m ≤ st.length → ∃ us st2,st = stk us st2 ∧ count us = m
 | 0,st,_ => ⟨.nil,st,rfl,rfl⟩
 | m + 1,st,h => by
  obtain ⟨us,st2,h1,h2⟩ := stk_split m st (by omega)
  have hl : ∀ (us : Ts) (st : List T),(stk us st).length = st.length + count us := fun us => by
   have : ∀ us : Ts,∀ st : List T,(stk us st).length = st.length + count us := fun us => by
    induction us using Ts.rec (motive_1 := fun _ => True) with
    | nil => intro st; rfl
    | cons t r _ ih => intro st; rw [stk,ih,count,List.length_cons]; omega
    | node => trivial
   exact this us
  cases st2 with
  | nil => rw [h1,hl] at h; simp at h; omega
  | cons t st3 => exact ⟨.cons t us,st3,by rw [stk]; exact h1,by rw [count,h2]⟩
theorem roles_flats : ∀ (us : Ts) (A B : List Nd),rolesL (A ++ flats A.length us ++ B) (roots A.length us) = rolesT us
 | .nil,A,B => rfl
 | .cons t r,A,B => by
  have ih := roles_flats r (A ++ flat A.length t) B
  rw [List.length_append,flat_len] at ih
  rw [flats,roots,rolesT,← List.append_assoc A,← ih]
  unfold rolesL
  rw [List.map_cons]
  congr 1
  have hp := size_pos t
  rw [Int.toNat_natCast,List.append_assoc,List.append_assoc,List.getElem?_append_right (by omega),List.getElem?_append_left (by rw [flat_len]; omega),show A.length + size t - 1 - A.length = size t - 1 by omega,flat_at]
  cases t
  rfl
theorem good_stk : ∀ (us : Ts) (st : List T),(∀ t ∈ stk us st,goodT t) → goodTs us ∧ ∀ t ∈ st,goodT t
 | .nil,st,h => ⟨by rw [goodTs]; trivial,h⟩
 | .cons t r,st,h => by
  obtain ⟨h1,h2⟩ := good_stk r (t :: st) h
  exact ⟨by rw [goodTs]; exact ⟨h2 t (List.mem_cons_self ..),h1⟩,fun u hu => h2 u (List.mem_cons_of_mem _ hu)⟩
theorem rts_trees (L : List Nd) : ∀ (r : List Nd) (st : List T) (rs : List Int),L = flatS 0 st ++ r → (∀ t ∈ st,goodT t) → rts L (fsum st) r (rootS st) = some rs →
  ∃ st2,L = flatS 0 st2 ∧ rs = rootS st2 ∧ ∀ t ∈ st2,goodT t
 | [],st,rs,h1,h2,h3 => by
  rw [rts] at h3
  exact ⟨st,by rw [h1,List.append_nil],(Option.some.inj h3).symm,h2⟩
 | x :: r,st,rs,h1,h2,h3 => by
  rw [rts] at h3
  split at h3
  ·rename_i hk
   split at h3
   ·rename_i hx
    obtain ⟨hk1,hk2⟩ := hk
    rw [rootS_len] at hk1
    obtain ⟨us,st2,rfl,hc⟩ := stk_split x.kids.length st hk1
    obtain ⟨g1,g2⟩ := good_stk us st2 h2
    rw [rootS_stk,List.length_append,roots_len,hc,Nat.add_sub_cancel,List.drop_left] at hk2
    rw [rootS_stk,List.length_append,roots_len,hc,Nat.add_sub_cancel,List.take_left] at h3
    rw [flatS_stk] at h1
    have hfl : (flatS 0 st2).length = fsum st2 := flatS_len 0 st2
    have hro : rolesL L x.kids = rolesT us := by
     have := roles_flats us (flatS 0 st2) (x :: r)
     rw [hfl] at this
     rw [← hk2,h1]
     exact this
    have hgood : goodT (.node x.k x.s x.i x.keys us) := by
     unfold ndB at hx
     rw [Bool.and_eq_true,Bool.and_eq_true,Bool.and_eq_true,hro,← hc] at hx
     rw [goodT]
     exact ⟨⟨hx.1,hx.2.1,hx.2.2.1,hx.2.2.2⟩,g1⟩
    have hf : fsum (.node x.k x.s x.i x.keys us :: st2) = fsum (stk us st2) + 1 := by rw [fsum,size,fsum_stk]; omega
    refine rts_trees L r (.node x.k x.s x.i x.keys us :: st2) rs ?_ (fun t ht => ?_) ?_
    ·rw [h1,flatS,flat,Nat.zero_add,hk2]
     simp
    ·rcases List.mem_cons.1 ht with rfl | ht
     ·exact hgood
     ·exact g2 t ht
    ·rw [hf,rootS,size]
     rw [show fsum st2 + (sizes us + 1) - 1 = fsum (stk us st2) by rw [fsum_stk]; omega]
     exact h3
   ·cases h3
  ·cases h3
theorem goodFs_snoc {L : List Nd} : ∀ (a : List Int) (b : List Fw) (r : Int) (f : Fw),a.length = b.length → goodFs L (a ++ [r]) (b ++ [f]) = true → goodFs L a b = true ∧ goodF L r f = true
 | [],[],r,f,_,h => by
  rw [List.nil_append,List.nil_append,goodFs,Bool.and_eq_true] at h
  exact ⟨rfl,h.1⟩
 | x :: a,y :: b,r,f,hl,h => by
  rw [List.cons_append,List.cons_append,goodFs,Bool.and_eq_true] at h
  obtain ⟨h1,h2⟩ := goodFs_snoc a b r f (by simpa using hl) h.2
  exact ⟨by rw [goodFs,h.1,h1]; rfl,h2⟩
 | [],_ :: _,_,_,hl,_ => by cases hl
 | _ :: _,[],_,_,hl,_ => by cases hl
theorem funcs_of (L : List Nd) : ∀ (st : List T) (F : List Fw) (R : List Nd),L = flatS 0 st ++ R → (∀ t ∈ st,goodT t) → (rootS st).length = F.length → goodFs L (rootS st) F = true →
  ∃ fs,flatS 0 st = flatF 0 fs ∧ F = funcF 0 fs ∧ fsum st = sizeF fs ∧ ∀ f ∈ fs,goodFu f
 | [],F,R,hL,_,hl,h => by
  obtain rfl := List.length_eq_zero_iff.1 hl.symm
  exact ⟨[],rfl,rfl,rfl,fun f hf => by cases hf⟩
 | t :: st,F,R,hL,hg,hl,h => by
  rcases List.eq_nil_or_concat F with rfl | ⟨F',f,rfl⟩
  ·rw [rootS_len] at hl; cases hl
  ·rw [List.concat_eq_append] at *
   rw [rootS] at h hl
   obtain ⟨h1,h2⟩ := goodFs_snoc _ _ _ _ (by simpa using hl) h
   rw [flatS,List.append_assoc,Nat.zero_add] at hL
   obtain ⟨fs,a1,a2,a3,a4⟩ := funcs_of L st F' (flat (fsum st) t ++ R) hL (fun t ht => hg t (List.mem_cons_of_mem _ ht)) (by simpa using hl) h1
   unfold goodF at h2
   rw [Bool.and_eq_true,Bool.and_eq_true,Bool.and_eq_true,decide_eq_true_eq,decide_eq_true_eq] at h2
   obtain ⟨b1,b2,b3,b4⟩ := h2
   have hk : kT t = 19 := by
    have hp := size_pos t
    have hfl : (flatS 0 st).length = fsum st := flatS_len 0 st
    unfold kindAt at b2
    rw [Int.toNat_natCast,hL,List.getElem?_append_right (by omega),List.getElem?_append_left (by rw [flat_len]; omega),hfl,show fsum st + size t - 1 - fsum st = size t - 1 by omega,flat_at] at b2
    cases t
    exact b2
   refine ⟨fs ++ [⟨f.name,f.params,t⟩],?_,?_,?_,fun g hg2 => ?_⟩
   ·rw [flatS,flatF_app,a1,flatF,flatF,List.append_nil,a3]
   ·rw [funcF_app,← a2,funcF,funcF,← a3,Nat.zero_add,← b1]
   ·rw [fsum,sizeF_app,a3,sizeF,sizeF,Nat.add_zero]
   ·rcases List.mem_append.1 hg2 with q | q
    ·exact a4 g q
    ·rw [List.mem_singleton.1 q]
     refine ⟨hg t (List.mem_cons_self ..),hk,b3,fun p hp => ?_⟩
     simp only [Bool.not_eq_true',List.any_eq_false] at b4
     simpa using b4 p hp
theorem proper_good {L : List Nd} {F : List Fw} (h : properB L F = true) : ∃ fs,L = flatF 0 fs ∧ F = funcF 0 fs ∧ ∀ f ∈ fs,goodFu f := by
 unfold properB at h
 cases e : rts L 0 L [] with
 | none => rw [e] at h; cases h
 | some rs =>
  rw [e,withRts,Bool.and_eq_true,decide_eq_true_eq] at h
  obtain ⟨st,h1,rfl,h3⟩ := rts_trees L L [] rs rfl (fun t ht => by cases ht) e
  obtain ⟨fs,a1,a2,a3,a4⟩ := funcs_of L st F [] (by rw [← h1,List.append_nil]) h3 h.1 h.2
  exact ⟨fs,by rw [← a1]; exact h1,a2,a4⟩
mutual
inductive GE : T → Prop
 | null : GE (leaf 1 [] 0)
 | bool (i : Int) (h : i = 0 ∨ i = 1) : GE (leaf 2 [] i)
 | int (i : Int) (h : intB i = true) : GE (leaf 3 [] i)
 | str (s : Txt) (h : strB s = true) : GE (leaf 4 s 0)
 | var (s : Txt) (h : nameB s = true) : GE (leaf 5 s 0)
 | list (ts : Ts) (h : GEs ts) : GE (.node 6 [] 0 [] ts)
 | map (keys : List Txt) (ts : Ts) (hl : keys.length = count ts) (ha : ascB none keys = true) (h : GEs ts) : GE (.node 7 [] 0 keys ts)
 | una (s : Txt) (a : T) (hs : s = [45] ∨ s = [110,111,116]) (h : GE a) : GE (una s a)
 | bin (s : Txt) (a b : T) (hs : binL s ≠ 0) (h1 : GE a) (h2 : GE b) : GE (bin s a b)
 | idx (a b : T) (h1 : GE a) (h2 : GE b) : GE (idx a b)
 | call (s : Txt) (ts : Ts) (hs : nameB s = true) (h : GEs ts) : GE (.node 11 s 0 [] ts)
 | host (s : Txt) (ts : Ts) (hs : hostB s = true) (h : GEs ts) : GE (.node 12 s 0 [] ts)
inductive GEs : Ts → Prop
 | nil : GEs .nil
 | cons (t : T) (r : Ts) (h : GE t) (hr : GEs r) : GEs (.cons t r)
end
mutual
inductive GdS : T → Prop
 | lt (s : Txt) (e : T) (hs : nameB s = true) (h : GE e) : GdS (.node 13 s 0 [] (.cons e .nil))
 | set (s : Txt) (e : T) (hs : nameB s = true) (h : GE e) : GdS (.node 14 s 0 [] (.cons e .nil))
 | if1 (e b : T) (h : GE e) (hb : GdB b) : GdS (.node 15 [] 0 [] (.cons e (.cons b .nil)))
 | if2 (e b d : T) (h : GE e) (hb : GdB b) (hd : GdB d) : GdS (.node 15 [] 0 [] (.cons e (.cons b (.cons d .nil))))
 | wh (e b : T) (h : GE e) (hb : GdB b) : GdS (.node 16 [] 0 [] (.cons e (.cons b .nil)))
 | ret (e : T) (h : GE e) : GdS (.node 17 [] 0 [] (.cons e .nil))
 | drop (e : T) (h : GE e) : GdS (.node 18 [] 0 [] (.cons e .nil))
inductive GdB : T → Prop
 | blk (ts : Ts) (h : GdSs ts) : GdB (.node 19 [] 0 [] ts)
inductive GdSs : Ts → Prop
 | nil : GdSs .nil
 | cons (t : T) (r : Ts) (h : GdS t) (hr : GdSs r) : GdSs (.cons t r)
end
theorem role_kind {k : Int} : (roleI k = 1 → 1 ≤ k ∧ k ≤ 12) ∧ (roleI k = 2 → 13 ≤ k ∧ k ≤ 18) ∧ (roleI k = 3 → k = 19) := by
 unfold roleI
 refine ⟨fun h => ?_,fun h => ?_,fun h => ?_⟩
 all_goals
  split at h
  ·omega
  split at h
  ·omega
  split at h <;> omega
theorem ts_one {ts : Ts} {x : Int} (h : rolesT ts = [x]) : ∃ t,ts = .cons t .nil ∧ roleI (kT t) = x := by
 cases ts with
 | nil => cases h
 | cons t r =>
  cases r with
  | nil => rw [rolesT,rolesT] at h; exact ⟨t,rfl,by simpa using h⟩
  | cons u r => rw [rolesT,rolesT] at h; simp at h
theorem ts_two {ts : Ts} {x y : Int} (h : rolesT ts = [x,y]) : ∃ t u,ts = .cons t (.cons u .nil) ∧ roleI (kT t) = x ∧ roleI (kT u) = y := by
 cases ts with
 | nil => cases h
 | cons t r =>
  rw [rolesT] at h
  simp only [List.cons.injEq] at h
  obtain ⟨u,rfl,hu⟩ := ts_one h.2
  exact ⟨t,u,rfl,h.1,hu⟩
theorem ts_three {ts : Ts} {x y z : Int} (h : rolesT ts = [x,y,z]) : ∃ t u v,ts = .cons t (.cons u (.cons v .nil)) ∧ roleI (kT t) = x ∧ roleI (kT u) = y ∧ roleI (kT v) = z := by
 cases ts with
 | nil => cases h
 | cons t r =>
  rw [rolesT] at h
  simp only [List.cons.injEq] at h
  obtain ⟨u,v,rfl,hu,hv⟩ := ts_two h.2
  exact ⟨t,u,v,rfl,h.1,hu,hv⟩
theorem any_roles {ts : Ts} {x : Int} (h : ((rolesT ts).any fun v => v != x) = false) : ∀ v ∈ rolesT ts,v = x := fun v hv => by
 rw [List.any_eq_false] at h
 simpa using h v hv
theorem keys_no {k : Int} {keys : List Txt} {m : Nat} (hk : k ≠ 7) (h : keysB k keys m = true) : keys = [] := by
 unfold keysB at h
 rw [if_neg hk,decide_eq_true_eq] at h
 exact List.length_eq_zero_iff.1 h
theorem int_no {k i : Int} (h2 : k ≠ 2) (h3 : k ≠ 3) (h : intF k i = true) : i = 0 := by
 unfold intF at h
 rw [if_neg h2,if_neg h3] at h
 simpa using h
theorem part_nil {ts : Ts} (h : rolesT ts = []) : ts = .nil := by
 cases ts with
 | nil => rfl
 | cons t r => cases h
mutual
theorem good_kinds : ∀ (t : T),goodT t → (roleI (kT t) = 1 → GE t) ∧ (roleI (kT t) = 2 → GdS t) ∧ (roleI (kT t) = 3 → GdB t)
 | .node k s i keys ts,h => by
  rw [goodT] at h
  obtain ⟨⟨h1,h2,h3,h4⟩,h5⟩ := h
  have hs := goods_kinds ts h5
  rw [kT]
  refine ⟨fun hr => ?_,fun hr => ?_,fun hr => ?_⟩
  ·have hk := role_kind.1 hr
   rcases (show k = 1 ∨ k = 2 ∨ k = 3 ∨ k = 4 ∨ k = 5 ∨ k = 6 ∨ k = 7 ∨ k = 8 ∨ k = 9 ∨ k = 10 ∨ k = 11 ∨ k = 12 by omega) with rfl | rfl | rfl | rfl | rfl | rfl | rfl | rfl | rfl | rfl | rfl | rfl
   ·obtain rfl := keys_no (by decide) h3
    obtain rfl := int_no (by decide) (by decide) h2
    obtain rfl := part_nil (by simpa [partB] using h4)
    obtain rfl : s = [] := by simpa [textB] using h1
    exact .null
   ·obtain rfl := keys_no (by decide) h3
    obtain rfl := part_nil (by simpa [partB] using h4)
    obtain rfl : s = [] := by simpa [textB] using h1
    exact .bool i (by simpa [intF] using h2)
   ·obtain rfl := keys_no (by decide) h3
    obtain rfl := part_nil (by simpa [partB] using h4)
    obtain rfl : s = [] := by simpa [textB] using h1
    exact .int i (by simpa [intF] using h2)
   ·obtain rfl := keys_no (by decide) h3
    obtain rfl := int_no (by decide) (by decide) h2
    obtain rfl := part_nil (by simpa [partB] using h4)
    exact .str s (by simpa [textB] using h1)
   ·obtain rfl := keys_no (by decide) h3
    obtain rfl := int_no (by decide) (by decide) h2
    obtain rfl := part_nil (by simpa [partB] using h4)
    exact .var s (by simpa [textB] using h1)
   ·obtain rfl := keys_no (by decide) h3
    obtain rfl := int_no (by decide) (by decide) h2
    obtain rfl : s = [] := by simpa [textB] using h1
    exact .list ts (hs.1 (any_roles (by simpa [partB] using h4)))
   ·obtain rfl := int_no (by decide) (by decide) h2
    obtain rfl : s = [] := by simpa [textB] using h1
    have hk3 : keys.length = count ts ∧ ascB none keys = true := by simpa [keysB] using h3
    exact .map keys ts hk3.1 hk3.2 (hs.1 (any_roles (by simpa [partB] using h4)))
   ·obtain rfl := keys_no (by decide) h3
    obtain rfl := int_no (by decide) (by decide) h2
    obtain ⟨a,rfl,ha⟩ := ts_one (show rolesT ts = [1] by simpa [partB] using h4)
    have hc := hs.1 (by rw [rolesT,rolesT,ha]; simp)
    cases hc with
    | cons _ _ hc _ => exact .una s a (by simpa [textB] using h1) hc
   ·obtain rfl := keys_no (by decide) h3
    obtain rfl := int_no (by decide) (by decide) h2
    obtain ⟨a,b,rfl,ha,hb⟩ := ts_two (show rolesT ts = [1,1] by simpa [partB] using h4)
    have hc := hs.1 (by rw [rolesT,rolesT,rolesT,ha,hb]; simp)
    cases hc with
    | cons _ _ hc hd =>
     cases hd with
     | cons _ _ hd _ => exact .bin s a b (by simpa [textB] using h1) hc hd
   ·obtain rfl := keys_no (by decide) h3
    obtain rfl := int_no (by decide) (by decide) h2
    obtain rfl : s = [] := by simpa [textB] using h1
    obtain ⟨a,b,rfl,ha,hb⟩ := ts_two (show rolesT ts = [1,1] by simpa [partB] using h4)
    have hc := hs.1 (by rw [rolesT,rolesT,rolesT,ha,hb]; simp)
    cases hc with
    | cons _ _ hc hd =>
     cases hd with
     | cons _ _ hd _ => exact .idx a b hc hd
   ·obtain rfl := keys_no (by decide) h3
    obtain rfl := int_no (by decide) (by decide) h2
    exact .call s ts (by simpa [textB] using h1) (hs.1 (any_roles (by simpa [partB] using h4)))
   ·obtain rfl := keys_no (by decide) h3
    obtain rfl := int_no (by decide) (by decide) h2
    exact .host s ts (by simpa [textB] using h1) (hs.1 (any_roles (by simpa [partB] using h4)))
  ·have hk := role_kind.2.1 hr
   obtain rfl := keys_no (by omega) h3
   obtain rfl := int_no (by omega) (by omega) h2
   rcases (show k = 13 ∨ k = 14 ∨ k = 15 ∨ k = 16 ∨ k = 17 ∨ k = 18 by omega) with rfl | rfl | rfl | rfl | rfl | rfl
   ·obtain ⟨a,rfl,ha⟩ := ts_one (show rolesT ts = [1] by simpa [partB] using h4)
    exact .lt s a (by simpa [textB] using h1) (hs.2.2.1 a .nil rfl ha)
   ·obtain ⟨a,rfl,ha⟩ := ts_one (show rolesT ts = [1] by simpa [partB] using h4)
    exact .set s a (by simpa [textB] using h1) (hs.2.2.1 a .nil rfl ha)
   ·obtain rfl : s = [] := by simpa [textB] using h1
    rcases (show rolesT ts = [1,3] ∨ rolesT ts = [1,3,3] by simpa [partB] using h4) with h4 | h4
    ·obtain ⟨a,b,rfl,ha,hb⟩ := ts_two h4
     exact .if1 a b (hs.2.2.1 a _ rfl ha) (hs.2.2.2.1 a b _ rfl hb)
    ·obtain ⟨a,b,d,rfl,ha,hb,hd⟩ := ts_three h4
     exact .if2 a b d (hs.2.2.1 a _ rfl ha) (hs.2.2.2.1 a b _ rfl hb) (hs.2.2.2.2 a b d _ rfl hd)
   ·obtain rfl : s = [] := by simpa [textB] using h1
    obtain ⟨a,b,rfl,ha,hb⟩ := ts_two (show rolesT ts = [1,3] by simpa [partB] using h4)
    exact .wh a b (hs.2.2.1 a _ rfl ha) (hs.2.2.2.1 a b _ rfl hb)
   ·obtain rfl : s = [] := by simpa [textB] using h1
    obtain ⟨a,rfl,ha⟩ := ts_one (show rolesT ts = [1] by simpa [partB] using h4)
    exact .ret a (hs.2.2.1 a .nil rfl ha)
   ·obtain rfl : s = [] := by simpa [textB] using h1
    obtain ⟨a,rfl,ha⟩ := ts_one (show rolesT ts = [1] by simpa [partB] using h4)
    exact .drop a (hs.2.2.1 a .nil rfl ha)
  ·obtain rfl := role_kind.2.2 hr
   obtain rfl := keys_no (by omega) h3
   obtain rfl := int_no (by omega) (by omega) h2
   obtain rfl : s = [] := by simpa [textB] using h1
   exact .blk ts (hs.2.1 (any_roles (by simpa [partB] using h4)))
theorem goods_kinds : ∀ (ts : Ts),goodTs ts → ((∀ v ∈ rolesT ts,v = 1) → GEs ts) ∧ ((∀ v ∈ rolesT ts,v = 2) → GdSs ts) ∧ (∀ a r,ts = .cons a r → roleI (kT a) = 1 → GE a) ∧ (∀ a b r,ts = .cons a (.cons b r) → roleI (kT b) = 3 → GdB b) ∧ (∀ a b d r,ts = .cons a (.cons b (.cons d r)) → roleI (kT d) = 3 → GdB d)
 | .nil,_ => ⟨fun _ => .nil,fun _ => .nil,fun a r h => by (cases h),fun a b r h => by (cases h),fun a b d r h => by (cases h)⟩
 | .cons t r,h => by
  rw [goodTs] at h
  have h1 := good_kinds t h.1
  have h2 := goods_kinds r h.2
  refine ⟨fun hv => ?_,fun hv => ?_,fun a r' e ha => ?_,fun a b r' e hb => ?_,fun a b d r' e hd => ?_⟩
  ·rw [rolesT] at hv
   exact .cons t r (h1.1 (hv _ (List.mem_cons_self ..))) (h2.1 fun v hw => hv v (List.mem_cons_of_mem _ hw))
  ·rw [rolesT] at hv
   exact .cons t r (h1.2.1 (hv _ (List.mem_cons_self ..))) (h2.2.1 fun v hw => hv v (List.mem_cons_of_mem _ hw))
  ·cases e
   exact h1.1 ha
  ·cases e
   have h3 := h.2
   rw [goodTs] at h3
   exact (good_kinds b h3.1).2.2 hb
  ·cases e
   exact h2.2.2.2.1 b d r' rfl hd
end
def Ev {α : Type} (f : Nat → α) (x : α) : Prop := ∃ k,∀ n,k ≤ n → f n = x
theorem Ev.step {α : Type} {f : Nat → α} {x : α} (k : Nat) (h : ∀ n,k ≤ n → f (n + 1) = x) : Ev f x :=
 ⟨k + 1,fun n hn => by obtain ⟨m,rfl⟩ : ∃ m,n = m + 1 := ⟨n - 1,by omega⟩; exact h m (by omega)⟩
theorem Ev.of {α : Type} {f : Nat → α} {x : α} (h : Ev f x) : ∃ k,∀ n,k ≤ n → f n = x := h
def Stop (l : Nat) (r : List Ck) : Prop := isT [40] (hd r) = false ∧ (l ≤ 8 → isT [91] (hd r) = false) ∧ ∀ b,l ≤ b → inT (opsL b) (hd r) = false
theorem Stop.mono {l m : Nat} {r : List Ck} (h : Stop l r) (hl : l ≤ m) : Stop m r := ⟨h.1,fun q => h.2.1 (by omega),fun b hb => h.2.2 b (by omega)⟩
def allOps : List Txt := [[111,114],[97,110,100],[61,61],[33,61],[60],[60,61],[62],[62,61],[43],[45],[42],[47],[37]]
theorem ops_all : ∀ (b : Nat) (s : Txt),(opsL b).contains s = true → allOps.contains s = true
 | 0,s,h => by cases h
 | 1,s,h => by simp [opsL,allOps] at h ⊢; simp [h]
 | 2,s,h => by simp [opsL,allOps] at h ⊢; simp [h]
 | 3,s,h => by cases h
 | 4,s,h => by simp [opsL,allOps] at h ⊢; rcases h with h | h | h | h | h | h <;> simp [h]
 | 5,s,h => by simp [opsL,allOps] at h ⊢; rcases h with h | h <;> simp [h]
 | 6,s,h => by simp [opsL,allOps] at h ⊢; rcases h with h | h | h <;> simp [h]
 | n + 7,s,h => by cases h
theorem bin_ops {s : Txt} (h : binL s ≠ 0) : s ∈ allOps := by
 unfold binL at h
 split at h
 ·subst s; decide
 split at h
 ·subst s; decide
 split at h
 ·rename_i q; exact List.contains_iff_mem.1 (ops_all 4 s q)
 split at h
 ·rename_i q; exact List.contains_iff_mem.1 (ops_all 5 s q)
 split at h
 ·rename_i q; exact List.contains_iff_mem.1 (ops_all 6 s q)
 ·exact absurd rfl h
def opC (s : Txt) : Ck := if binL s ≤ 2 then (2,s,0) else (5,s,0)
theorem itA_const (m : Nat) : ∀ (ts : Ts) (j i : Nat),itA (fun _ => m) j ts = itA (fun _ => m) i ts
 | .nil,_,_ => by rw [itA,itA]
 | .cons t r,j,i => by rw [itA,itA,itA_const m r (j + 1) (i + 1)]
def row (ts : Ts) : List (List It) := itA (fun _ => 1) 0 ts
theorem row_nil : row .nil = [] := by rw [row,itA]
theorem row_cons (t : T) (r : Ts) : row (.cons t r) = opd 1 t :: row r := by
 show itA (fun _ => 1) 0 (.cons t r) = _
 rw [itA,itA_const 1 r 1 0]
 rfl
theorem itE_null : itE (leaf 1 [] 0) = [wI [110,117,108,108]] := by rw [leaf,itE]; rfl
theorem itE_bool (i : Int) : itE (leaf 2 [] i) = [wI (if i = 0 then [102,97,108,115,101] else [116,114,117,101])] := by
 rw [leaf,itE]
 show (if i = 0 then _ else _) = _
 split <;> rfl
theorem itE_int (i : Int) : itE (leaf 3 [] i) = [.tok (3,[],i)] := by rw [leaf,itE]; rfl
theorem itE_str (s : Txt) : itE (leaf 4 s 0) = [.tok (4,s,0)] := by rw [leaf,itE]; rfl
theorem itE_var (s : Txt) : itE (leaf 5 s 0) = [nI s] := by rw [leaf,itE]; rfl
theorem itE_list (ts : Ts) : itE (.node 6 [] 0 [] ts) = sI [91] :: sep (row ts) ++ [sI [93]] := by rw [itE]; rfl
theorem itE_map (keys : List Txt) (ts : Ts) : itE (.node 7 [] 0 keys ts) = sI [123] :: sep (keyed keys (row ts)) ++ [sI [125]] := by rw [itE]; rfl
theorem itE_not (a : T) : itE (una [110,111,116] a) = wI [110,111,116] :: sp :: opd 3 a := by rw [una,itE,itA,itA]; rfl
theorem itE_neg (a : T) : itE (una [45] a) = sI [45] :: opd 7 a := by rw [una,itE,itA,itA]; rfl
theorem itE_bin (s : Txt) (a b : T) : itE (bin s a b) = opd (leftL (binL s)) a ++ sp :: opI s :: sp :: opd (binL s + 1) b := by rw [bin,itE,itA,itA,itA]; rfl
theorem itE_idx (a b : T) : itE (idx a b) = opd 8 a ++ sI [91] :: opd 1 b ++ [sI [93]] := by rw [idx,itE,itA,itA,itA]; rfl
theorem itE_call (s : Txt) (ts : Ts) : itE (.node 11 s 0 [] ts) = nI s :: sI [40] :: sep (row ts) ++ [sI [41]] := by rw [itE]; rfl
theorem itE_host (s : Txt) (ts : Ts) : itE (.node 12 s 0 [] ts) = .tok (6,s,0) :: sI [40] :: sep (row ts) ++ [sI [41]] := by rw [itE]; rfl
theorem opd_low {l : Nat} {t : T} (h : lvT t < l) : opd l t = sI [40] :: itE t ++ [sI [41]] := by unfold opd; rw [if_pos h]
theorem opd_high {l : Nat} {t : T} (h : ¬ lvT t < l) : opd l t = itE t := by unfold opd; rw [if_neg h]
def IsC (b : Nat) : Prop := b = 1 ∨ b = 2 ∨ b = 5 ∨ b = 6
structure Rds (t : T) : Prop where
 e1 : ∀ l r,1 ≤ l → l ≤ lvT t → Stop l r → Ev (fun n => rdE n l (cks (itE t) ++ r)) (.ok t r)
 e2 : ∀ b X x,IsC b → Stop (b + 1) X → Ev (fun n => chn n b t X) x → Ev (fun n => rdE n b (cks (opd b t) ++ X)) x
 e3 : ∀ X x,Stop 9 X → Ev (fun n => pst n t X) x → Ev (fun n => rdE n 8 (cks (opd 8 t) ++ X)) x
theorem sep_cons (a : List It) (b : List It) (r : List (List It)) : sep (a :: b :: r) = a ++ sI [44] :: sp :: sep (b :: r) := rfl
theorem sep_one (a : List It) : sep [a] = a := rfl
theorem keyed_cons (k : Txt) (ks : List Txt) (t : T) (r : Ts) : keyed (k :: ks) (row (.cons t r)) = (.tok (4,k,0) :: sI [58] :: sp :: opd 1 t) :: keyed ks (row r) := by rw [row_cons]; rfl
theorem itB_eq (d : Nat) (k : Int) (s : Txt) (i : Int) (ks : List Txt) (ts : Ts) : itB d (.node k s i ks ts) = sI [123] :: .gap 10 :: lines (d + 1) ts ++ tabs d ++ [sI [125]] := by rw [itB]
theorem itS_let (d : Nat) (s : Txt) (e : T) : itS d (.node 13 s 0 [] (.cons e .nil)) = wI [108,101,116] :: sp :: nI s :: sp :: sI [61] :: sp :: opd 1 e ++ [sI [59]] := by rw [itS]; rfl
theorem itS_set (d : Nat) (s : Txt) (e : T) : itS d (.node 14 s 0 [] (.cons e .nil)) = nI s :: sp :: sI [61] :: sp :: opd 1 e ++ [sI [59]] := by rw [itS]; rfl
theorem itS_if1 (d : Nat) (e b : T) : itS d (.node 15 [] 0 [] (.cons e (.cons b .nil))) = wI [105,102] :: sp :: opd 1 e ++ sp :: itB d b := by
 rw [itS,itBs,itBs,itBs]
 show wI [105,102] :: sp :: opd 1 e ++ sp :: itB d b ++ [] = _
 rw [List.append_nil]
theorem itS_if2 (d : Nat) (e b f : T) : itS d (.node 15 [] 0 [] (.cons e (.cons b (.cons f .nil)))) = wI [105,102] :: sp :: opd 1 e ++ sp :: itB d b ++ sp :: wI [101,108,115,101] :: sp :: itB d f := by
 rw [itS,itBs,itBs,itBs,itBs]
 rfl
theorem itS_wh (d : Nat) (e b : T) : itS d (.node 16 [] 0 [] (.cons e (.cons b .nil))) = wI [119,104,105,108,101] :: sp :: opd 1 e ++ sp :: itB d b := by
 rw [itS,itBs,itBs,itBs]
 rfl
theorem itS_ret (d : Nat) (e : T) : itS d (.node 17 [] 0 [] (.cons e .nil)) = wI [114,101,116,117,114,110] :: sp :: opd 1 e ++ [sI [59]] := by rw [itS]; rfl
theorem itS_do (d : Nat) (e : T) : itS d (.node 18 [] 0 [] (.cons e .nil)) = opd 1 e ++ [sI [59]] := by rw [itS]; rfl
theorem lines_nil (d : Nat) : lines d .nil = [] := by rw [lines]
theorem lines_cons (d : Nat) (t : T) (r : Ts) : lines d (.cons t r) = tabs d ++ itS d t ++ .gap 10 :: lines d r := by rw [lines]
theorem names_cons (p : Txt) (r : List Txt) : (p :: r).map (fun s => [nI s]) = [nI p] :: r.map fun s => [nI s] := rfl
theorem good_body {f : Fu} (h : goodFu f) : GdB f.body := (good_kinds f.body h.1).2.2 (by rw [h.2.1]; rfl)
def FitJ : List It → Txt → Prop
 | [],_ => True
 | .tok c :: l,r => (Lex.okT (tk c) = true ∧ ∀ b,(txt l ++ r).head? = some b → Lex.fitB (tk c) b = true ∧ b ≠ 47) ∧ FitJ l r
 | .gap b :: l,r => Lex.blankB b = true ∧ FitJ l r
theorem fitJ_app : ∀ (a b : List It) (r : Txt),FitJ (a ++ b) r ↔ FitJ a (txt b ++ r) ∧ FitJ b r
 | [],b,r => by simp [FitJ]
 | .tok c :: l,b,r => by
  rw [List.cons_append,FitJ,FitJ,fitJ_app l b r,txt_app,List.append_assoc]
  simp only [and_assoc]
 | .gap c :: l,b,r => by
  rw [List.cons_append,FitJ,FitJ,fitJ_app l b r,and_assoc]
theorem wrt_skip (t : Lex.Tk) (r : Txt) (h : Lex.okT t = true) (hr : ∀ c,r.head? = some c → Lex.fitB t c = true ∧ c ≠ 47) : Lex.wrt t ++ r ≠ [] ∧ Lex.skipN false (Lex.wrt t ++ r) = 0 := by
 have hb := Lex.read_wrt t r h (fun c hc => (hr c hc).1)
 have hn : (Lex.rdT (Lex.wrt t ++ r)).e = 0 := by rw [hb]
 have hp := Lex.rd_pos hn
 rw [hb] at hp
 dsimp only at hp
 cases hw : Lex.wrt t with
 | nil => rw [hw] at hp; simp at hp
 | cons c q =>
  rw [hw] at hb hn
  refine ⟨by simp,?_⟩
  rw [List.cons_append] at hb hn ⊢
  rw [Lex.skipN]
  have hc : Lex.blankB c = false := by
   cases g : Lex.blankB c with
   | false => rfl
   | true =>
    have : c = 32 ∨ c = 9 ∨ c = 10 := by unfold Lex.blankB at g; simpa [or_assoc] using g
    have hs : Lex.symN (c :: (q ++ r)) = 0 := by
     cases hqr : q ++ r with
     | nil => rcases this with rfl | rfl | rfl <;> rfl
     | cons d x =>
      show (if Lex.symB [c,d] then 2 else if Lex.symB [c] then 1 else 0) = 0
      rcases this with rfl | rfl | rfl <;> simp [Lex.symB,Lex.twos,Lex.signs]
    rw [Lex.rdT] at hn
    rcases this with rfl | rfl | rfl
    all_goals
     rw [if_neg (by decide),if_neg (by decide),if_neg (by decide),if_neg (by decide),if_pos hs] at hn
     cases hn
  rw [hc,if_neg (by decide)]
  by_cases hs : (c == 47 && (q ++ r).head? == some 47) = true
  ·exfalso
   rw [Bool.and_eq_true,beq_iff_eq,beq_iff_eq] at hs
   obtain ⟨rfl,h47⟩ := hs
   have hlen : (Lex.rdT (47 :: (q ++ r))).n = 1 := by
    cases hqr : q ++ r with
    | nil => rfl
    | cons d x =>
     rw [hqr] at h47
     have : d = 47 := by simpa using h47
     subst this
     rfl
   rw [hb] at hlen
   dsimp only at hlen
   have hq : q = [] := by simpa using hlen
   subst hq
   exact (hr 47 h47).2 rfl
  ·rw [if_neg hs]
theorem pieces_lex : ∀ (l : List It) (m p : Nat),FitJ l [] → ((Lex.pk m p (txt l)).e = 0 ∧ (Lex.pk m p (txt l)).l.map Lex.core = cks l) ∨ (Lex.pk m p (txt l)).e = 3
 | [],m,p,_ => Or.inl (by
  have : Lex.pk m p (txt []) = ⟨[],0,0⟩ := by
   show Lex.toks m (p + Lex.skipN false []) (([] : Txt).drop _) = _
   rw [List.drop_nil,Lex.toks_nil]
  rw [this]
  exact ⟨rfl,rfl⟩)
 | .gap b :: l,m,p,h => by
  rw [FitJ] at h
  have e : Lex.pk m p (txt (.gap b :: l)) = Lex.pk m (p + 1) (txt l) := by
   show Lex.toks m (p + Lex.skipN false (b :: txt l)) ((b :: txt l).drop (Lex.skipN false (b :: txt l))) = _
   rw [Lex.skipN,if_pos h.1,List.drop_succ_cons]
   show _ = Lex.toks m (p + 1 + Lex.skipN false (txt l)) ((txt l).drop (Lex.skipN false (txt l)))
   rw [show p + (Lex.skipN false (txt l) + 1) = p + 1 + Lex.skipN false (txt l) by omega]
  rw [e]
  exact pieces_lex l m (p + 1) h.2
 | .tok c :: l,m,p,h => by
  rw [FitJ,List.append_nil] at h
  obtain ⟨⟨h1,h2⟩,h3⟩ := h
  obtain ⟨g1,g2⟩ := wrt_skip (tk c) (txt l) h1 h2
  have hb := Lex.read_wrt (tk c) (txt l) h1 (fun b hb => (h2 b hb).1)
  have e0 : Lex.pk m p (txt (.tok c :: l)) = Lex.toks m p (Lex.wrt (tk c) ++ txt l) := by
   show Lex.toks m (p + Lex.skipN false (Lex.wrt (tk c) ++ txt l)) ((Lex.wrt (tk c) ++ txt l).drop (Lex.skipN false (Lex.wrt (tk c) ++ txt l))) = _
   rw [g2,List.drop_zero,Nat.add_zero]
  rw [e0]
  by_cases hm : m = 1000
  ·subst hm
   right
   rw [Lex.toks_full p g1]
  ·have hn : (Lex.rdT (Lex.wrt (tk c) ++ txt l)).e = 0 := by rw [hb]
   rw [Lex.toks_pk g1 hm hn,hb]
   dsimp only
   rw [List.drop_left]
   rcases pieces_lex l (m + 1) (p + (Lex.wrt (tk c)).length) h3 with ⟨q1,q2⟩ | q
   ·left
    obtain ⟨a1,a2⟩ := Lex.addT_ok [⟨(tk c).k,(tk c).s,(tk c).i,(p : Int)⟩] q1
    refine ⟨a1,?_⟩
    rw [a2,List.map_append,q2]
    rfl
   ·right
    unfold Lex.addT
    rw [if_neg (by rw [q]; decide)]
    exact q
theorem text_lex (l : List It) (h : FitJ l []) : ((Lex.tokens (txt l)).e = 0 ∧ (Lex.tokens (txt l)).l.map Lex.core = cks l) ∨ (Lex.tokens (txt l)).e = 3 := by
 unfold Lex.tokens
 by_cases h4 : 4000 < (txt l).length
 ·right; rw [if_pos h4]
 ·rw [if_neg h4]
  have := pieces_lex l 0 0 h
  unfold Lex.pk at this
  rw [Nat.zero_add] at this
  exact this
def After (y : Txt) : Prop := ∀ b,y.head? = some b → Lex.tailB b = false ∧ b ≠ 61 ∧ b ≠ 47
def NE (y : Txt) : Prop := ∀ b,y.head? = some b → b ≠ 61 ∧ b ≠ 47
theorem After.ne {y : Txt} (h : After y) : NE y := fun b hb => (h b hb).2
theorem After.cons {b : UInt8} (y : Txt) (h : Lex.tailB b = false ∧ b ≠ 61 ∧ b ≠ 47) : After (b :: y) := fun c hc => by
 obtain rfl : b = c := by simpa using hc
 exact h
theorem NE.cons {b : UInt8} (y : Txt) (h : b ≠ 61 ∧ b ≠ 47) : NE (b :: y) := fun c hc => by
 obtain rfl : b = c := by simpa using hc
 exact h
theorem NE.nil : NE [] := fun b h => by cases h
theorem sym_fit {s : Txt} {i a : Int} (h : Lex.okT ⟨5,s,i,a⟩ = true) {b : UInt8} (hb : b ≠ 61) : Lex.fitB ⟨5,s,i,a⟩ b = true := by
 have hs : Lex.symB s = true := by
  unfold Lex.okT at h
  simp at h
  exact h.2
 show (!Lex.symB (s ++ [b])) = true
 rcases Lex.sym_parts hs with ⟨c,rfl,_⟩ | ⟨c,d,rfl,_⟩
 ·show (!Lex.twos.contains [c,b]) = true
  simp [Lex.twos,hb]
 ·rfl
theorem after_fit (t : Lex.Tk) (h : Lex.okT t = true) {b : UInt8} (h1 : Lex.tailB b = false) (h2 : b ≠ 61) : Lex.fitB t b = true := by
 obtain ⟨k,s,i,a⟩ := t
 by_cases h5 : k = 5
 ·subst h5
  exact sym_fit h h2
 unfold Lex.fitB
 have hd : Lex.digB b = false := by
  unfold Lex.tailB at h1
  exact (Bool.or_eq_false_iff.1 h1).2
 dsimp only
 rw [if_neg h5]
 split
 ·rw [h1]; rfl
 split
 ·rw [hd]; rfl
 ·rfl
theorem fit_t {c : Ck} {l : List It} {r : Txt} (h : Lex.okT (tk c) = true) (ha : After (txt l ++ r)) (hl : FitJ l r) : FitJ (.tok c :: l) r := ⟨⟨h,fun b hb => ⟨after_fit _ h (ha b hb).1 (ha b hb).2.1,(ha b hb).2.2⟩⟩,hl⟩
theorem fit_s {s : Txt} {l : List It} {r : Txt} (h : Lex.okT (tk (5,s,0)) = true) (ha : NE (txt l ++ r)) (hl : FitJ l r) : FitJ (sI s :: l) r := ⟨⟨h,fun b hb => ⟨sym_fit h (ha b hb).1,(ha b hb).2⟩⟩,hl⟩
theorem fit_str {s : Txt} {l : List It} {r : Txt} (h : strB s = true) (ha : NE (txt l ++ r)) (hl : FitJ l r) : FitJ (.tok (4,s,0) :: l) r := ⟨⟨h,fun b hb => ⟨rfl,(ha b hb).2⟩⟩,hl⟩
theorem fit_g {b : UInt8} {l : List It} {r : Txt} (h : Lex.blankB b = true) (hl : FitJ l r) : FitJ (.gap b :: l) r := ⟨h,hl⟩
theorem txt_s (s : Txt) (l : List It) : txt (sI s :: l) = s ++ txt l := rfl
theorem txt_w (s : Txt) (l : List It) : txt (wI s :: l) = s ++ txt l := rfl
theorem txt_n (s : Txt) (l : List It) : txt (nI s :: l) = s ++ txt l := rfl
theorem txt_sp (l : List It) : txt (sp :: l) = 32 :: txt l := rfl
theorem txt_gap (b : UInt8) (l : List It) : txt (.gap b :: l) = b :: txt l := rfl
theorem txt_tok (c : Ck) (l : List It) : txt (.tok c :: l) = Lex.wrt (tk c) ++ txt l := rfl
theorem txt_nil : txt [] = [] := rfl
theorem opI_eq (s : Txt) : opI s = .tok (opC s) := by unfold opI opC; split <;> rfl
theorem op_text (s : Txt) (l : List It) : txt (opI s :: l) = s ++ txt l := by unfold opI; split <;> rfl
theorem op_ok {s : Txt} (h : binL s ≠ 0) : Lex.okT (tk (opC s)) = true := by
 have hm := bin_ops h
 unfold allOps at hm
 simp only [List.mem_cons,List.not_mem_nil,or_false] at hm
 rcases hm with rfl | rfl | rfl | rfl | rfl | rfl | rfl | rfl | rfl | rfl | rfl | rfl | rfl <;> decide
theorem wrt_ne {t : Lex.Tk} (h : Lex.okT t = true) (h5 : t.k ≠ 5) : ∃ b q,Lex.wrt t = b :: q ∧ b ≠ 61 ∧ b ≠ 47 := by
 have hb := Lex.read_wrt t [] h (fun c hc => by cases hc)
 rw [List.append_nil] at hb
 cases hw : Lex.wrt t with
 | nil => rw [hw,Lex.rdT] at hb; exact absurd (show (1 : Int) = 0 from congrArg Lex.Rd.e hb) (by decide)
 | cons b q =>
  rw [hw] at hb
  refine ⟨b,q,rfl,fun e => ?_,fun e => ?_⟩
  all_goals
   subst e
   rw [Lex.rdT,if_neg (by decide),if_neg (by decide),if_neg (by decide),if_neg (by decide)] at hb
   split at hb
   ·exact absurd (show (1 : Int) = 0 from congrArg Lex.Rd.e hb) (by decide)
   ·simp only [Lex.Rd.mk.injEq] at hb
    exact h5 hb.1.symm
theorem ne_tok {c : Ck} (h : Lex.okT (tk c) = true) (h5 : c.1 ≠ 5) (L : List It) (y : Txt) : NE (txt (.tok c :: L) ++ y) := by
 obtain ⟨b,q,h1,h2⟩ := wrt_ne h h5
 rw [txt_tok,h1,List.cons_append,List.cons_append]
 exact NE.cons _ h2
theorem ne_app {L : List It} (h : ∀ y,NE (txt L ++ y)) (M : List It) (y : Txt) : NE (txt (L ++ M) ++ y) := by rw [txt_app,List.append_assoc]; exact h _
theorem ne_opd {t : T} (h : ∀ y,NE (txt (itE t) ++ y)) (l : Nat) (y : Txt) : NE (txt (opd l t) ++ y) := by
 by_cases hl : lvT t < l
 ·rw [opd_low hl]
  exact NE.cons _ (by decide)
 ·rw [opd_high hl]
  exact h y
theorem ne_E : ∀ {t : T},GE t → ∀ y,NE (txt (itE t) ++ y)
 | _,.null,y => by rw [itE_null]; exact NE.cons _ (by decide)
 | _,.bool i h,y => by rw [itE_bool]; rcases h with rfl | rfl <;> exact NE.cons _ (by decide)
 | _,.int i h,y => by rw [itE_int]; exact ne_tok (c := (3,[],i)) h (by show (3 : Int) ≠ 5; decide) _ y
 | _,.str s h,y => by rw [itE_str]; exact ne_tok (c := (4,s,0)) h (by show (4 : Int) ≠ 5; decide) _ y
 | _,.var s h,y => by rw [itE_var]; exact ne_tok (c := (1,s,0)) h (by show (1 : Int) ≠ 5; decide) _ y
 | _,.list ts h,y => by rw [itE_list]; exact NE.cons _ (by decide)
 | _,.map keys ts hl ha h,y => by rw [itE_map]; exact NE.cons _ (by decide)
 | _,.una s a hs h,y => by
  rcases hs with rfl | rfl
  ·rw [itE_neg]; exact NE.cons _ (by decide)
  ·rw [itE_not]; exact NE.cons _ (by decide)
 | _,.bin s a b hs h1 h2,y => by rw [itE_bin]; exact ne_app (ne_opd (ne_E h1) _) _ y
 | _,.idx a b h1 h2,y => by rw [itE_idx,List.append_assoc]; exact ne_app (ne_opd (ne_E h1) _) _ y
 | _,.call s ts hs h,y => by rw [itE_call,List.cons_append]; exact ne_tok (c := (1,s,0)) hs (by show (1 : Int) ≠ 5; decide) _ y
 | _,.host s ts hs h,y => by rw [itE_host,List.cons_append]; exact ne_tok (c := (6,s,0)) hs (by show (6 : Int) ≠ 5; decide) _ y
theorem ne_row {ts : Ts} (h : GEs ts) {y : Txt} (hy : NE y) : NE (txt (sep (row ts)) ++ y) := by
 cases h with
 | nil => rw [row_nil]; exact hy
 | cons t r h hr =>
  rw [row_cons]
  cases hr with
  | nil => rw [row_nil,sep_one]; exact ne_opd (ne_E h) 1 y
  | cons u q hu hq => rw [row_cons,sep_cons]; exact ne_app (ne_opd (ne_E h) 1) _ y
theorem fit_opd {t : T} (h : GE t) (hf : ∀ y,After y → FitJ (itE t) y) (l : Nat) (y : Txt) (hy : After y) : FitJ (opd l t) y := by
 by_cases hl : lvT t < l
 ·rw [opd_low hl,List.cons_append]
  refine fit_s (by decide) ?_ ?_
  ·rw [txt_app,List.append_assoc]
   exact ne_E h _
  ·rw [fitJ_app]
   refine ⟨hf _ (After.cons _ (by decide)),fit_s (by decide) hy.ne trivial⟩
 ·rw [opd_high hl]
  exact hf y hy
def AllF : Ts → Prop
 | .nil => True
 | .cons t r => (GE t ∧ ∀ y,After y → FitJ (itE t) y) ∧ AllF r
theorem fit_row : ∀ {ts : Ts},AllF ts → ∀ y,After y → FitJ (sep (row ts)) y
 | .nil,_,y,hy => by rw [row_nil]; trivial
 | .cons t .nil,h,y,hy => by
  rw [AllF] at h
  rw [row_cons,row_nil,sep_one]
  exact fit_opd h.1.1 h.1.2 1 y hy
 | .cons t (.cons u r),h,y,hy => by
  rw [AllF] at h
  rw [row_cons,row_cons,sep_cons,← row_cons,fitJ_app]
  refine ⟨fit_opd h.1.1 h.1.2 1 _ (After.cons _ (by decide)),fit_s (by decide) (NE.cons _ (by decide)) (fit_g (by decide) (fit_row h.2 y hy))⟩
theorem asc_str {p : Option Txt} {k : Txt} {r : List Txt} (h : ascB p (k :: r) = true) : strB k = true ∧ ascB (some k) r = true := by
 rw [asc_cons,Bool.and_eq_true,Bool.and_eq_true] at h
 exact ⟨h.1,h.2.2⟩
theorem fit_keyed : ∀ {ts : Ts},AllF ts → ∀ (keys : List Txt) (p : Option Txt),ascB p keys = true → ∀ y,After y → FitJ (sep (keyed keys (row ts))) y
 | .nil,_,keys,p,_,y,hy => by rw [row_nil]; cases keys <;> trivial
 | .cons t r,_,[],p,_,y,hy => by rw [row_cons]; trivial
 | .cons t .nil,h,k :: keys,p,ha,y,hy => by
  rw [AllF] at h
  rw [keyed_cons,row_nil,show keyed keys [] = [] by cases keys <;> rfl,sep_one]
  exact fit_str (asc_str ha).1 (NE.cons _ (by decide)) (fit_s (by decide) (NE.cons _ (by decide)) (fit_g (by decide) (fit_opd h.1.1 h.1.2 1 y hy)))
 | .cons t (.cons u r),h,[k],p,ha,y,hy => by
  rw [AllF] at h
  rw [keyed_cons,show keyed [] (row (.cons u r)) = [] by rw [row_cons]; rfl,sep_one]
  exact fit_str (asc_str ha).1 (NE.cons _ (by decide)) (fit_s (by decide) (NE.cons _ (by decide)) (fit_g (by decide) (fit_opd h.1.1 h.1.2 1 y hy)))
 | .cons t (.cons u r),h,k :: k2 :: keys,p,ha,y,hy => by
  rw [AllF] at h
  rw [keyed_cons,keyed_cons,sep_cons,← keyed_cons]
  simp only [List.cons_append]
  refine fit_str (asc_str ha).1 (NE.cons _ (by decide)) (fit_s (by decide) (NE.cons _ (by decide)) (fit_g (by decide) ?_))
  rw [fitJ_app]
  exact ⟨fit_opd h.1.1 h.1.2 1 _ (After.cons _ (by decide)),fit_s (by decide) (NE.cons _ (by decide)) (fit_g (by decide) (fit_keyed h.2 (k2 :: keys) (some k) (asc_str ha).2 y hy))⟩
mutual
theorem fit_E : ∀ {t : T},GE t → ∀ y,After y → FitJ (itE t) y
 | _,.null,y,hy => by rw [itE_null]; exact fit_t (by decide) hy trivial
 | _,.bool i h,y,hy => by rw [itE_bool]; rcases h with rfl | rfl <;> exact fit_t (by decide) hy trivial
 | _,.int i h,y,hy => by rw [itE_int]; exact fit_t h hy trivial
 | _,.str s h,y,hy => by rw [itE_str]; exact fit_t h hy trivial
 | _,.var s h,y,hy => by rw [itE_var]; exact fit_t h hy trivial
 | _,.list ts h,y,hy => by
  rw [itE_list,List.cons_append]
  refine fit_s (by decide) ?_ ?_
  ·rw [txt_app,List.append_assoc]; exact ne_row h (NE.cons _ (by decide))
  ·rw [fitJ_app]; exact ⟨fit_row (fit_Es h) _ (After.cons _ (by decide)),fit_s (by decide) hy.ne trivial⟩
 | _,.map keys ts hl ha h,y,hy => by
  rw [itE_map,List.cons_append]
  refine fit_s (by decide) ?_ ?_
  ·rw [txt_app,List.append_assoc]
   cases ts with
   | nil =>
    rw [row_nil,show keyed keys [] = [] by cases keys <;> rfl]
    exact NE.cons _ (by decide)
   | cons t r =>
    cases keys with
    | nil => cases hl
    | cons k keys =>
     rw [keyed_cons]
     cases hq : keyed keys (row r) with
     | nil => rw [sep_one]; exact ne_tok (c := (4,k,0)) (asc_str ha).1 (by show (4 : Int) ≠ 5; decide) _ _
     | cons a q => rw [sep_cons]; exact ne_tok (c := (4,k,0)) (asc_str ha).1 (by show (4 : Int) ≠ 5; decide) _ _
  ·rw [fitJ_app]; exact ⟨fit_keyed (fit_Es h) keys none ha _ (After.cons _ (by decide)),fit_s (by decide) hy.ne trivial⟩
 | _,.una s a hs h,y,hy => by
  rcases hs with rfl | rfl
  ·rw [itE_neg]; exact fit_s (by decide) (ne_opd (ne_E h) 7 y) (fit_opd h (fit_E h) 7 y hy)
  ·rw [itE_not]; exact fit_t (by decide) (After.cons _ (by decide)) (fit_g (by decide) (fit_opd h (fit_E h) 3 y hy))
 | _,.bin s a b hs h1 h2,y,hy => by
  rw [itE_bin,fitJ_app]
  refine ⟨fit_opd h1 (fit_E h1) _ _ (After.cons _ (by decide)),fit_g (by decide) ?_⟩
  rw [opI_eq]
  exact fit_t (op_ok hs) (After.cons _ (by decide)) (fit_g (by decide) (fit_opd h2 (fit_E h2) _ y hy))
 | _,.idx a b h1 h2,y,hy => by
  rw [itE_idx,List.append_assoc,fitJ_app]
  refine ⟨fit_opd h1 (fit_E h1) 8 _ (After.cons _ (by decide)),?_⟩
  rw [List.cons_append]
  refine fit_s (by decide) ?_ ?_
  ·rw [txt_app,List.append_assoc]; exact ne_opd (ne_E h2) 1 _
  ·rw [fitJ_app]; exact ⟨fit_opd h2 (fit_E h2) 1 _ (After.cons _ (by decide)),fit_s (by decide) hy.ne trivial⟩
 | _,.call s ts hs h,y,hy => by
  rw [itE_call]
  simp only [List.cons_append]
  refine fit_t hs (After.cons _ (by decide)) (fit_s (by decide) ?_ ?_)
  ·rw [txt_app,List.append_assoc]; exact ne_row h (NE.cons _ (by decide))
  ·rw [fitJ_app]; exact ⟨fit_row (fit_Es h) _ (After.cons _ (by decide)),fit_s (by decide) hy.ne trivial⟩
 | _,.host s ts hs h,y,hy => by
  rw [itE_host]
  simp only [List.cons_append]
  refine fit_t hs (After.cons _ (by decide)) (fit_s (by decide) ?_ ?_)
  ·rw [txt_app,List.append_assoc]; exact ne_row h (NE.cons _ (by decide))
  ·rw [fitJ_app]; exact ⟨fit_row (fit_Es h) _ (After.cons _ (by decide)),fit_s (by decide) hy.ne trivial⟩
theorem fit_Es : ∀ {ts : Ts},GEs ts → AllF ts
 | _,.nil => by rw [AllF]; trivial
 | _,.cons t r h hr => by rw [AllF]; exact ⟨⟨h,fit_E h⟩,fit_Es hr⟩
end
theorem fit_oE {t : T} (h : GE t) (l : Nat) (y : Txt) (hy : After y) : FitJ (opd l t) y := fit_opd h (fit_E h) l y hy
theorem fit_tabs (d : Nat) (y : Txt) : FitJ (tabs d) y := by
 induction d with
 | zero => trivial
 | succ d ih => exact fit_g (b := 9) (by decide) ih
theorem fit_end {e : T} (h : GE e) (y : Txt) (hy : NE y) : FitJ (opd 1 e ++ [sI [59]]) y := by
 rw [fitJ_app]
 exact ⟨fit_oE h 1 _ (After.cons _ (by decide)),fit_s (by decide) hy trivial⟩
mutual
theorem fit_S : ∀ {t : T},GdS t → ∀ (d : Nat) (y : Txt),NE y → FitJ (itS d t) y
 | _,.lt s e hs h,d,y,hy => by
  rw [itS_let]
  simp only [List.cons_append]
  exact fit_t (by decide) (After.cons _ (by decide)) (fit_g (by decide) (fit_t hs (After.cons _ (by decide)) (fit_g (by decide) (fit_s (by decide) (NE.cons _ (by decide)) (fit_g (by decide) (fit_end h y hy))))))
 | _,.set s e hs h,d,y,hy => by
  rw [itS_set]
  simp only [List.cons_append]
  exact fit_t hs (After.cons _ (by decide)) (fit_g (by decide) (fit_s (by decide) (NE.cons _ (by decide)) (fit_g (by decide) (fit_end h y hy))))
 | _,.if1 e b h hb,d,y,hy => by
  rw [itS_if1]
  simp only [List.cons_append]
  refine fit_t (by decide) (After.cons _ (by decide)) (fit_g (by decide) ?_)
  rw [fitJ_app]
  exact ⟨fit_oE h 1 _ (After.cons _ (by decide)),fit_g (by decide) (fit_B hb d y hy)⟩
 | _,.if2 e b f h hb hf,d,y,hy => by
  rw [itS_if2]
  simp only [List.cons_append,List.append_assoc]
  refine fit_t (by decide) (After.cons _ (by decide)) (fit_g (by decide) ?_)
  rw [fitJ_app]
  refine ⟨fit_oE h 1 _ (After.cons _ (by decide)),fit_g (by decide) ?_⟩
  rw [fitJ_app]
  exact ⟨fit_B hb d _ (NE.cons _ (by decide)),fit_g (by decide) (fit_t (by decide) (After.cons _ (by decide)) (fit_g (by decide) (fit_B hf d y hy)))⟩
 | _,.wh e b h hb,d,y,hy => by
  rw [itS_wh]
  simp only [List.cons_append]
  refine fit_t (by decide) (After.cons _ (by decide)) (fit_g (by decide) ?_)
  rw [fitJ_app]
  exact ⟨fit_oE h 1 _ (After.cons _ (by decide)),fit_g (by decide) (fit_B hb d y hy)⟩
 | _,.ret e h,d,y,hy => by
  rw [itS_ret]
  simp only [List.cons_append]
  exact fit_t (by decide) (After.cons _ (by decide)) (fit_g (by decide) (fit_end h y hy))
 | _,.drop e h,d,y,hy => by
  rw [itS_do]
  exact fit_end h y hy
theorem fit_B : ∀ {t : T},GdB t → ∀ (d : Nat) (y : Txt),NE y → FitJ (itB d t) y
 | _,.blk ts h,d,y,hy => by
  rw [itB_eq,List.append_assoc]
  simp only [List.cons_append]
  refine fit_s (by decide) (NE.cons _ (by decide)) (fit_g (by decide) ?_)
  rw [fitJ_app]
  refine ⟨fit_L h (d + 1) _,?_⟩
  rw [fitJ_app]
  exact ⟨fit_tabs d _,fit_s (by decide) hy trivial⟩
theorem fit_L : ∀ {ts : Ts},GdSs ts → ∀ (d : Nat) (y : Txt),FitJ (lines d ts) y
 | _,.nil,d,y => by rw [lines_nil]; trivial
 | _,.cons t r h hr,d,y => by
  rw [lines_cons,List.append_assoc,fitJ_app]
  refine ⟨fit_tabs d _,?_⟩
  rw [fitJ_app]
  exact ⟨fit_S h d _ (NE.cons _ (by decide)),fit_g (by decide) (fit_L hr d y)⟩
end
theorem fit_names : ∀ (ps : List Txt),(∀ p ∈ ps,nameB p = true) → ∀ y,After y → FitJ (sep (ps.map fun s => [nI s])) y
 | [],_,y,hy => trivial
 | [p],h,y,hy => fit_t (h p (List.mem_cons_self ..)) hy trivial
 | p :: q :: r,h,y,hy => by
  rw [names_cons,names_cons,sep_cons,← names_cons]
  exact fit_t (h p (List.mem_cons_self ..)) (After.cons _ (by decide)) (fit_s (by decide) (NE.cons _ (by decide)) (fit_g (by decide) (fit_names (q :: r) (fun x hx => h x (List.mem_cons_of_mem _ hx)) y hy)))
theorem ne_names (ps : List Txt) (h : ∀ p ∈ ps,nameB p = true) {y : Txt} (hy : NE y) : NE (txt (sep (ps.map fun s => [nI s])) ++ y) := by
 match ps,h with
 | [],_ => exact hy
 | [p],h => exact ne_tok (c := (1,p,0)) (h p (List.mem_cons_self ..)) (by show (1 : Int) ≠ 5; decide) _ y
 | p :: q :: r,h => rw [names_cons,names_cons,sep_cons]; exact ne_tok (c := (1,p,0)) (h p (List.mem_cons_self ..)) (by show (1 : Int) ≠ 5; decide) _ y
theorem fit_F {f : Fu} (h : goodFu f) (y : Txt) : FitJ (itF f) y := by
 have hb := good_body h
 obtain ⟨-,-,hn,hp⟩ := h
 unfold itF
 simp only [List.cons_append,List.append_assoc]
 refine fit_t (by decide) (After.cons _ (by decide)) (fit_g (by decide) (fit_t hn (After.cons _ (by decide)) (fit_s (by decide) ?_ ?_)))
 ·rw [txt_app,List.append_assoc]
  exact ne_names _ hp (NE.cons _ (by decide))
 ·rw [fitJ_app]
  refine ⟨fit_names _ hp _ (After.cons _ (by decide)),fit_s (by decide) (NE.cons _ (by decide)) (fit_g (by decide) ?_)⟩
  rw [fitJ_app]
  exact ⟨fit_B hb 0 _ (NE.cons _ (by decide)),fit_g (by decide) trivial⟩
theorem fit_W : ∀ (fs : List Fu),(∀ f ∈ fs,goodFu f) → ∀ y,FitJ (itW fs) y
 | [],_,y => trivial
 | f :: fs,h,y => by
  show FitJ (itF f ++ itW fs) y
  rw [fitJ_app]
  exact ⟨fit_F (h f (List.mem_cons_self ..)) _,fit_W fs (fun g hg => h g (List.mem_cons_of_mem _ hg)) y⟩
theorem prog_lex (fs : List Fu) (h : ∀ f ∈ fs,goodFu f) : ((Lex.tokens (txt (itW fs))).e = 0 ∧ (Lex.tokens (txt (itW fs))).l.map Lex.core = cks (itW fs)) ∨ (Lex.tokens (txt (itW fs))).e = 3 := text_lex _ (fit_W fs h [])
theorem tok_len {c : Ck} (h : Lex.okT (tk c) = true) : (Lex.wrt (tk c)).length ≤ 402 := (Lex.ok_len h).2
theorem name_len {s : Txt} (h : nameB s = true) : s.length ≤ 402 := tok_len (c := (1,s,0)) h
theorem op_len {s : Txt} (h : binL s ≠ 0) : s.length ≤ 3 := by
 have hm := bin_ops h
 unfold allOps at hm
 simp only [List.mem_cons,List.not_mem_nil,or_false] at hm
 rcases hm with rfl | rfl | rfl | rfl | rfl | rfl | rfl | rfl | rfl | rfl | rfl | rfl | rfl <;> decide
theorem opd_len {t : T} (h : (txt (itE t)).length + 410 ≤ 1000 * size t) (l : Nat) : (txt (opd l t)).length + 408 ≤ 1000 * size t := by
 by_cases hl : lvT t < l
 ·rw [opd_low hl,txt_app,List.length_append]
  have : (txt (sI [40] :: itE t)).length = (txt (itE t)).length + 1 := rfl
  have : (txt [sI [41]]).length = 1 := rfl
  omega
 ·rw [opd_high hl]; omega
def AllL : Ts → Prop
 | .nil => True
 | .cons t r => (txt (itE t)).length + 410 ≤ 1000 * size t ∧ AllL r
theorem row_len : ∀ {ts : Ts},AllL ts → (txt (sep (row ts))).length ≤ 1000 * sizes ts
 | .nil,_ => by rw [row_nil]; exact Nat.zero_le _
 | .cons t .nil,h => by
  rw [AllL] at h
  rw [row_cons,row_nil,sep_one,sizes,sizes]
  have := opd_len h.1 1
  omega
 | .cons t (.cons u r),h => by
  rw [AllL] at h
  have ih := row_len h.2
  have := opd_len h.1 1
  rw [row_cons,row_cons,sep_cons,← row_cons,txt_app,List.length_append,sizes]
  have : (txt (sI [44] :: sp :: sep (row (.cons u r)))).length = (txt (sep (row (.cons u r)))).length + 1 + 1 := rfl
  omega
theorem keyed_len : ∀ {ts : Ts},AllL ts → ∀ (keys : List Txt) (p : Option Txt),ascB p keys = true → (txt (sep (keyed keys (row ts)))).length ≤ 1000 * sizes ts
 | .nil,_,keys,p,_ => by rw [row_nil]; cases keys <;> exact Nat.zero_le _
 | .cons t r,_,[],p,_ => by rw [row_cons]; exact Nat.zero_le _
 | .cons t .nil,h,k :: keys,p,ha => by
  rw [AllL] at h
  rw [keyed_cons,row_nil,show keyed keys [] = [] by cases keys <;> rfl,sep_one,sizes,sizes]
  have := opd_len h.1 1
  have h2 := tok_len (c := (4,k,0)) (asc_str ha).1
  have e : (txt (.tok (4,k,0) :: sI [58] :: sp :: opd 1 t)).length = (Lex.wrt (tk (4,k,0))).length + ((txt (opd 1 t)).length + 1 + 1) := by rw [txt_tok,List.length_append]; rfl
  omega
 | .cons t (.cons u r),h,[k],p,ha => by
  rw [AllL] at h
  rw [keyed_cons,show keyed [] (row (.cons u r)) = [] by rw [row_cons]; rfl,sep_one,sizes]
  have := opd_len h.1 1
  have h2 := tok_len (c := (4,k,0)) (asc_str ha).1
  have e : (txt (.tok (4,k,0) :: sI [58] :: sp :: opd 1 t)).length = (Lex.wrt (tk (4,k,0))).length + ((txt (opd 1 t)).length + 1 + 1) := by rw [txt_tok,List.length_append]; rfl
  omega
 | .cons t (.cons u r),h,k :: k2 :: keys,p,ha => by
  rw [AllL] at h
  have ih := keyed_len h.2 (k2 :: keys) (some k) (asc_str ha).2
  rw [keyed_cons,keyed_cons,sep_cons,← keyed_cons,sizes]
  have := opd_len h.1 1
  have h2 := tok_len (c := (4,k,0)) (asc_str ha).1
  rw [txt_app,List.length_append]
  have e : (txt (.tok (4,k,0) :: sI [58] :: sp :: opd 1 t)).length = (Lex.wrt (tk (4,k,0))).length + ((txt (opd 1 t)).length + 1 + 1) := by rw [txt_tok,List.length_append]; rfl
  have e2 : (txt (sI [44] :: sp :: sep (keyed (k2 :: keys) (row (.cons u r))))).length = (txt (sep (keyed (k2 :: keys) (row (.cons u r))))).length + 1 + 1 := rfl
  omega
mutual
theorem len_E : ∀ {t : T},GE t → (txt (itE t)).length + 410 ≤ 1000 * size t
 | _,.null => by rw [itE_null,leaf,size,sizes]; exact (by decide : 4 + 410 ≤ 1000 * (0 + 1))
 | _,.bool i h => by
  rw [itE_bool,leaf,size,sizes]
  rcases h with rfl | rfl
  ·exact (by decide : 5 + 410 ≤ 1000 * (0 + 1))
  ·exact (by decide : 4 + 410 ≤ 1000 * (0 + 1))
 | _,.int i h => by
  rw [itE_int,leaf,size,sizes,txt_tok,List.length_append]
  have := tok_len (c := (3,[],i)) h
  have : (txt []).length = 0 := rfl
  omega
 | _,.str s h => by
  rw [itE_str,leaf,size,sizes,txt_tok,List.length_append]
  have := tok_len (c := (4,s,0)) h
  have : (txt []).length = 0 := rfl
  omega
 | _,.var s h => by
  rw [itE_var,leaf,size,sizes,txt_n,List.length_append]
  have := name_len h
  have : (txt []).length = 0 := rfl
  omega
 | _,.list ts h => by
  rw [itE_list,size,txt_app,List.length_append]
  have := row_len (len_Es h)
  have : (txt (sI [91] :: sep (row ts))).length = (txt (sep (row ts))).length + 1 := rfl
  have : (txt [sI [93]]).length = 1 := rfl
  omega
 | _,.map keys ts hl ha h => by
  rw [itE_map,size,txt_app,List.length_append]
  have := keyed_len (len_Es h) keys none ha
  have : (txt (sI [123] :: sep (keyed keys (row ts)))).length = (txt (sep (keyed keys (row ts)))).length + 1 := rfl
  have : (txt [sI [125]]).length = 1 := rfl
  omega
 | _,.una s a hs h => by
  rcases hs with rfl | rfl
  ·rw [itE_neg,una,size,sizes,sizes]
   have := opd_len (len_E h) 7
   have : (txt (sI [45] :: opd 7 a)).length = (txt (opd 7 a)).length + 1 := rfl
   omega
  ·rw [itE_not,una,size,sizes,sizes]
   have := opd_len (len_E h) 3
   have : (txt (wI [110,111,116] :: sp :: opd 3 a)).length = (txt (opd 3 a)).length + 1 + 1 + 1 + 1 := rfl
   omega
 | _,.bin s a b hs h1 h2 => by
  rw [itE_bin,bin,size,sizes,sizes,sizes,txt_app,List.length_append,txt_sp,op_text,List.length_cons,List.length_append,txt_sp,List.length_cons]
  have := opd_len (len_E h1) (leftL (binL s))
  have := opd_len (len_E h2) (binL s + 1)
  have := op_len hs
  omega
 | _,.idx a b h1 h2 => by
  rw [itE_idx,idx,size,sizes,sizes,sizes,txt_app,List.length_append,txt_app,List.length_append]
  have := opd_len (len_E h1) 8
  have := opd_len (len_E h2) 1
  have : (txt (sI [91] :: opd 1 b)).length = (txt (opd 1 b)).length + 1 := rfl
  have : (txt [sI [93]]).length = 1 := rfl
  omega
 | _,.call s ts hs h => by
  rw [itE_call,size,txt_app,List.length_append,txt_n,List.length_append]
  have := row_len (len_Es h)
  have := name_len hs
  have : (txt (sI [40] :: sep (row ts))).length = (txt (sep (row ts))).length + 1 := rfl
  have : (txt [sI [41]]).length = 1 := rfl
  omega
 | _,.host s ts hs h => by
  rw [itE_host,size,txt_app,List.length_append,txt_tok,List.length_append]
  have := row_len (len_Es h)
  have := tok_len (c := (6,s,0)) hs
  have : (txt (sI [40] :: sep (row ts))).length = (txt (sep (row ts))).length + 1 := rfl
  have : (txt [sI [41]]).length = 1 := rfl
  omega
theorem len_Es : ∀ {ts : Ts},GEs ts → AllL ts
 | _,.nil => by rw [AllL]; trivial
 | _,.cons t r h hr => by rw [AllL]; exact ⟨len_E h,len_Es hr⟩
end
theorem len_oE {t : T} (h : GE t) (l : Nat) : (txt (opd l t)).length + 408 ≤ 1000 * size t := opd_len (len_E h) l
theorem len_tabs (d : Nat) : (txt (tabs d)).length = d := by
 induction d with
 | zero => rfl
 | succ d ih => show (9 :: txt (tabs d)).length = _; rw [List.length_cons,ih]
theorem len_end {e : T} (h : GE e) : (txt (opd 1 e ++ [sI [59]])).length ≤ 1000 * size e := by
 rw [txt_app,List.length_append]
 have := len_oE h 1
 have : (txt [sI [59]]).length = 1 := rfl
 omega
mutual
theorem len_S : ∀ {t : T},GdS t → ∀ d,d + size t ≤ 1000 → (txt (itS d t)).length + 1500 ≤ 5000 * size t
 | _,.lt s e hs h,d,hd => by
  rw [itS_let,size,sizes,sizes]
  simp only [List.cons_append]
  rw [txt_w,txt_sp,txt_n,txt_sp,txt_s,txt_sp]
  simp only [List.length_append,List.length_cons,List.length_nil]
  have := len_end h
  have := name_len hs
  omega
 | _,.set s e hs h,d,hd => by
  rw [itS_set,size,sizes,sizes]
  simp only [List.cons_append]
  rw [txt_n,txt_sp,txt_s,txt_sp]
  simp only [List.length_append,List.length_cons,List.length_nil]
  have := len_end h
  have := name_len hs
  omega
 | _,.if1 e b h hb,d,hd => by
  rw [size,sizes,sizes,sizes] at hd
  have h1 := len_oE h 1
  have h2 := len_B hb d (by omega)
  rw [itS_if1,size,sizes,sizes,sizes]
  simp only [List.cons_append]
  rw [txt_w,txt_sp,txt_app,txt_sp]
  simp only [List.length_append,List.length_cons,List.length_nil]
  omega
 | _,.if2 e b f h hb hf,d,hd => by
  rw [size,sizes,sizes,sizes,sizes] at hd
  have h1 := len_oE h 1
  have h2 := len_B hb d (by omega)
  have h3 := len_B hf d (by omega)
  rw [itS_if2,size,sizes,sizes,sizes,sizes]
  simp only [List.cons_append,List.append_assoc]
  rw [txt_w,txt_sp,txt_app,txt_sp,txt_app,txt_sp,txt_w,txt_sp]
  simp only [List.length_append,List.length_cons,List.length_nil]
  omega
 | _,.wh e b h hb,d,hd => by
  rw [size,sizes,sizes,sizes] at hd
  have h1 := len_oE h 1
  have h2 := len_B hb d (by omega)
  rw [itS_wh,size,sizes,sizes,sizes]
  simp only [List.cons_append]
  rw [txt_w,txt_sp,txt_app,txt_sp]
  simp only [List.length_append,List.length_cons,List.length_nil]
  omega
 | _,.ret e h,d,hd => by
  rw [itS_ret,size,sizes,sizes]
  simp only [List.cons_append]
  rw [txt_w,txt_sp]
  simp only [List.length_append,List.length_cons,List.length_nil]
  have := len_end h
  omega
 | _,.drop e h,d,hd => by
  rw [itS_do,size,sizes,sizes]
  have := len_end h
  omega
theorem len_B : ∀ {t : T},GdB t → ∀ d,d + size t ≤ 1000 → (txt (itB d t)).length + 1500 ≤ 5000 * size t
 | _,.blk ts h,d,hd => by
  rw [size] at hd
  have := len_L h (d + 1) (by omega)
  rw [itB_eq,size]
  simp only [List.cons_append,List.append_assoc]
  rw [txt_s,txt_gap,txt_app,txt_app]
  simp only [List.length_append,List.length_cons,List.length_nil,len_tabs]
  have : (txt [sI [125]]).length = 1 := rfl
  omega
theorem len_L : ∀ {ts : Ts},GdSs ts → ∀ d,d + sizes ts ≤ 1000 → (txt (lines d ts)).length ≤ 5000 * sizes ts
 | _,.nil,d,hd => by rw [lines_nil]; exact Nat.zero_le _
 | _,.cons t r h hr,d,hd => by
  rw [sizes] at hd
  have h1 := len_S h d (by omega)
  have h2 := len_L hr d (by omega)
  rw [lines_cons,sizes,List.append_assoc,txt_app,txt_app,txt_gap]
  simp only [List.length_append,List.length_cons,len_tabs]
  omega
end
theorem names_len : ∀ (ps : List Txt),(∀ p ∈ ps,nameB p = true) → (txt (sep (ps.map fun s => [nI s]))).length ≤ 404 * ps.length
 | [],_ => Nat.le_refl _
 | [p],h => by
  have := name_len (h p (List.mem_cons_self ..))
  show (txt [nI p]).length ≤ _
  rw [txt_n,List.length_append,txt_nil,List.length_cons,List.length_nil,List.length_nil]
  omega
 | p :: q :: r,h => by
  have h1 := name_len (h p (List.mem_cons_self ..))
  have ih := names_len (q :: r) (fun x hx => h x (List.mem_cons_of_mem _ hx))
  rw [names_cons,names_cons,sep_cons,← names_cons,List.cons_append,List.nil_append,txt_n,txt_s,txt_sp]
  simp only [List.length_append,List.length_cons,List.length_nil] at ih ⊢
  omega
theorem len_F {f : Fu} (h : goodFu f) (hp : f.params.length ≤ 8) (hs : size f.body ≤ 1000) : (txt (itF f)).length ≤ 5000 * size f.body + 5000 := by
 have hb := len_B (good_body h) 0 (by omega)
 obtain ⟨-,-,hn,hps⟩ := h
 have h1 := name_len hn
 have h2 := names_len f.params hps
 unfold itF
 simp only [List.cons_append,List.append_assoc]
 rw [txt_w,txt_sp,txt_n,txt_s,txt_app,txt_s,txt_sp,txt_app,txt_gap,txt_nil]
 simp only [List.length_append,List.length_cons,List.length_nil]
 omega
theorem len_W : ∀ (fs : List Fu),(∀ f ∈ fs,goodFu f ∧ f.params.length ≤ 8 ∧ size f.body ≤ 1000) → (txt (itW fs)).length ≤ 5000 * sizeF fs + 5000 * fs.length
 | [],_ => Nat.zero_le _
 | f :: fs,h => by
  have h1 := h f (List.mem_cons_self ..)
  have h2 := len_F h1.1 h1.2.1 h1.2.2
  have ih := len_W fs (fun g hg => h g (List.mem_cons_of_mem _ hg))
  show (txt (itF f ++ itW fs)).length ≤ _
  rw [txt_app,List.length_append,sizeF,List.length_cons]
  omega
theorem size_mem : ∀ (fs : List Fu) (f : Fu),f ∈ fs → size f.body ≤ sizeF fs
 | g :: fs,f,h => by
  rw [sizeF]
  rcases List.mem_cons.1 h with rfl | h
  ·omega
  ·have := size_mem fs f h
   omega
end Syn
end Go.Proofs.YtcapkeaedpabjaaGreatDoor
