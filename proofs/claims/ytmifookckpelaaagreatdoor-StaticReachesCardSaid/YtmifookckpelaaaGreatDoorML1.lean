/-
  Layer 8, texts merged: StA, StB, StC, StD, SuA, SuB, SuC, StE, SuD. For every argument within the bounds that each theorem names.
-/
import Derived.Test.YtmifookckpelaaaGreatDoorMK1
import Derived.Test.YtmifookckpelaaaGreatDoorMG4
import Derived.Test.YtmifookckpelaaaGreatDoorMN1
import Derived.Test.YtmifookckpelaaaGreatDoorMF1
import Derived.Maps.OwnSet
import Derived.Maps.OwnOps

/-
 Layer 9, plainly: the variables of a program and their slots.
-/
namespace Go.Proofs.YtmifookckpelaaaGreatDoor
namespace Syn
/-- What is visible, and how many variables there were. -/
structure Sc where
 vis : Txt → Option Nat
 cnt : Nat
def Sc.add (s : Sc) (nm : Txt) : Sc := ⟨fun x => if x = nm then some s.cnt else s.vis x, s.cnt + 1⟩
def Sc.del (s : Sc) (nm : Txt) : Sc := ⟨fun x => if x = nm then none else s.vis x, s.cnt⟩
def sc0 (ps : List Txt) : Sc := ps.foldl Sc.add ⟨fun _ => none, 0⟩
def leaveP (L : List Nd) (s : Sc) (kids : List Int) : Sc := kids.foldl (fun s z => match L[z.toNat]? with | some x => if x.k = 13 then s.del x.s else s | none => s) s
/-- The number of arguments of a call's target, -1: there is none. -/
def argE (m w : Int) : Int := if w < 0 then 4 else if m = w then 0 else 7
def visP (L : List Nd) (W : Nd → Int) (s : Sc) (x : Nd) : Sc × Int × Int :=
 if x.k = 5 ∨ x.k = 14 then (match s.vis x.s with | some n => (s, (n : Int), 0) | none => (s, -1, 4))
 else if x.k = 13 then (match s.vis x.s with | some _ => (s, -1, 6) | none => if s.cnt = 32 then (s, -1, 3) else (s.add x.s, (s.cnt : Int), 0))
 else if x.k = 11 ∨ x.k = 12 then (s, -1, argE x.kids.length (W x))
 else if x.k = 19 then (leaveP L s x.kids, -1, 0)
 else (s, -1, 0)
def runN (L : List Nd) (W : Nd → Int) : List Nd → Nat → Sc → List Int → (Sc × List Int) ⊕ (Int × Int)
 | [], _, s, sl => .inl (s, sl)
 | x :: r, i, s, sl => if (visP L W s x).2.2 = 0 then runN L W r (i + 1) (visP L W s x).1 (sl ++ [(visP L W s x).2.1]) else .inr ((i : Int), (visP L W s x).2.2)
structure Rs where
 sl : List Int
 lo : List Int
 pos : Int
 er : Int
def runF (L : List Nd) (W : Nd → Int) : List Fw → Nat → List Int → List Int → Rs
 | [], _, sl, lo => ⟨sl, lo, 0, 0⟩
 | f :: r, low, sl, lo => match runN L W ((L.drop low).take (f.body.toNat + 1 - low)) low (sc0 f.params) sl with
  | .inl q => runF L W r (f.body.toNat + 1) q.2 (lo ++ [(q.1.cnt : Int)])
  | .inr q => ⟨[], [], q.1, q.2⟩
def letAt (L : List Nd) (j : Nat) : Prop := ∃ x, L[j]? = some x ∧ x.k = 13
/-- Is the slot of the node k right, of a function with these parameters whose first node is low? -/
def RightAt (L : List Nd) (ps : List Txt) (sl : List Int) (low k : Nat) (n : Int) : Prop :=
 ∃ x v, L[k]? = some x ∧ sl[k]? = some v ∧ (x.k ≠ 5 → x.k ≠ 13 → x.k ≠ 14 → v = -1) ∧
  (x.k = 5 ∨ x.k = 13 ∨ x.k = 14 → 0 ≤ v ∧ v < n) ∧
  (x.k = 13 → (ps.length : Int) ≤ v ∧ ∀ j, low ≤ j → j < k → letAt L j → sl[j]? ≠ some v) ∧
  (x.k = 5 ∨ x.k = 14 → (v < (ps.length : Int) → ps[v.toNat]? = some x.s) ∧ ((ps.length : Int) ≤ v → ∃ j y, low ≤ j ∧ j < k ∧ L[j]? = some y ∧ y.k = 13 ∧ sl[j]? = some v ∧ y.s = x.s))
structure OkSc (L : List Nd) (ps : List Txt) (sl : List Int) (low : Nat) (s : Sc) : Prop where
 np : ps.length ≤ s.cnt
 vis : ∀ nm n, s.vis nm = some n → n < s.cnt ∧ (n < ps.length → ps[n]? = some nm) ∧ (ps.length ≤ n → ∃ j y, low ≤ j ∧ j < sl.length ∧ L[j]? = some y ∧ y.k = 13 ∧ sl[j]? = some (n : Int) ∧ y.s = nm)
 rgt : ∀ k, low ≤ k → k < sl.length → RightAt L ps sl low k (s.cnt : Int)
theorem at_app {sl : List Int} {k : Nat} (h : k < sl.length) (r : List Int) : (sl ++ r)[k]? = sl[k]? := List.getElem?_append_left h
theorem RightAt.app {L : List Nd} {ps : List Txt} {sl : List Int} {low k : Nat} {n m : Int} (r : List Int) (h : RightAt L ps sl low k n) (hm : n ≤ m) : RightAt L ps (sl ++ r) low k m := by
 obtain ⟨x, v, h1, h2, h3, h4, h5, h6⟩ := h
 have hk : k < sl.length := (List.getElem?_eq_some_iff.1 h2).1
 refine ⟨x, v, h1, by rw [at_app hk]; exact h2, h3, fun q => ⟨(h4 q).1, by have := (h4 q).2; omega⟩, fun q => ⟨(h5 q).1, fun j a b c => by rw [at_app (by omega)]; exact (h5 q).2 j a b c⟩, fun q => ⟨(h6 q).1, fun w => ?_⟩⟩
 obtain ⟨j, y, a, b, c, d, e, f⟩ := (h6 q).2 w
 exact ⟨j, y, a, b, c, d, by rw [at_app (by omega)]; exact e, f⟩
theorem OkSc.app {L : List Nd} {ps : List Txt} {sl : List Int} {low : Nat} {s : Sc} {v : Int} (h : OkSc L ps sl low s) (hr : low ≤ sl.length → RightAt L ps (sl ++ [v]) low sl.length (s.cnt : Int)) : OkSc L ps (sl ++ [v]) low s := by
 refine ⟨h.np, fun nm n e => ?_, fun k a b => ?_⟩
 ·obtain ⟨h1, h2, h3⟩ := h.vis nm n e
  refine ⟨h1, h2, fun q => ?_⟩
  obtain ⟨j, y, a, b, c, d, e, f⟩ := h3 q
  exact ⟨j, y, a, by rw [List.length_append]; omega, c, d, by rw [at_app (by omega)]; exact e, f⟩
 ·by_cases hk : k < sl.length
  ·exact (h.rgt k a hk).app [v] (by omega)
  ·rw [List.length_append, List.length_singleton] at b
   obtain rfl : k = sl.length := by omega
   exact hr a
theorem leave_ok {L : List Nd} {ps : List Txt} {sl : List Int} {low : Nat} : ∀ (kids : List Int) (s : Sc), OkSc L ps sl low s → OkSc L ps sl low (leaveP L s kids) ∧ (leaveP L s kids).cnt = s.cnt
 | [], s, h => ⟨h, rfl⟩
 | z :: r, s, h => by
  unfold leaveP
  rw [List.foldl_cons]
  have hd : ∀ nm, OkSc L ps sl low (s.del nm) := fun nm => ⟨h.np, fun m n e => by
   unfold Sc.del at e
   simp only at e
   split at e
   ·cases e
   ·exact h.vis m n e, h.rgt⟩
  cases e : L[z.toNat]? with
  | none => exact leave_ok r s h
  | some x =>
   simp only
   split
   ·exact leave_ok r (s.del x.s) (hd _)
   ·exact leave_ok r s h
theorem last_get (sl : List Int) (v : Int) : (sl ++ [v])[sl.length]? = some v := by simp
theorem vis_ok {L : List Nd} {W : Nd → Int} {ps : List Txt} {sl : List Int} {low : Nat} {s : Sc} {x : Nd} (h : OkSc L ps sl low s) (hx : L[sl.length]? = some x) (hl : low ≤ sl.length) (he : (visP L W s x).2.2 = 0) :
  OkSc L ps (sl ++ [(visP L W s x).2.1]) low (visP L W s x).1 ∧ s.cnt ≤ (visP L W s x).1.cnt := by
 have plain : ∀ s' : Sc, OkSc L ps sl low s' → s'.cnt = s.cnt → x.k ≠ 5 → x.k ≠ 13 → x.k ≠ 14 → OkSc L ps (sl ++ [-1]) low s' ∧ s.cnt ≤ s'.cnt := fun s' h' e a b c => by
  refine ⟨h'.app fun _ => ⟨x, -1, hx, last_get _ _, fun _ _ _ => rfl, fun q => ?_, fun q => absurd q b, fun q => ?_⟩, by omega⟩
  ·rcases q with q | q | q
   ·exact absurd q a
   ·exact absurd q b
   ·exact absurd q c
  ·rcases q with q | q
   ·exact absurd q a
   ·exact absurd q c
 unfold visP at he ⊢
 by_cases h1 : x.k = 5 ∨ x.k = 14
 ·rw [if_pos h1] at he ⊢
  cases e : s.vis x.s with
  | none => rw [e] at he; cases he
  | some n =>
   simp only
   obtain ⟨a1, a2, a3⟩ := h.vis _ _ e
   refine ⟨h.app fun _ => ⟨x, n, hx, last_get _ _, fun q1 q2 q3 => ?_, fun _ => ⟨by omega, by omega⟩, fun q => ?_, fun _ => ⟨fun q => ?_, fun q => ?_⟩⟩, Nat.le_refl _⟩
   ·rcases h1 with q | q
    ·exact absurd q q1
    ·exact absurd q q3
   ·rcases h1 with r | r <;> rw [q] at r <;> exact absurd r (by decide)
   ·rw [Int.toNat_natCast]; exact a2 (by omega)
   ·obtain ⟨j, y, b1, b2, b3, b4, b5, b6⟩ := a3 (by omega)
    exact ⟨j, y, b1, b2, b3, b4, by rw [at_app b2]; exact b5, b6⟩
 ·rw [if_neg h1] at he ⊢
  by_cases h2 : x.k = 13
  ·rw [if_pos h2] at he ⊢
   cases e : s.vis x.s with
   | some n => rw [e] at he; cases he
   | none =>
    simp only
    rw [e] at he
    simp only at he
    split at he
    ·cases he
    ·rename_i hc
     rw [if_neg hc]
     refine ⟨⟨by have := h.np; unfold Sc.add; simp only; omega, fun nm n q => ?_, fun k a b => ?_⟩, by unfold Sc.add; simp only; omega⟩
     ·unfold Sc.add at q ⊢
      simp only at q ⊢
      split at q
      ·rename_i hnm
       obtain rfl := Option.some.inj q
       have := h.np
       refine ⟨by omega, fun q => by omega, fun _ => ⟨sl.length, x, hl, by rw [List.length_append]; simp, hx, h2, last_get _ _, hnm.symm⟩⟩
      ·obtain ⟨a1, a2, a3⟩ := h.vis _ _ q
       refine ⟨by omega, a2, fun q => ?_⟩
       obtain ⟨j, y, b1, b2, b3, b4, b5, b6⟩ := a3 q
       exact ⟨j, y, b1, by rw [List.length_append]; omega, b3, b4, by rw [at_app b2]; exact b5, b6⟩
     ·unfold Sc.add
      simp only
      by_cases hk : k < sl.length
      ·exact (h.rgt k a hk).app _ (by omega)
      ·rw [List.length_append, List.length_singleton] at b
       obtain rfl : k = sl.length := by omega
       have := h.np
       refine ⟨x, s.cnt, hx, last_get _ _, fun _ q _ => absurd h2 q, fun _ => ⟨by omega, by omega⟩, fun _ => ⟨by omega, fun j a b c => ?_⟩, fun q => absurd q h1⟩
       obtain ⟨y, c1, c2⟩ := c
       obtain ⟨y', v, d1, d2, d3, d4, d5, d6⟩ := h.rgt j a b
       obtain rfl := Option.some.inj (c1.symm.trans d1)
       rw [at_app b, d2]
       have := (d4 (Or.inr (Or.inl c2))).2
       intro q
       obtain rfl := Option.some.inj q
       omega
  ·rw [if_neg h2] at he ⊢
   have n5 : x.k ≠ 5 := fun q => h1 (Or.inl q)
   have n14 : x.k ≠ 14 := fun q => h1 (Or.inr q)
   split
   ·exact plain s h rfl n5 h2 n14
   ·split
    ·obtain ⟨l1, l2⟩ := leave_ok (L := L) x.kids s h
     exact plain _ l1 l2 n5 h2 n14
    ·exact plain s h rfl n5 h2 n14
theorem runN_ok {L : List Nd} {W : Nd → Int} {ps : List Txt} {low : Nat} : ∀ (r : List Nd) (s : Sc) (sl : List Int) (q : Sc × List Int), OkSc L ps sl low s → low ≤ sl.length → (∃ T, L.drop sl.length = r ++ T) → runN L W r sl.length s sl = .inl q →
  OkSc L ps q.2 low q.1 ∧ q.2.length = sl.length + r.length ∧ ∃ D, q.2 = sl ++ D
 | [], s, sl, q, h, _, _, e => by
  rw [runN] at e
  obtain rfl := Sum.inl.inj e
  exact ⟨h, rfl, [], (List.append_nil _).symm⟩
 | x :: r, s, sl, q, h, hl, ⟨T, hT⟩, e => by
  rw [runN] at e
  split at e
  ·rename_i he
   have hx : L[sl.length]? = some x := by
    have := congrArg (fun l => l[0]?) hT
    simpa using this
   obtain ⟨h1, h2⟩ := vis_ok (W := W) h hx hl he
   have hn : (sl ++ [(visP L W s x).2.1]).length = sl.length + 1 := by simp
   obtain ⟨k1, k2, D, k3⟩ := runN_ok r _ _ q h1 (by omega) ⟨T, by
    rw [hn, ← List.drop_drop, hT]; rfl⟩ (by rw [hn]; exact e)
   exact ⟨k1, by rw [k2, hn, List.length_cons]; omega, [(visP L W s x).2.1] ++ D, by rw [k3, List.append_assoc]⟩
  ·cases e
theorem runN_er {L : List Nd} {W : Nd → Int} : ∀ (r : List Nd) (i : Nat) (s : Sc) (sl : List Int) (q : Int × Int), runN L W r i s sl = .inr q → q.2 ≠ 0
 | [], i, s, sl, q, e => by rw [runN] at e; cases e
 | x :: r, i, s, sl, q, e => by
  rw [runN] at e
  split at e
  ·exact runN_er r _ _ _ q e
  ·rename_i h
   obtain rfl := Sum.inr.inj e
   exact h
theorem fold_cnt : ∀ (ps : List Txt) (s : Sc), (ps.foldl Sc.add s).cnt = s.cnt + ps.length
 | [], s => rfl
 | p :: ps, s => by rw [List.foldl_cons, fold_cnt ps, Sc.add, List.length_cons]; simp only; omega
theorem fold_vis : ∀ (ps : List Txt) (s : Sc) (nm : Txt) (n : Nat), (ps.foldl Sc.add s).vis nm = some n → s.vis nm = some n ∨ (s.cnt ≤ n ∧ n < s.cnt + ps.length ∧ ps[n - s.cnt]? = some nm)
 | [], s, nm, n, h => Or.inl h
 | p :: ps, s, nm, n, h => by
  rw [List.foldl_cons] at h
  rcases fold_vis ps _ nm n h with q | ⟨q1, q2, q3⟩
  ·unfold Sc.add at q
   simp only at q
   split at q
   ·rename_i e
    obtain rfl := Option.some.inj q
    refine Or.inr ⟨Nat.le_refl _, by rw [List.length_cons]; omega, ?_⟩
    rw [Nat.sub_self, e]
    rfl
   ·exact Or.inl q
  ·unfold Sc.add at q1 q2 q3
   simp only at q1 q2 q3
   refine Or.inr ⟨by omega, by rw [List.length_cons]; omega, ?_⟩
   rw [show n - s.cnt = n - (s.cnt + 1) + 1 by omega, List.getElem?_cons_succ]
   exact q3
theorem sc0_cnt (ps : List Txt) : (sc0 ps).cnt = ps.length := by unfold sc0; rw [fold_cnt]; simp
theorem sc0_vis (ps : List Txt) : ∀ nm n, (sc0 ps).vis nm = some n → n < ps.length ∧ ps[n]? = some nm := fun nm n h => by
 rcases fold_vis ps _ nm n h with q | ⟨_, q2, q3⟩
 ·cases q
 ·exact ⟨by simpa using q2, by simpa using q3⟩
theorem sc0_ok (L : List Nd) (ps : List Txt) (sl : List Int) : OkSc L ps sl sl.length (sc0 ps) :=
 ⟨by rw [sc0_cnt]; exact Nat.le_refl _, fun nm n h => by
  obtain ⟨h1, h2⟩ := sc0_vis ps nm n h
  exact ⟨by rw [sc0_cnt]; exact h1, fun _ => h2, fun q => by omega⟩, fun k a b => by omega⟩
/-- All slots of functions from a node on are right. -/
def AllRight (L : List Nd) (sl : List Int) : Nat → List Fw → List Int → Prop
 | _, [], [] => True
 | low, f :: F, n :: lo => (f.params.length : Int) ≤ n ∧ (∀ k, low ≤ k → k ≤ f.body.toNat → RightAt L f.params sl low k n) ∧ AllRight L sl (f.body.toNat + 1) F lo
 | _, _, _ => False
/-- Bodies ascend and are nodes. -/
def Asc (n : Nat) : Nat → List Fw → Prop
 | low, [] => low = n
 | low, f :: F => (low : Int) ≤ f.body ∧ f.body < (n : Int) ∧ Asc n (f.body.toNat + 1) F
theorem runF_ok {L : List Nd} {W : Nd → Int} : ∀ (F : List Fw) (sl lo : List Int) (R : Rs), Asc L.length sl.length F → runF L W F sl.length sl lo = R → R.er = 0 →
  R.sl.length = L.length ∧ (∃ D, R.sl = sl ++ D) ∧ ∃ E, R.lo = lo ++ E ∧ AllRight L R.sl sl.length F E ∧ R.pos = 0
 | [], sl, lo, R, hA, h, he => by
  rw [runF] at h
  subst h
  exact ⟨hA, ⟨[], (List.append_nil _).symm⟩, [], (List.append_nil _).symm, trivial, rfl⟩
 | f :: F, sl, lo, R, hA, h, he => by
  rw [runF] at h
  obtain ⟨a1, a2, a3⟩ := hA
  cases e : runN L W ((L.drop sl.length).take (f.body.toNat + 1 - sl.length)) sl.length (sc0 f.params) sl with
  | inr q =>
   rw [e] at h
   subst h
   exact absurd he (runN_er _ _ _ _ _ e)
  | inl q =>
   rw [e] at h
   simp only at h
   obtain ⟨k1, k2, D, k3⟩ := runN_ok _ _ sl q (sc0_ok L f.params sl) (Nat.le_refl _) ⟨_, (List.take_append_drop _ _).symm⟩ e
   rw [List.length_take, List.length_drop] at k2
   have hq : f.body.toNat + 1 = q.2.length := by omega
   rw [hq] at h a3
   obtain ⟨b1, ⟨D2, b2⟩, E, b3, b4, b5⟩ := runF_ok F q.2 _ R a3 h he
   refine ⟨b1, ⟨D ++ D2, by rw [b2, k3, List.append_assoc]⟩, (q.1.cnt : Int) :: E, by rw [b3, List.append_assoc]; rfl, ⟨by have := k1.np; omega, fun k c d => ?_, by rw [hq]; exact b4⟩, b5⟩
   rw [b2]
   exact (k1.rgt k c (by omega)).app D2 (Int.le_refl _)
end Syn
end Go.Proofs.YtmifookckpelaaaGreatDoor

/-
 Layer 9, plainly: what resolve answers; functions that are reached.
-/
namespace Go.Proofs.YtmifookckpelaaaGreatDoor
namespace Syn
/-- Is a name there twice? -/
def twiceB (l : List Txt) : Bool := decide ((Idn.srt l).length < l.length)
def findI (F : List Fw) (s : Txt) : Int := fixI (fun f => decide (f.name = s)) 0 F
/-- A built-in function's number of arguments. -/
def bltI (s : Txt) : Int :=
 if s = [108, 101, 110] ∨ s = [115, 116, 114] ∨ s = [105, 110, 116] ∨ s = [107, 101, 121, 115] ∨ s = [102, 97, 105, 108] then 1
 else if s = [112, 117, 115, 104] ∨ s = [104, 97, 115] then 2 else if s = [112, 117, 116] then 3 else -1
/-- A host operation's number of arguments. -/
def hstI (s : Txt) : Int :=
 if s = [110, 111, 119] then 0 else if s = [103, 101, 116] ∨ s = [100, 101, 108, 101, 116, 101] ∨ s = [115, 101, 99, 114, 101, 116] ∨ s = [108, 111, 103] then 1
 else if s = [112, 117, 116] ∨ s = [115, 101, 110, 100] ∨ s = [115, 105, 103, 110, 97, 108] ∨ s = [102, 101, 116, 99, 104] then 2 else if s = [116, 105, 109, 101, 114] then 3 else -1
def parI (F : List Fw) (s : Txt) : Int := if 0 ≤ findI F s then (match F[(findI F s).toNat]? with | some f => (f.params.length : Int) | none => 0) else bltI s
def wantI (F : List Fw) (x : Nd) : Int := if x.k = 12 then hstI x.s else parI F x.s
/-- The body of the first function whose name or parameters are there already. -/
def dupF (F0 : List Fw) : Nat → List Fw → Option Int
 | _, [] => none
 | i, f :: r => if 0 ≤ bltI f.name ∨ findI F0 f.name < (i : Int) ∨ twiceB f.params = true then some f.body else dupF F0 (i + 1) r
def mainT : Txt := [109, 97, 105, 110]
def mainE (F : List Fw) : Option (Int × Int) :=
 if findI F mainT < 0 then some (-1, 5) else match F[(findI F mainT).toNat]? with | some f => if f.params.length = 1 then none else some (f.body, 7) | none => none
def resG (L : List Nd) (F : List Fw) : Rs :=
 if chkE L F ≠ 0 then ⟨[], [], -1, chkE L F⟩ else match dupF F 0 F with
 | some b => ⟨[], [], b, 6⟩
 | none => match mainE F with
  | some q => ⟨[], [], q.1, q.2⟩
  | none => runF L (wantI F) F 0 [] []
theorem asc_func : ∀ (fs : List Fu) (low : Nat), Asc (low + sizeF fs) low (funcF low fs)
 | [], low => by rw [funcF, Asc, sizeF]; rfl
 | f :: fs, low => by
  have hp := size_pos f.body
  rw [funcF, Asc, sizeF]
  refine ⟨by simp only; omega, by simp only; omega, ?_⟩
  simp only
  have := asc_func fs (low + size f.body)
  rw [show ((low + size f.body - 1 : Nat) : Int).toNat + 1 = low + size f.body by omega, ← Nat.add_assoc]
  exact this
theorem asc_chk {L : List Nd} {F : List Fw} (h : chkE L F = 0) : Asc L.length 0 F := by
 have hp : properB L F = true := by
  unfold chkE at h
  split at h
  ·cases h
  ·split at h
   ·cases h
   ·rename_i h2
    simpa using h2
 obtain ⟨fs, rfl, rfl, _⟩ := proper_good hp
 have := asc_func fs 0
 rw [Nat.zero_add] at this
 rw [flatF_len]
 exact this
theorem res_ok {L : List Nd} {F : List Fw} (h : (resG L F).er = 0) : (resG L F).sl.length = L.length ∧ AllRight L (resG L F).sl 0 F (resG L F).lo ∧ (resG L F).pos = 0 ∧ chkE L F = 0 ∧ dupF F 0 F = none ∧ mainE F = none := by
 unfold resG at h ⊢
 split at h
 ·rename_i hc
  exact absurd h hc
 ·rename_i hc
  have hc : chkE L F = 0 := by simpa using hc
  rw [if_neg (by simpa using hc)]
  cases e : dupF F 0 F with
  | some b => rw [e] at h; cases h
  | none =>
   rw [e] at h
   simp only at h ⊢
   cases e2 : mainE F with
   | some q =>
    rw [e2] at h
    simp only at h
    unfold mainE at e2
    split at e2
    ·obtain rfl := Option.some.inj e2
     cases h
    ·split at e2
     ·split at e2
      ·cases e2
      ·obtain rfl := Option.some.inj e2
       cases h
     ·cases e2
   | none =>
    rw [e2] at h
    simp only at h ⊢
    obtain ⟨k1, _, E, k3, k4, k5⟩ := runF_ok F [] [] _ (asc_chk hc) rfl h
    refine ⟨k1, ?_, k5, hc, trivial, trivial⟩
    rw [List.nil_append] at k3
    have k3 : (runF L (wantI F) F 0 [] []).lo = E := k3
    rw [k3]
    exact k4
/-- One more function's callees. -/
def addC (l : List Int) (f : Int) : List Int := if l.contains f then l else l ++ [f]
def reachG (C : Int → List Int) : Nat → Nat → List Int → List Int
 | 0, _, l => l
 | n + 1, i, l => match l[i]? with
  | some f => reachG C n (i + 1) ((C f).foldl addC l)
  | none => l
structure OkR (n : Nat) (l : List Int) : Prop where
 nd : l.Nodup
 bd : ∀ x ∈ l, 0 ≤ x ∧ x < (n : Int)
theorem OkR.add {n : Nat} {l : List Int} (h : OkR n l) {f : Int} (hf : 0 ≤ f ∧ f < (n : Int)) : OkR n (addC l f) := by
 unfold addC
 split
 ·exact h
 ·rename_i hc
  refine ⟨?_, fun x hx => ?_⟩
  ·rw [List.nodup_append]
   refine ⟨h.nd, by simp, fun a ha b hb e => ?_⟩
   rw [List.mem_singleton.1 hb] at e
   rw [e] at ha
   exact hc (by simpa using ha)
  ·rcases List.mem_append.1 hx with q | q
   ·exact h.bd x q
   ·rw [List.mem_singleton.1 q]; exact hf
theorem addC_keep (l : List Int) (f : Int) : (∃ D, addC l f = l ++ D) ∧ f ∈ addC l f := by
 unfold addC
 split
 ·rename_i h
  exact ⟨⟨[], (List.append_nil _).symm⟩, by simpa using h⟩
 ·exact ⟨⟨[f], rfl⟩, by simp⟩
theorem fold_add {n : Nat} : ∀ (c l : List Int), OkR n l → (∀ x ∈ c, 0 ≤ x ∧ x < (n : Int)) → OkR n (c.foldl addC l) ∧ (∃ D, c.foldl addC l = l ++ D) ∧ ∀ x ∈ c, x ∈ c.foldl addC l
 | [], l, h, _ => ⟨h, ⟨[], (List.append_nil _).symm⟩, fun x hx => by cases hx⟩
 | f :: c, l, h, hc => by
  rw [List.foldl_cons]
  obtain ⟨⟨D, d1⟩, d2⟩ := addC_keep l f
  obtain ⟨k1, ⟨E, k2⟩, k3⟩ := fold_add c (addC l f) (h.add (hc f (List.mem_cons_self ..))) (fun x hx => hc x (List.mem_cons_of_mem _ hx))
  refine ⟨k1, ⟨D ++ E, by rw [k2, d1, List.append_assoc]⟩, fun x hx => ?_⟩
  rcases List.mem_cons.1 hx with rfl | hx
  ·rw [k2]; exact List.mem_append_left _ d2
  ·exact k3 x hx
theorem nodup_len : ∀ (n : Nat) (l : List Int), OkR n l → l.length ≤ n
 | 0, l, h => by
  cases l with
  | nil => exact Nat.le_refl _
  | cons x l => have := h.bd x (List.mem_cons_self ..); omega
 | n + 1, l, h => by
  have h2 : OkR n (l.filter fun x => decide (x ≠ (n : Int))) := ⟨h.nd.filter _, fun x hx => by
   rw [List.mem_filter] at hx
   have := h.bd x hx.1
   have h3 : x ≠ (n : Int) := by simpa using hx.2
   omega⟩
  have ih := nodup_len n _ h2
  have : l.length ≤ (l.filter fun x => decide (x ≠ (n : Int))).length + 1 := by
   have hnd := h.nd
   clear ih h2 h
   induction l with
   | nil => simp
   | cons x l ihl =>
    rw [List.nodup_cons] at hnd
    have := ihl hnd.2
    rw [List.filter_cons]
    by_cases hx : x = (n : Int)
    ·rw [if_neg (by simpa using hx)]
     have e : l.filter (fun x => decide (x ≠ (n : Int))) = l := by
      rw [List.filter_eq_self]
      intro y hy
      have : y ≠ (n : Int) := fun q => hnd.1 (by rw [hx, ← q]; exact hy)
      simpa using this
     rw [e, List.length_cons]
     omega
    ·rw [if_pos (by simpa using hx), List.length_cons, List.length_cons]
     omega
  omega
theorem reach_ok {n : Nat} {C : Int → List Int} (hC : ∀ f, ∀ x ∈ C f, 0 ≤ x ∧ x < (n : Int)) : ∀ (u i : Nat) (l : List Int), OkR n l → n ≤ i + u → i ≤ l.length → (∀ j f, j < i → l[j]? = some f → ∀ x ∈ C f, x ∈ l) →
  OkR n (reachG C u i l) ∧ (∃ D, reachG C u i l = l ++ D) ∧ ∀ f ∈ reachG C u i l, ∀ x ∈ C f, x ∈ reachG C u i l
 | 0, i, l, h, hn, hi, hc => by
  rw [reachG]
  have := nodup_len n l h
  refine ⟨h, ⟨[], (List.append_nil _).symm⟩, fun f hf x hx => ?_⟩
  obtain ⟨j, hj, e⟩ := List.getElem_of_mem hf
  exact hc j f (by omega) (by rw [List.getElem?_eq_getElem hj, e]) x hx
 | u + 1, i, l, h, hn, hi, hc => by
  rw [reachG]
  cases e : l[i]? with
  | none =>
   simp only
   rw [List.getElem?_eq_none_iff] at e
   refine ⟨h, ⟨[], (List.append_nil _).symm⟩, fun f hf x hx => ?_⟩
   obtain ⟨j, hj, e⟩ := List.getElem_of_mem hf
   exact hc j f (by omega) (by rw [List.getElem?_eq_getElem hj, e]) x hx
  | some f =>
   simp only
   obtain ⟨k1, ⟨D, k2⟩, k3⟩ := fold_add (C f) l h (hC f)
   have hil := (List.getElem?_eq_some_iff.1 e).1
   obtain ⟨m1, ⟨E, m2⟩, m3⟩ := reach_ok hC u (i + 1) _ k1 (by omega) (by rw [k2, List.length_append]; omega) (fun j g hj hg x hx => by
    by_cases hji : j = i
    ·subst hji
     rw [k2, List.getElem?_append_left hil, e] at hg
     obtain rfl := Option.some.inj hg
     exact k3 x hx
    ·rw [k2, List.getElem?_append_left (by omega)] at hg
     rw [k2]
     exact List.mem_append_left _ (hc j g (by omega) hg x hx))
   exact ⟨m1, ⟨D ++ E, by rw [m2, k2, List.append_assoc]⟩, m3⟩
end Syn
end Go.Proofs.YtmifookckpelaaaGreatDoor

/-
 Layer 9, plainly: the reference's walk through trees finds what the program's walk through nodes finds.
-/
namespace Go.Proofs.YtmifookckpelaaaGreatDoor
namespace Syn
/-- The reference's walk: names and slots of what is visible, the next slot, the slots of all nodes, the first error and its node. -/
structure Wk where
 nms : List Txt
 sls : List Int
 nx : Nat
 sl : List Int
 nd : Int
 er : Int
def Wk.fail (w : Wk) (i : Nat) (e : Int) : Wk := if w.er = 0 then { w with nd := (i : Int), er := e } else w
def visI : List Txt → List Int → Txt → Int
 | n :: ns, s :: ss, x => if n = x then s else visI ns ss x
 | _, _, _ => -1
def Wk.put (w : Wk) (i : Nat) (v : Int) : Wk := { w with sl := w.sl.set i v }
/-- The slot as Go has it. -/
def outI : Option Nat → Int
 | some n => (n : Int)
 | none => -1
structure Rel (Z : Prop) (N : Nat) (w : Wk) (s : Sc) (slc : List Int) : Prop where
 er : w.er = 0
 ln : w.nms.length = w.sls.length
 nd : w.nms.Nodup
 nx : w.nx = s.cnt
 vis : ∀ x, visI w.nms w.sls x = outI (s.vis x)
 mx : s.cnt ≤ 32
 pos : ∀ z ∈ w.sls, 0 ≤ z
 sl : Z → slc.length ≤ N ∧ w.sl = slc ++ List.replicate (N - slc.length) (-1)
end Syn
end Go.Proofs.YtmifookckpelaaaGreatDoor

/-
 Layer 9, plainly: what the reference's Check answers; names that are there twice.
-/
namespace Go.Proofs.YtmifookckpelaaaGreatDoor
namespace Syn
end Syn
end Go.Proofs.YtmifookckpelaaaGreatDoor

/-
 Layer 9: Builtin and HostOp, as the program and the reference have them.
-/
namespace Go.Proofs.YtmifookckpelaaaGreatDoor
open Go.RowKit Go.ChangeShapes Go.WideShapes
namespace Syn
/-- A number and whether it is known. -/
def okN (n : Int) : Value := .tuple #[.int .i64 (if n < 0 then 0 else n), .bool (decide (0 ≤ n))]
set_option maxRecDepth 100000 in
set_option maxHeartbeats 2000000 in
theorem blt_any (s : Txt) (w : World) : Calls Tryz.prog 41 #[.string ⟨s.toArray⟩] w fun e w' => e = .returned (okN (bltI s)) ∧ w' = w := by
 by_cases h0 : s = [108, 101, 110]
 ·subst h0
  rw [show okN (bltI [108, 101, 110]) = .tuple #[.int .i64 1, .bool true] from rfl]
  go_enter Tryz.func41, Tryz.ntmps41
  go_wp2
  go_ret2
  exact ⟨rfl, rfl⟩
 by_cases h1 : s = [115, 116, 114]
 ·subst h1
  rw [show okN (bltI [115, 116, 114]) = .tuple #[.int .i64 1, .bool true] from rfl]
  go_enter Tryz.func41, Tryz.ntmps41
  go_wp2
  go_ret2
  exact ⟨rfl, rfl⟩
 by_cases h2 : s = [105, 110, 116]
 ·subst h2
  rw [show okN (bltI [105, 110, 116]) = .tuple #[.int .i64 1, .bool true] from rfl]
  go_enter Tryz.func41, Tryz.ntmps41
  go_wp2
  go_ret2
  exact ⟨rfl, rfl⟩
 by_cases h3 : s = [107, 101, 121, 115]
 ·subst h3
  rw [show okN (bltI [107, 101, 121, 115]) = .tuple #[.int .i64 1, .bool true] from rfl]
  go_enter Tryz.func41, Tryz.ntmps41
  go_wp2
  go_ret2
  exact ⟨rfl, rfl⟩
 by_cases h4 : s = [102, 97, 105, 108]
 ·subst h4
  rw [show okN (bltI [102, 97, 105, 108]) = .tuple #[.int .i64 1, .bool true] from rfl]
  go_enter Tryz.func41, Tryz.ntmps41
  go_wp2
  go_ret2
  exact ⟨rfl, rfl⟩
 by_cases h5 : s = [112, 117, 115, 104]
 ·subst h5
  rw [show okN (bltI [112, 117, 115, 104]) = .tuple #[.int .i64 2, .bool true] from rfl]
  go_enter Tryz.func41, Tryz.ntmps41
  go_wp2
  go_ret2
  exact ⟨rfl, rfl⟩
 by_cases h6 : s = [104, 97, 115]
 ·subst h6
  rw [show okN (bltI [104, 97, 115]) = .tuple #[.int .i64 2, .bool true] from rfl]
  go_enter Tryz.func41, Tryz.ntmps41
  go_wp2
  go_ret2
  exact ⟨rfl, rfl⟩
 by_cases h7 : s = [112, 117, 116]
 ·subst h7
  rw [show okN (bltI [112, 117, 116]) = .tuple #[.int .i64 3, .bool true] from rfl]
  go_enter Tryz.func41, Tryz.ntmps41
  go_wp2
  go_ret2
  exact ⟨rfl, rfl⟩
 have b0 : (s == [108, 101, 110]) = false := by simpa using h0
 have b1 : (s == [115, 116, 114]) = false := by simpa using h1
 have b2 : (s == [105, 110, 116]) = false := by simpa using h2
 have b3 : (s == [107, 101, 121, 115]) = false := by simpa using h3
 have b4 : (s == [102, 97, 105, 108]) = false := by simpa using h4
 have b5 : (s == [112, 117, 115, 104]) = false := by simpa using h5
 have b6 : (s == [104, 97, 115]) = false := by simpa using h6
 have b7 : (s == [112, 117, 116]) = false := by simpa using h7
 have e : bltI s = -1 := by
  unfold bltI
  simp [h0, h1, h2, h3, h4, h5, h6, h7]
 rw [e, show okN (-1) = .tuple #[.int .i64 0, .bool false] from rfl]
 clear e
 go_enter Tryz.func41, Tryz.ntmps41
 go_wp2
 go_ret2
 exact ⟨rfl, rfl⟩
set_option maxRecDepth 100000 in
set_option maxHeartbeats 2000000 in
theorem hst_any (s : Txt) (w : World) : Calls Tryz.prog 43 #[.string ⟨s.toArray⟩] w fun e w' => e = .returned (okN (hstI s)) ∧ w' = w := by
 by_cases h0 : s = [110, 111, 119]
 ·subst h0
  rw [show okN (hstI [110, 111, 119]) = .tuple #[.int .i64 0, .bool true] from rfl]
  go_enter Tryz.func43, Tryz.ntmps43
  go_wp2
  go_ret2
  exact ⟨rfl, rfl⟩
 by_cases h1 : s = [103, 101, 116]
 ·subst h1
  rw [show okN (hstI [103, 101, 116]) = .tuple #[.int .i64 1, .bool true] from rfl]
  go_enter Tryz.func43, Tryz.ntmps43
  go_wp2
  go_ret2
  exact ⟨rfl, rfl⟩
 by_cases h2 : s = [100, 101, 108, 101, 116, 101]
 ·subst h2
  rw [show okN (hstI [100, 101, 108, 101, 116, 101]) = .tuple #[.int .i64 1, .bool true] from rfl]
  go_enter Tryz.func43, Tryz.ntmps43
  go_wp2
  go_ret2
  exact ⟨rfl, rfl⟩
 by_cases h3 : s = [115, 101, 99, 114, 101, 116]
 ·subst h3
  rw [show okN (hstI [115, 101, 99, 114, 101, 116]) = .tuple #[.int .i64 1, .bool true] from rfl]
  go_enter Tryz.func43, Tryz.ntmps43
  go_wp2
  go_ret2
  exact ⟨rfl, rfl⟩
 by_cases h4 : s = [108, 111, 103]
 ·subst h4
  rw [show okN (hstI [108, 111, 103]) = .tuple #[.int .i64 1, .bool true] from rfl]
  go_enter Tryz.func43, Tryz.ntmps43
  go_wp2
  go_ret2
  exact ⟨rfl, rfl⟩
 by_cases h5 : s = [112, 117, 116]
 ·subst h5
  rw [show okN (hstI [112, 117, 116]) = .tuple #[.int .i64 2, .bool true] from rfl]
  go_enter Tryz.func43, Tryz.ntmps43
  go_wp2
  go_ret2
  exact ⟨rfl, rfl⟩
 by_cases h6 : s = [115, 101, 110, 100]
 ·subst h6
  rw [show okN (hstI [115, 101, 110, 100]) = .tuple #[.int .i64 2, .bool true] from rfl]
  go_enter Tryz.func43, Tryz.ntmps43
  go_wp2
  go_ret2
  exact ⟨rfl, rfl⟩
 by_cases h7 : s = [115, 105, 103, 110, 97, 108]
 ·subst h7
  rw [show okN (hstI [115, 105, 103, 110, 97, 108]) = .tuple #[.int .i64 2, .bool true] from rfl]
  go_enter Tryz.func43, Tryz.ntmps43
  go_wp2
  go_ret2
  exact ⟨rfl, rfl⟩
 by_cases h8 : s = [102, 101, 116, 99, 104]
 ·subst h8
  rw [show okN (hstI [102, 101, 116, 99, 104]) = .tuple #[.int .i64 2, .bool true] from rfl]
  go_enter Tryz.func43, Tryz.ntmps43
  go_wp2
  go_ret2
  exact ⟨rfl, rfl⟩
 by_cases h9 : s = [116, 105, 109, 101, 114]
 ·subst h9
  rw [show okN (hstI [116, 105, 109, 101, 114]) = .tuple #[.int .i64 3, .bool true] from rfl]
  go_enter Tryz.func43, Tryz.ntmps43
  go_wp2
  go_ret2
  exact ⟨rfl, rfl⟩
 have b0 : (s == [110, 111, 119]) = false := by simpa using h0
 have b1 : (s == [103, 101, 116]) = false := by simpa using h1
 have b2 : (s == [100, 101, 108, 101, 116, 101]) = false := by simpa using h2
 have b3 : (s == [115, 101, 99, 114, 101, 116]) = false := by simpa using h3
 have b4 : (s == [108, 111, 103]) = false := by simpa using h4
 have b5 : (s == [112, 117, 116]) = false := by simpa using h5
 have b6 : (s == [115, 101, 110, 100]) = false := by simpa using h6
 have b7 : (s == [115, 105, 103, 110, 97, 108]) = false := by simpa using h7
 have b8 : (s == [102, 101, 116, 99, 104]) = false := by simpa using h8
 have b9 : (s == [116, 105, 109, 101, 114]) = false := by simpa using h9
 have e : hstI s = -1 := by
  unfold hstI
  simp [h0, h1, h2, h3, h4, h5, h6, h7, h8, h9]
 rw [e, show okN (-1) = .tuple #[.int .i64 0, .bool false] from rfl]
 clear e
 go_enter Tryz.func43, Tryz.ntmps43
 go_wp2
 go_ret2
 exact ⟨rfl, rfl⟩
end Syn
end Go.Proofs.YtmifookckpelaaaGreatDoor

/-
 Layer 9: the scope of a function: a map behind a pointer; add, find, declare.
-/
namespace Go.Proofs.YtmifookckpelaaaGreatDoor
open Go.RowKit Go.ChangeShapes Go.WideShapes Go.Maps
namespace Syn
theorem alloc_szs (w : World) (o : Obj) : (w.alloc o).heap.size = w.heap.size + 1 := by show (w.heap.push o).size = _; simp
theorem mlaw : Keyed Tryz.prog 9 := string_keyed Tryz.underlying9
theorem mzero (w : World) : (zeroValue 3).run Tryz.prog w = .ok (.int .i64 0) w := by kernel_rfl
theorem mkey (s : Txt) (h : s.length ≤ 140737488355328) : keyOf Tryz.prog 9 (.string ⟨s.toArray⟩) = some (.string s) := Go.WideMaps.keyOf_string_mk Tryz.underlying9 (show s.toArray.size ≤ maxLen by unfold maxLen; simp; omega)
/-- What the map holds is what is visible. -/
def View (D : DataW Unit) (s : Sc) : Prop := ∀ nm : Txt, Maps.has D (.string nm) = (s.vis nm).isSome ∧ ∀ n, s.vis nm = some n → D.atKey (.string nm) (.lit (.int .i64 0)) = .lit (.int .i64 (n : Int))
theorem View.empty : View (.map []) ⟨fun _ => none, 0⟩ := fun nm => ⟨rfl, fun n h => by cases h⟩
theorem lit_ne {a b : Txt} (h : a ≠ b) : Lit.string a ≠ Lit.string b := fun e => h (by cases e; rfl)
theorem View.add {D : DataW Unit} {s : Sc} (h : View D s) (hi : IsMap D) (nm : Txt) : View (D.put (.string nm) (.lit (.int .i64 (s.cnt : Int)))) (s.add nm) := fun x => by
 unfold Sc.add
 simp only
 by_cases e : x = nm
 ·rw [if_pos e, e]
  exact ⟨has_put_same hi (show WideAt.IsKeyLit (.string nm) from trivial) _, fun n q => by
   obtain rfl := Option.some.inj q
   exact atKey_put_same hi (show WideAt.IsKeyLit (.string nm) from trivial) _ _⟩
 ·rw [if_neg e, has_put_other (lit_ne e), atKey_put_other (lit_ne e)]
  exact h x
theorem View.del {D : DataW Unit} {s : Sc} (h : View D s) (nm : Txt) : View (D.del (.string nm)) (s.del nm) := fun x => by
 unfold Sc.del
 simp only
 by_cases e : x = nm
 ·rw [if_pos e, e]
  exact ⟨has_del_same, fun n q => by cases q⟩
 ·rw [if_neg e, has_del_other (lit_ne e), atKey_del_other (lit_ne e)]
  exact h x
/-- A scope in memory: its struct, its map. -/
structure ScAt (w : World) (sb mb : Nat) (s : Sc) : Prop where
 c0 : w.cell? ⟨sb, 0, none⟩ = some (.map (some mb))
 c1 : w.cell? ⟨sb, 1, none⟩ = some (.int .i64 (s.cnt : Int))
 f1 : w.frozen? ⟨sb, 1, none⟩ = false
 ne : mb ≠ sb
 map : ∃ D : DataW Unit, w.ownsMap Tryz.prog 9 (plainElem Tryz.prog 3) mb s.cnt D ∧ View D s
/-- The blocks of a scope. -/
def Of (sb mb : Nat) (b : Nat) : Prop := b = sb ∨ b = mb
theorem turn_mod {w w' : World} {mb : Nat} (h : w.mapTurned w' mb) : Mod (fun b => b = mb) w w' := Mod.grown h.grown (fun i e => by cases e; rfl)
theorem mod_froz {F : Nat → Prop} {w w' : World} (h : Mod F w w') {p : Addr} {v : Value} (hc : w.cell? p = some v) (hp : ¬ F p.block) : w'.frozen? p = w.frozen? p := by
 have hb := h.block p.block (World.block_lt_of_cell? w p hc) hp
 unfold World.frozen?
 rw [hb]
theorem ScAt.on {w w' : World} {sb mb : Nat} {s : Sc} {F : Nat → Prop} (h : ScAt w sb mb s) (g : Mod F w w') (h1 : ¬ F sb) (h2 : ¬ F mb) : ScAt w' sb mb s := by
 obtain ⟨D, hD, hv⟩ := h.map
 refine ⟨g.cell h.c0 h1, g.cell h.c1 h1, (mod_froz g h.c1 h1).trans h.f1, h.ne, D, ?_, hv⟩
 have hb := g.block mb hD.lt h2
 unfold World.ownsMap at hD ⊢
 rw [hb]
 exact hD
set_option maxRecDepth 100000 in
set_option maxHeartbeats 2000000 in
theorem scadd_any (sb mb : Nat) (s : Sc) (nm : Txt) (hn : nm.length ≤ 140737488355328) (hc : s.cnt ≤ 100000) (w : World) (hA : ScAt w sb mb s) :
  Calls Tryz.prog 215 #[.pointer (some ⟨sb, 0, none⟩), .string ⟨nm.toArray⟩] w fun e w' => e = .returned (.int .i64 (s.cnt : Int)) ∧ ScAt w' sb mb (s.add nm) ∧ Mod (Of sb mb) w w' := by
 obtain ⟨c0, c1, f1, hne, D, hown, hv⟩ := hA
 have hkey := mkey nm hn
 have hv2 := Lib.hid (hv.add hown.isMap nm)
 have hwf : (Lit.int .i64 (s.cnt : Int)).wf = true := WalkArith.wf_i64 (by omega)
 have hml : s.cnt < maxLen := by unfold maxLen; omega
 have hcc := Lib.hid hc
 clear hv hc
 go_enter Tryz.func215, Tryz.ntmps215
 go_wp2_with (first | (at_mapUpdate; refine wpList_mapUpdate_in _ rfl _ _ _ 163 rfl 9 3 mlaw Tryz.underlying163 _ mb s.cnt D rfl hown hml _ _ _ rfl rfl hkey _ [] (plainElem_int Tryz.underlying3 hwf) ?_; intro w1 hown1 hturn1; have d0 := (turn_mod hturn1).cell c0 hne.symm; have d1 := (turn_mod hturn1).cell c1 hne.symm; have g1 := (hturn1.frozen ⟨sb, 1, none⟩).trans f1))
 go_ret
 refine ⟨rfl, ⟨?_, ?_, ?_, hne, _, hown1.setCell hne _, hv2.out⟩, ?_⟩
 ·refine (World.cell?_setCell_other _ _ _ _ ?_).trans d0
  simp
 ·refine (World.cell?_setCell_same _ _ _ d1).trans ?_
  rw [show wrap64 ((s.cnt : Int) + 1) = (s.cnt : Int) + 1 by have := hcc.out; unfold wrap64; omega]
  rfl
 ·rw [World.frozen?_setCell]; exact g1
 ·exact Mod.setCell (F := Of sb mb) ((turn_mod hturn1).weak (fun i e => Or.inr e)) (p := ⟨sb, 1, none⟩) (Or.inl (Or.inl rfl)) _
/-- What find answers. -/
def findX (o : Option Nat) : Int := match o with | some _ => 0 | none => 4
def findE (o : Option Nat) : Value := .tuple #[.int .i64 (outI o), .int .i64 (findX o)]
set_option maxRecDepth 100000 in
set_option maxHeartbeats 2000000 in
theorem find_any2 (sb mb : Nat) (s : Sc) (nm : Txt) (hn : nm.length ≤ 140737488355328) (w : World) (hA : ScAt w sb mb s) :
  Calls Tryz.prog 216 #[.pointer (some ⟨sb, 0, none⟩), .string ⟨nm.toArray⟩] w fun e w' => e = .returned (findE (s.vis nm)) ∧ w' = w := by
 obtain ⟨c0, c1, f1, hne, D, hown, hv⟩ := hA
 have hkey := mkey nm hn
 obtain ⟨h1, h2⟩ := hv nm
 cases ho : s.vis nm with
 | none =>
  rw [ho] at h1
  have hh : Maps.has D (.string nm) = false := h1
  clear h1 h2 hv
  go_enter Tryz.func216, Tryz.ntmps216
  go_wp2_with (first | (at_lookup; refine wpList_lookup_own_ok_int _ rfl _ _ 163 rfl 9 3 .i64 mlaw Tryz.underlying163 Tryz.underlying3 (mzero _) mb s.cnt D rfl hown _ _ rfl hkey ?_; intro c hat hwc; rw [hh]))
  go_ret2
  exact ⟨rfl, rfl⟩
 | some n =>
  rw [ho] at h1
  have hh : Maps.has D (.string nm) = true := h1
  have hd := h2 n ho
  clear h1 h2 hv
  go_enter Tryz.func216, Tryz.ntmps216
  go_wp2_with (first | (at_lookup; refine wpList_lookup_own_ok_int _ rfl _ _ 163 rfl 9 3 .i64 mlaw Tryz.underlying163 Tryz.underlying3 (mzero _) mb s.cnt D rfl hown _ _ rfl hkey ?_; intro c hat hwc; rw [hh]; rw [hd] at hat; cases hat))
  go_ret2
  exact ⟨rfl, rfl⟩
/-- What declare answers, and what is visible then. -/
def declE (s : Sc) (nm : Txt) : Int × Int := match s.vis nm with | some _ => (-1, 6) | none => if s.cnt = 32 then (-1, 3) else ((s.cnt : Int), 0)
def declS (s : Sc) (nm : Txt) : Sc := match s.vis nm with | some _ => s | none => if s.cnt = 32 then s else s.add nm
set_option maxRecDepth 100000 in
set_option maxHeartbeats 2000000 in
theorem declare_any (sb mb : Nat) (s : Sc) (nm : Txt) (hn : nm.length ≤ 140737488355328) (hc : s.cnt ≤ 100000) (w : World) (hA : ScAt w sb mb s) :
  Calls Tryz.prog 217 #[.pointer (some ⟨sb, 0, none⟩), .string ⟨nm.toArray⟩] w fun e w' => e = .returned (.tuple #[.int .i64 (declE s nm).1, .int .i64 (declE s nm).2]) ∧ ScAt w' sb mb (declS s nm) ∧ Mod (Of sb mb) w w' := by
 have HAd := Lib.hid (scadd_any sb mb s nm hn hc w hA)
 have HA := Lib.hid hA
 obtain ⟨c0, c1, f1, hne, D, hown, hv⟩ := hA
 have hkey := mkey nm hn
 obtain ⟨h1, h2⟩ := hv nm
 unfold declE declS
 cases ho : s.vis nm with
 | some n =>
  rw [ho] at h1
  have hh : Maps.has D (.string nm) = true := h1
  clear h1 h2 hv HAd
  go_enter Tryz.func217, Tryz.ntmps217
  go_wp2_with (first | (at_lookup; refine wpList_lookup_own_ok_int _ rfl _ _ 163 rfl 9 3 .i64 mlaw Tryz.underlying163 Tryz.underlying3 (mzero _) mb s.cnt D rfl hown _ _ rfl hkey ?_; intro c hat hwc; rw [hh]))
  go_ret2
  exact ⟨rfl, HA.out, Mod.refl _ _⟩
 | none =>
  rw [ho] at h1
  have hh : Maps.has D (.string nm) = false := h1
  clear h1 h2 hv
  by_cases h32 : s.cnt = 32
  ·simp only [if_pos h32]
   rw [h32] at c1
   clear HAd
   go_enter Tryz.func217, Tryz.ntmps217
   go_wp2_with (first | (at_lookup; refine wpList_lookup_own_ok_int _ rfl _ _ 163 rfl 9 3 .i64 mlaw Tryz.underlying163 Tryz.underlying3 (mzero _) mb s.cnt D rfl hown _ _ rfl hkey ?_; intro c hat hwc; rw [hh]))
   go_ret2
   exact ⟨rfl, HA.out, Mod.refl _ _⟩
  ·simp only [if_neg h32]
   have hne32 : ((s.cnt : Int) == 32) = false := by simp; omega
   go_enter Tryz.func217, Tryz.ntmps217
   go_wp2_with (first | (at_lookup; refine wpList_lookup_own_ok_int _ rfl _ _ 163 rfl 9 3 .i64 mlaw Tryz.underlying163 Tryz.underlying3 (mzero _) mb s.cnt D rfl hown _ _ rfl hkey ?_; intro c hat hwc; rw [hh]))
   refine HAd.out.mono ?_
   rintro e w2 ⟨rfl, k1, k2⟩
   go_wp2_with fail
   go_ret2
   exact ⟨rfl, k1, k2⟩
end Syn
end Go.Proofs.YtmifookckpelaaaGreatDoor

/-
 Layer 9: a new scope; leaving a block.
-/
namespace Go.Proofs.YtmifookckpelaaaGreatDoor
open Go.RowKit Go.ChangeShapes Go.WideShapes Go.Maps
namespace Syn
theorem sc0_take {ps : List Txt} {j : Nat} (h : j < ps.length) : sc0 (ps.take (j + 1)) = (sc0 (ps.take j)).add ps[j] := by
 unfold sc0
 rw [List.take_succ_eq_append_getElem h, List.foldl_append]
 rfl
set_option maxRecDepth 100000 in
set_option maxHeartbeats 4000000 in
theorem newScope_any (po : Option Addr) (k pc : Nat) (ps : List Txt) (hk : k ≤ 1000) (hs : ∀ p ∈ ps, p.length ≤ 140737488355328) (w : World) (hA : KArg w po k ps) :
  Calls Tryz.prog 165 #[.slice po k pc] w fun e w' => ∃ sb mb, e = .returned (.pointer (some ⟨sb, 0, none⟩)) ∧ ScAt w' sb mb (sc0 ps) ∧ Bel w w' ∧ w.heap.size ≤ sb ∧ w.heap.size ≤ mb := by
 have hmm := @run_makeMap Tryz.prog
 have hkl := karg_at hA
 obtain ⟨V, hV⟩ : ∃ V, (w.alloc (.map #[] 0)).alloc (.cells #[.map (some w.heap.size), .int .i64 0] 165) = V := ⟨_, rfl⟩
 have BV : Bel w V := by rw [← hV]; exact Bel.alloc (Bel.alloc (Bel.refl w) _) _
 have hz : (w.alloc (.map #[] 0)).heap.size = w.heap.size + 1 := alloc_szs _ _
 have hSc : ScAt V (w.heap.size + 1) w.heap.size (sc0 []) := by
  rw [← hV, ← hz]
  refine ⟨World.cell?_alloc_new .., World.cell?_alloc_new .., World.frozen?_alloc_new .., by omega, .map [], (World.ownsMap_made _ _ _ _).alloc _, View.empty⟩
 have HS := Lib.hid hSc
 have HB := Lib.hid BV
 have HV := Lib.hid hV
 have Hs := Lib.hid hs
 have Hk := Lib.hid hkl
 clear hSc BV hV hs hkl hz hA
 go_enter Tryz.func165, Tryz.ntmps165
 go_wp2_with fail
 go_loopw [11] (fun iv wr => ∃ j : Nat, iv = .int .i64 (j : Int) ∧ j ≤ k ∧ Hid (ScAt wr (w.heap.size + 1) w.heap.size (sc0 (ps.take j))) ∧ Hid (Bel w wr)) (fun iv _ => k - (intOf iv).toNat)
 case atStart => exact ⟨0, rfl, Nat.zero_le _, Lib.hid (by rw [HV.out]; exact HS.out), Lib.hid (by rw [HV.out]; exact HB.out)⟩
 case round =>
  obtain ⟨j, rfl, hj, HSc, HBr⟩ := hrel
  rename World => wr
  rcases Nat.lt_or_ge j k with hjk | hjk
  ·have hjl : j < ps.length := by rw [Hk.out.1]; exact hjk
   obtain ⟨b, off, rfl, hc⟩ := Hk.out.2 (by omega)
   have c0 := HBr.out.cell' (hc j hjl)
   have HA := Lib.hid (scadd_any (w.heap.size + 1) w.heap.size _ ps[j] (Hs.out _ (List.getElem_mem hjl)) (by rw [sc0_cnt, List.length_take]; omega) wr HSc.out)
   have Hst := Lib.hid (sc0_take hjl)
   have hjk' : (j : Int) < (k : Int) := by omega
   generalize ps[j] = p at *
   clear hc
   go_wp2_with fail
   refine HA.out.mono ?_
   rintro e w2 ⟨rfl, k1, k2⟩
   have B2 := Lib.hid (Mod.bel_of HBr.out k2 (fun i h => by rcases h with h | h <;> omega))
   have S2 := Lib.hid (show ScAt w2 _ _ (sc0 (ps.take (j + 1))) by rw [Hst.out]; exact k1)
   clear k1 k2
   go_wp2_with fail
   go_round
   case rel => exact ⟨j + 1, by go_num, by omega, S2, B2⟩
   case measure => simp [intOf]; omega
  ·obtain rfl : j = k := by omega
   have S2 := Lib.hid (show ScAt wr _ _ (sc0 ps) by have := HSc.out; rw [List.take_of_length_le (by rw [Hk.out.1]; exact Nat.le_refl _)] at this; exact this)
   go_wp2_with fail
   go_ret
   exact ⟨_, _, rfl, S2.out, HBr.out, by omega, Nat.le_refl _⟩
end Syn
end Go.Proofs.YtmifookckpelaaaGreatDoor

/-
 Layer 9, plainly: calls and reached functions, the reference's.
-/
namespace Go.Proofs.YtmifookckpelaaaGreatDoor
namespace Syn
theorem asc_ext : ∀ {l m : List Int}, l.Pairwise (· < ·) → m.Pairwise (· < ·) → (∀ x, x ∈ l ↔ x ∈ m) → l = m
 | [], [], _, _, _ => rfl
 | [], y :: m, _, _, h => by have := (h y).2 (List.mem_cons_self ..); cases this
 | x :: l, [], _, _, h => by have := (h x).1 (List.mem_cons_self ..); cases this
 | x :: l, y :: m, hl, hm, h => by
  rw [List.pairwise_cons] at hl hm
  have hxy : x = y := by
   rcases List.mem_cons.1 ((h x).1 (List.mem_cons_self ..)) with q | q
   ·exact q
   ·have h1 := hm.1 x q
    rcases List.mem_cons.1 ((h y).2 (List.mem_cons_self ..)) with r | r
    ·exact r.symm
    ·have h2 := hl.1 y r
     omega
  subst hxy
  rw [asc_ext hl.2 hm.2 (fun z => by
   have hz := h z
   rw [List.mem_cons, List.mem_cons] at hz
   constructor
   ·intro q
    rcases hz.1 (Or.inr q) with r | r
    ·have := hl.1 z q; omega
    ·exact r
   ·intro q
    rcases hz.2 (Or.inr q) with r | r
    ·have := hm.1 z q; omega
    ·exact r)]
/-- The node at which a function begins. -/
def lowOf (F : List Fw) (f : Nat) : Nat := match f with
 | 0 => 0
 | q + 1 => match F[q]? with | some x => x.body.toNat + 1 | none => 0
end Syn
end Go.Proofs.YtmifookckpelaaaGreatDoor

/-
 Layer 9: small functions of the resolution.
-/
namespace Go.Proofs.YtmifookckpelaaaGreatDoor
open Go.RowKit Go.ChangeShapes Go.WideShapes Go.Maps
namespace Syn
set_option maxRecDepth 100000 in
set_option maxHeartbeats 2000000 in
theorem checkArgs_any (k : Int) (s : ByteArray) (i : Int) (ko jo : Option Addr) (kn kc m jc : Nat) (x : Int) (w : World) :
  Calls Tryz.prog 219 #[.agg #[.int .i64 k, .string s, .int .i64 i, .slice ko kn kc, .slice jo m jc], .int .i64 (if x < 0 then 0 else x), .bool (decide (0 ≤ x))] w fun e w' => e = .returned (.int .i64 (argE m x)) ∧ Bel w w' := by
 have HB := Lib.hid (Bel.alloc (Bel.refl w) (.cells #[.int .i64 k, .string s, .int .i64 i, .slice ko kn kc, .slice jo m jc] 60))
 unfold argE
 by_cases hx : x < 0
 ·rw [if_pos hx, if_pos hx, decide_eq_false (by omega)]
  go_enter Tryz.func219, Tryz.ntmps219
  go_wp2_with fail
  go_ret
  exact ⟨rfl, HB.out⟩
 ·rw [if_neg hx, if_neg hx, decide_eq_true (by omega)]
  by_cases hk : (m : Int) = x
  ·subst hk
   rw [if_pos rfl]
   go_enter Tryz.func219, Tryz.ntmps219
   go_wp2_with fail
   go_ret
   exact ⟨rfl, HB.out⟩
  ·rw [if_neg hk]
   have hk2 : ((m : Int) == x) = false := by simpa using hk
   go_enter Tryz.func219, Tryz.ntmps219
   go_wp2_with fail
   go_ret
   exact ⟨rfl, HB.out⟩
theorem find_lt (F : List Fw) (s : Txt) : findI F s < (F.length : Int) ∧ -1 ≤ findI F s := by
 have : ∀ (F : List Fw) (i : Nat), fixI (fun f => decide (f.name = s)) i F < ((i + F.length : Nat) : Int) ∧ -1 ≤ fixI (fun f => decide (f.name = s)) i F := fun F => by
  induction F with
  | nil => intro i; rw [fixI]; simp; omega
  | cons f r ih =>
   intro i
   rw [fixI]
   split
   ·rw [List.length_cons]; omega
   ·have := ih (i + 1)
    rw [List.length_cons]
    omega
 have := this F 0
 unfold findI
 omega
set_option maxRecDepth 100000 in
set_option maxHeartbeats 4000000 in
theorem paramsOf_any (no fo : Option Addr) (n nc k fc : Nat) (F : List Fw) (s : Txt) (hk : k ≤ 4611686018427387904) (hwF : ∀ x ∈ F, x.params.length ≤ 4611686018427387904) (w : World) (hF : FArg w fo k F) :
  Calls Tryz.prog 218 #[.agg #[.slice no n nc, .slice fo k fc], .string ⟨s.toArray⟩] w fun e w' => e = .returned (okN (parI F s)) ∧ Bel w w' := by
 obtain ⟨V, hV⟩ : ∃ V, w.alloc (.cells #[.slice no n nc, .slice fo k fc] 25) = V := ⟨_, rfl⟩
 have BV : Bel w V := by rw [← hV]; exact Bel.alloc (Bel.refl w) _
 obtain ⟨v0, v1⟩ : V.cell? ⟨w.heap.size, 0, none⟩ = some (.slice no n nc) ∧ V.cell? ⟨w.heap.size, 1, none⟩ = some (.slice fo k fc) := by
  rw [← hV]
  exact ⟨World.cell?_alloc_new .., World.cell?_alloc_new ..⟩
 have HBV := Lib.hid BV
 have HFi := Lib.hid (find_any no fo n nc k fc F s hk V (hF.on BV))
 have hX : fixI (fun f => decide (f.name = s)) 0 F = findI F s := rfl
 rw [hX] at HFi
 obtain ⟨h1, h2⟩ := find_lt F s
 unfold parI
 have HBl := Lib.hid (fun W => blt_any s W)
 have hFk := hF.1
 by_cases h0 : 0 ≤ findI F s
 ·rw [if_pos h0]
  obtain ⟨q, hq⟩ : ∃ q : Nat, findI F s = (q : Int) := ⟨(findI F s).toNat, by omega⟩
  have hql : q < F.length := by omega
  rw [hq, Int.toNat_natCast, List.getElem?_eq_getElem hql]
  simp only
  rw [hq] at HFi
  obtain ⟨b, off, rfl, hcs⟩ := hF.2 (by omega)
  obtain ⟨⟨vs, po, pk, pc, vj⟩, hv, hcc⟩ := hcs q hql
  have d1 : V.cell? ⟨b, off + q * 3 + 1, none⟩ = some (.slice po pk pc) := BV.cell' (by simpa using hcc 1 _ rfl)
  have hpk : F[q].params.length = pk := by have := hv.ps.1; simpa using this
  have hpb : pk ≤ 4611686018427387904 := by rw [← hpk]; exact hwF _ (List.getElem_mem hql)
  have hqk : (q : Int) < (k : Int) := by omega
  have hq0 : (0 : Int) ≤ (q : Int) := by omega
  rw [hpk, show okN (pk : Int) = .tuple #[.int .i64 (pk : Int), .bool true] by unfold okN; rw [if_neg (by omega), decide_eq_true (by omega)]]
  clear hcs hcc hv hpk hwF hF BV HBl h0 h1 h2 hX
  go_enter Tryz.func218, Tryz.ntmps218
  go_wp2_with fail
  refine HFi.out.mono ?_
  rintro e w2 ⟨rfl, g⟩
  have e0 := g.cell' v0
  have e1 := g.cell' v1
  have e2 := g.cell' d1
  have G := Lib.hid (Bel.trans HBV.out g)
  clear g v0 v1 d1
  go_wp2_with fail
  go_ret2
  exact ⟨rfl, G.out⟩
 ·rw [if_neg h0]
  have hm : findI F s = -1 := by omega
  rw [hm] at HFi
  clear h0 h1 h2 hm hX hF hwF BV
  unfold okN at *
  generalize (if bltI s < 0 then (0 : Int) else bltI s) = r1 at *
  generalize decide (0 ≤ bltI s) = r2 at *
  go_enter Tryz.func218, Tryz.ntmps218
  go_wp2_with fail
  refine HFi.out.mono ?_
  rintro e w2 ⟨rfl, g⟩
  have G := Lib.hid (Bel.trans HBV.out g)
  clear g v0 v1
  go_wp2_with fail
  refine (HBl.out _).mono ?_
  rintro e w3 ⟨rfl, rfl⟩
  go_wp2_with fail
  go_ret2
  exact ⟨rfl, G.out⟩
theorem lowOf_ok {n : Nat} : ∀ {F : List Fw} {low : Nat}, Asc n low F → ∀ q (h : q < F.length), (low : Int) ≤ F[q].body ∧ F[q].body < (n : Int)
 | [], _, _, q, h => absurd h (Nat.not_lt_zero q)
 | f :: F, low, hA, q, h => by
  obtain ⟨a1, a2, a3⟩ := hA
  cases q with
  | zero => exact ⟨a1, a2⟩
  | succ q =>
   have := lowOf_ok a3 q (by simpa using h)
   simp only [List.getElem_cons_succ]
   omega
set_option maxRecDepth 100000 in
set_option maxHeartbeats 4000000 in
theorem firstNode_any (no fo : Option Addr) (n nc k fc : Nat) (F : List Fw) (hn : n ≤ 100000) (hk : k ≤ 100000) (hb : ∀ q (h : q < F.length), 0 ≤ F[q].body ∧ F[q].body < (n : Int)) (q : Nat) (hq : q < k) (w : World) (hF : FArg w fo k F) :
  Calls Tryz.prog 118 #[.agg #[.slice no n nc, .slice fo k fc], .int .i64 (q : Int)] w fun e w' => e = .returned (.int .i64 (lowOf F q : Int)) ∧ Bel w w' := by
 have HB := Lib.hid (Bel.alloc (Bel.refl w) (.cells #[.slice no n nc, .slice fo k fc] 25))
 have hFk := hF.1
 cases q with
 | zero =>
  go_enter Tryz.func118, Tryz.ntmps118
  go_wp2_with fail
  go_ret
  exact ⟨rfl, HB.out⟩
 | succ q =>
  have hql : q < F.length := by omega
  obtain ⟨b, off, rfl, hcs⟩ := hF.2 (by omega)
  obtain ⟨⟨vs, po, pk, pc, vj⟩, hv, hcc⟩ := hcs q hql
  have d2 : w.cell? ⟨b, off + q * 3 + 2, none⟩ = some (.int .i64 vj) := by simpa using hcc 2 _ rfl
  have hj : vj = F[q].body := hv.j
  obtain ⟨h0, h1⟩ := hb q hql
  obtain ⟨z, hz⟩ : ∃ z : Nat, F[q].body = (z : Int) := ⟨F[q].body.toNat, by omega⟩
  rw [hj, hz] at d2
  have e : (lowOf F (q + 1) : Int) = (z : Int) + 1 := by
   show ((match F[q]? with | some x => x.body.toNat + 1 | none => 0 : Nat) : Int) = _
   rw [List.getElem?_eq_getElem hql]
   simp only
   rw [hz]
   omega
  rw [e]
  have hzn : (z : Int) < (n : Int) := by omega
  have hqk : (q : Int) < (k : Int) := by omega
  have h1f : ((q : Int) + 1 == 0) = false := by simp; omega
  have hsub : IntKind.i64.wrap ((q : Int) + 1 - 1) = (q : Int) := by rw [IntKind.wrap_i64]; omega
  have hsub2 : IntKind.i64.wrap (q : Int) = (q : Int) := by rw [IntKind.wrap_i64]; omega
  have hq0 : (0 : Int) ≤ (q : Int) := by omega
  have hadd : IntKind.i64.wrap ((z : Int) + 1) = (z : Int) + 1 := by rw [IntKind.wrap_i64]; omega
  have d3 := (Bel.alloc (Bel.refl w) (.cells #[.slice no n nc, .slice (some ⟨b, off, none⟩) k fc] 25)).cell' d2
  clear hcs hcc hv hj hb hF hz h0 h1
  go_enter Tryz.func118, Tryz.ntmps118
  go_wp2_with fail
  go_ret
  exact ⟨rfl, HB.out⟩
set_option maxRecDepth 100000 in
set_option maxHeartbeats 4000000 in
theorem hasTwice_any (po : Option Addr) (k pc : Nat) (ps : List Txt) (hk : k ≤ 1000) (w : World) (hA : KArg w po k ps) :
  Calls Tryz.prog 164 #[.slice po k pc] w fun e w' => e = .returned (.bool (twiceB ps)) ∧ Bel w w' := by
 have HS := Lib.hid (Idn.sorted_any po k pc (ps.map bz) (by omega) w hA)
 have hl := hA.1
 rw [List.length_map] at hl
 have hmm : (ps.map bz).map ByteArray.toList = ps := by rw [List.map_map]; exact (List.map_congr_left fun x _ => by show (bz x).toList = x; rw [Go.ByteArray.toList_eq]; rfl).trans (List.map_id _)
 rw [hmm] at HS
 unfold twiceB
 rw [hl]
 obtain ⟨M, hM⟩ : ∃ M, (Idn.srt ps).length = M := ⟨_, rfl⟩
 rw [hM]
 obtain ⟨Bv, hBv⟩ : ∃ Bv, decide (M < k) = Bv := ⟨_, rfl⟩
 rw [hBv]
 have HBv := Lib.hid hBv
 clear hBv
 go_enter Tryz.func164, Tryz.ntmps164
 go_wp2_with fail
 refine HS.out.mono ?_
 rintro e w2 ⟨⟨v, rfl, hO⟩, g⟩
 have G := Lib.hid g
 obtain ⟨o, m, c, D, rfl, hD, hown⟩ := hO
 have hm : (Idn.srt ps).length = m := by
  have := hown.1
  rw [← hD, List.length_map]
  simpa [encS] using this
 obtain rfl : m = M := by omega
 clear hown hD g hm hM
 by_cases hlt : m < k
 ·have h2 : (m : Int) < (k : Int) := by omega
  obtain rfl : Bv = true := by rw [← HBv.out]; exact decide_eq_true hlt
  go_wp2_with fail
  go_ret
  exact ⟨rfl, G.out⟩
 ·have h2 : ¬ (m : Int) < (k : Int) := by omega
  obtain rfl : Bv = false := by rw [← HBv.out]; exact decide_eq_false hlt
  go_wp2_with fail
  go_ret
  exact ⟨rfl, G.out⟩
end Syn
end Go.Proofs.YtmifookckpelaaaGreatDoor
