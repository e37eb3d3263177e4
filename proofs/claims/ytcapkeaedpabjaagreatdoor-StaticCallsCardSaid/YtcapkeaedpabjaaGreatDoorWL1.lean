/-
  Layer 8, texts merged: StA, StB, StC. For every argument within the bounds that each theorem names.
-/
import Derived.Test.YtcapkeaedpabjaaGreatDoorWK1
import Derived.Test.YtcapkeaedpabjaaGreatDoorWG4
import Derived.Test.YtcapkeaedpabjaaGreatDoorWN1

/-
 Layer 9, plainly: the variables of a program and their slots.
-/
namespace Go.Proofs.YtcapkeaedpabjaaGreatDoor
namespace Syn
/-- What is visible, and how many variables there were. -/
structure Sc where
 vis : Txt → Option Nat
 cnt : Nat
def Sc.add (s : Sc) (nm : Txt) : Sc := ⟨fun x => if x = nm then some s.cnt else s.vis x, s.cnt + 1⟩
def Sc.del (s : Sc) (nm : Txt) : Sc := ⟨fun x => if x = nm then none else s.vis x, s.cnt⟩
def sc0 (ps : List Txt) : Sc := ps.foldl Sc.add ⟨fun _ => none, 0⟩
def leaveP (L : List Nd) (s : Sc) (kids : List Int) : Sc := kids.foldl (fun s z => match L[z.toNat]? with | some x => if x.k = 13 then s.del x.s else s | none => s) s
/-- The number of arguments of a call's target, -1: there is none. -/
def argE (m w : Int) : Int := if w < 0 then 4 else if m = w then 0 else 7
def visP (L : List Nd) (W : Nd → Int) (s : Sc) (x : Nd) : Sc × Int × Int :=
 if x.k = 5 ∨ x.k = 14 then (match s.vis x.s with | some n => (s, (n : Int), 0) | none => (s, -1, 4))
 else if x.k = 13 then (match s.vis x.s with | some _ => (s, -1, 6) | none => if s.cnt = 32 then (s, -1, 3) else (s.add x.s, (s.cnt : Int), 0))
 else if x.k = 11 ∨ x.k = 12 then (s, -1, argE x.kids.length (W x))
 else if x.k = 19 then (leaveP L s x.kids, -1, 0)
 else (s, -1, 0)
def runN (L : List Nd) (W : Nd → Int) : List Nd → Nat → Sc → List Int → (Sc × List Int) ⊕ (Int × Int)
 | [], _, s, sl => .inl (s, sl)
 | x :: r, i, s, sl => if (visP L W s x).2.2 = 0 then runN L W r (i + 1) (visP L W s x).1 (sl ++ [(visP L W s x).2.1]) else .inr ((i : Int), (visP L W s x).2.2)
structure Rs where
 sl : List Int
 lo : List Int
 pos : Int
 er : Int
def runF (L : List Nd) (W : Nd → Int) : List Fw → Nat → List Int → List Int → Rs
 | [], _, sl, lo => ⟨sl, lo, 0, 0⟩
 | f :: r, low, sl, lo => match runN L W ((L.drop low).take (f.body.toNat + 1 - low)) low (sc0 f.params) sl with
  | .inl q => runF L W r (f.body.toNat + 1) q.2 (lo ++ [(q.1.cnt : Int)])
  | .inr q => ⟨[], [], q.1, q.2⟩
def letAt (L : List Nd) (j : Nat) : Prop := ∃ x, L[j]? = some x ∧ x.k = 13
/-- Is the slot of the node k right, of a function with these parameters whose first node is low? -/
def RightAt (L : List Nd) (ps : List Txt) (sl : List Int) (low k : Nat) (n : Int) : Prop :=
 ∃ x v, L[k]? = some x ∧ sl[k]? = some v ∧ (x.k ≠ 5 → x.k ≠ 13 → x.k ≠ 14 → v = -1) ∧
  (x.k = 5 ∨ x.k = 13 ∨ x.k = 14 → 0 ≤ v ∧ v < n) ∧
  (x.k = 13 → (ps.length : Int) ≤ v ∧ ∀ j, low ≤ j → j < k → letAt L j → sl[j]? ≠ some v) ∧
  (x.k = 5 ∨ x.k = 14 → (v < (ps.length : Int) → ps[v.toNat]? = some x.s) ∧ ((ps.length : Int) ≤ v → ∃ j y, low ≤ j ∧ j < k ∧ L[j]? = some y ∧ y.k = 13 ∧ sl[j]? = some v ∧ y.s = x.s))
structure OkSc (L : List Nd) (ps : List Txt) (sl : List Int) (low : Nat) (s : Sc) : Prop where
 np : ps.length ≤ s.cnt
 vis : ∀ nm n, s.vis nm = some n → n < s.cnt ∧ (n < ps.length → ps[n]? = some nm) ∧ (ps.length ≤ n → ∃ j y, low ≤ j ∧ j < sl.length ∧ L[j]? = some y ∧ y.k = 13 ∧ sl[j]? = some (n : Int) ∧ y.s = nm)
 rgt : ∀ k, low ≤ k → k < sl.length → RightAt L ps sl low k (s.cnt : Int)
theorem at_app {sl : List Int} {k : Nat} (h : k < sl.length) (r : List Int) : (sl ++ r)[k]? = sl[k]? := List.getElem?_append_left h
theorem RightAt.app {L : List Nd} {ps : List Txt} {sl : List Int} {low k : Nat} {n m : Int} (r : List Int) (h : RightAt L ps sl low k n) (hm : n ≤ m) : RightAt L ps (sl ++ r) low k m := by
 obtain ⟨x, v, h1, h2, h3, h4, h5, h6⟩ := h
 have hk : k < sl.length := (List.getElem?_eq_some_iff.1 h2).1
 refine ⟨x, v, h1, by rw [at_app hk]; exact h2, h3, fun q => ⟨(h4 q).1, by have := (h4 q).2; omega⟩, fun q => ⟨(h5 q).1, fun j a b c => by rw [at_app (by omega)]; exact (h5 q).2 j a b c⟩, fun q => ⟨(h6 q).1, fun w => ?_⟩⟩
 obtain ⟨j, y, a, b, c, d, e, f⟩ := (h6 q).2 w
 exact ⟨j, y, a, b, c, d, by rw [at_app (by omega)]; exact e, f⟩
theorem OkSc.app {L : List Nd} {ps : List Txt} {sl : List Int} {low : Nat} {s : Sc} {v : Int} (h : OkSc L ps sl low s) (hr : low ≤ sl.length → RightAt L ps (sl ++ [v]) low sl.length (s.cnt : Int)) : OkSc L ps (sl ++ [v]) low s := by
 refine ⟨h.np, fun nm n e => ?_, fun k a b => ?_⟩
 ·obtain ⟨h1, h2, h3⟩ := h.vis nm n e
  refine ⟨h1, h2, fun q => ?_⟩
  obtain ⟨j, y, a, b, c, d, e, f⟩ := h3 q
  exact ⟨j, y, a, by rw [List.length_append]; omega, c, d, by rw [at_app (by omega)]; exact e, f⟩
 ·by_cases hk : k < sl.length
  ·exact (h.rgt k a hk).app [v] (by omega)
  ·rw [List.length_append, List.length_singleton] at b
   obtain rfl : k = sl.length := by omega
   exact hr a
theorem leave_ok {L : List Nd} {ps : List Txt} {sl : List Int} {low : Nat} : ∀ (kids : List Int) (s : Sc), OkSc L ps sl low s → OkSc L ps sl low (leaveP L s kids) ∧ (leaveP L s kids).cnt = s.cnt
 | [], s, h => ⟨h, rfl⟩
 | z :: r, s, h => by
  unfold leaveP
  rw [List.foldl_cons]
  have hd : ∀ nm, OkSc L ps sl low (s.del nm) := fun nm => ⟨h.np, fun m n e => by
   unfold Sc.del at e
   simp only at e
   split at e
   ·cases e
   ·exact h.vis m n e, h.rgt⟩
  cases e : L[z.toNat]? with
  | none => exact leave_ok r s h
  | some x =>
   simp only
   split
   ·exact leave_ok r (s.del x.s) (hd _)
   ·exact leave_ok r s h
theorem last_get (sl : List Int) (v : Int) : (sl ++ [v])[sl.length]? = some v := by simp
theorem vis_ok {L : List Nd} {W : Nd → Int} {ps : List Txt} {sl : List Int} {low : Nat} {s : Sc} {x : Nd} (h : OkSc L ps sl low s) (hx : L[sl.length]? = some x) (hl : low ≤ sl.length) (he : (visP L W s x).2.2 = 0) :
  OkSc L ps (sl ++ [(visP L W s x).2.1]) low (visP L W s x).1 ∧ s.cnt ≤ (visP L W s x).1.cnt := by
 have plain : ∀ s' : Sc, OkSc L ps sl low s' → s'.cnt = s.cnt → x.k ≠ 5 → x.k ≠ 13 → x.k ≠ 14 → OkSc L ps (sl ++ [-1]) low s' ∧ s.cnt ≤ s'.cnt := fun s' h' e a b c => by
  refine ⟨h'.app fun _ => ⟨x, -1, hx, last_get _ _, fun _ _ _ => rfl, fun q => ?_, fun q => absurd q b, fun q => ?_⟩, by omega⟩
  ·rcases q with q | q | q
   ·exact absurd q a
   ·exact absurd q b
   ·exact absurd q c
  ·rcases q with q | q
   ·exact absurd q a
   ·exact absurd q c
 unfold visP at he ⊢
 by_cases h1 : x.k = 5 ∨ x.k = 14
 ·rw [if_pos h1] at he ⊢
  cases e : s.vis x.s with
  | none => rw [e] at he; cases he
  | some n =>
   simp only
   obtain ⟨a1, a2, a3⟩ := h.vis _ _ e
   refine ⟨h.app fun _ => ⟨x, n, hx, last_get _ _, fun q1 q2 q3 => ?_, fun _ => ⟨by omega, by omega⟩, fun q => ?_, fun _ => ⟨fun q => ?_, fun q => ?_⟩⟩, Nat.le_refl _⟩
   ·rcases h1 with q | q
    ·exact absurd q q1
    ·exact absurd q q3
   ·rcases h1 with r | r <;> rw [q] at r <;> exact absurd r (by decide)
   ·rw [Int.toNat_natCast]; exact a2 (by omega)
   ·obtain ⟨j, y, b1, b2, b3, b4, b5, b6⟩ := a3 (by omega)
    exact ⟨j, y, b1, b2, b3, b4, by rw [at_app b2]; exact b5, b6⟩
 ·rw [if_neg h1] at he ⊢
  by_cases h2 : x.k = 13
  ·rw [if_pos h2] at he ⊢
   cases e : s.vis x.s with
   | some n => rw [e] at he; cases he
   | none =>
    simp only
    rw [e] at he
    simp only at he
    split at he
    ·cases he
    ·rename_i hc
     rw [if_neg hc]
     refine ⟨⟨by have := h.np; unfold Sc.add; simp only; omega, fun nm n q => ?_, fun k a b => ?_⟩, by unfold Sc.add; simp only; omega⟩
     ·unfold Sc.add at q ⊢
      simp only at q ⊢
      split at q
      ·rename_i hnm
       obtain rfl := Option.some.inj q
       have := h.np
       refine ⟨by omega, fun q => by omega, fun _ => ⟨sl.length, x, hl, by rw [List.length_append]; simp, hx, h2, last_get _ _, hnm.symm⟩⟩
      ·obtain ⟨a1, a2, a3⟩ := h.vis _ _ q
       refine ⟨by omega, a2, fun q => ?_⟩
       obtain ⟨j, y, b1, b2, b3, b4, b5, b6⟩ := a3 q
       exact ⟨j, y, b1, by rw [List.length_append]; omega, b3, b4, by rw [at_app b2]; exact b5, b6⟩
     ·unfold Sc.add
      simp only
      by_cases hk : k < sl.length
      ·exact (h.rgt k a hk).app _ (by omega)
      ·rw [List.length_append, List.length_singleton] at b
       obtain rfl : k = sl.length := by omega
       have := h.np
       refine ⟨x, s.cnt, hx, last_get _ _, fun _ q _ => absurd h2 q, fun _ => ⟨by omega, by omega⟩, fun _ => ⟨by omega, fun j a b c => ?_⟩, fun q => absurd q h1⟩
       obtain ⟨y, c1, c2⟩ := c
       obtain ⟨y', v, d1, d2, d3, d4, d5, d6⟩ := h.rgt j a b
       obtain rfl := Option.some.inj (c1.symm.trans d1)
       rw [at_app b, d2]
       have := (d4 (Or.inr (Or.inl c2))).2
       intro q
       obtain rfl := Option.some.inj q
       omega
  ·rw [if_neg h2] at he ⊢
   have n5 : x.k ≠ 5 := fun q => h1 (Or.inl q)
   have n14 : x.k ≠ 14 := fun q => h1 (Or.inr q)
   split
   ·exact plain s h rfl n5 h2 n14
   ·split
    ·obtain ⟨l1, l2⟩ := leave_ok (L := L) x.kids s h
     exact plain _ l1 l2 n5 h2 n14
    ·exact plain s h rfl n5 h2 n14
theorem runN_ok {L : List Nd} {W : Nd → Int} {ps : List Txt} {low : Nat} : ∀ (r : List Nd) (s : Sc) (sl : List Int) (q : Sc × List Int), OkSc L ps sl low s → low ≤ sl.length → (∃ T, L.drop sl.length = r ++ T) → runN L W r sl.length s sl = .inl q →
  OkSc L ps q.2 low q.1 ∧ q.2.length = sl.length + r.length ∧ ∃ D, q.2 = sl ++ D
 | [], s, sl, q, h, _, _, e => by
  rw [runN] at e
  obtain rfl := Sum.inl.inj e
  exact ⟨h, rfl, [], (List.append_nil _).symm⟩
 | x :: r, s, sl, q, h, hl, ⟨T, hT⟩, e => by
  rw [runN] at e
  split at e
  ·rename_i he
   have hx : L[sl.length]? = some x := by
    have := congrArg (fun l => l[0]?) hT
    simpa using this
   obtain ⟨h1, h2⟩ := vis_ok (W := W) h hx hl he
   have hn : (sl ++ [(visP L W s x).2.1]).length = sl.length + 1 := by simp
   obtain ⟨k1, k2, D, k3⟩ := runN_ok r _ _ q h1 (by omega) ⟨T, by
    rw [hn, ← List.drop_drop, hT]; rfl⟩ (by rw [hn]; exact e)
   exact ⟨k1, by rw [k2, hn, List.length_cons]; omega, [(visP L W s x).2.1] ++ D, by rw [k3, List.append_assoc]⟩
  ·cases e
theorem runN_er {L : List Nd} {W : Nd → Int} : ∀ (r : List Nd) (i : Nat) (s : Sc) (sl : List Int) (q : Int × Int), runN L W r i s sl = .inr q → q.2 ≠ 0
 | [], i, s, sl, q, e => by rw [runN] at e; cases e
 | x :: r, i, s, sl, q, e => by
  rw [runN] at e
  split at e
  ·exact runN_er r _ _ _ q e
  ·rename_i h
   obtain rfl := Sum.inr.inj e
   exact h
theorem fold_cnt : ∀ (ps : List Txt) (s : Sc), (ps.foldl Sc.add s).cnt = s.cnt + ps.length
 | [], s => rfl
 | p :: ps, s => by rw [List.foldl_cons, fold_cnt ps, Sc.add, List.length_cons]; simp only; omega
theorem fold_vis : ∀ (ps : List Txt) (s : Sc) (nm : Txt) (n : Nat), (ps.foldl Sc.add s).vis nm = some n → s.vis nm = some n ∨ (s.cnt ≤ n ∧ n < s.cnt + ps.length ∧ ps[n - s.cnt]? = some nm)
 | [], s, nm, n, h => Or.inl h
 | p :: ps, s, nm, n, h => by
  rw [List.foldl_cons] at h
  rcases fold_vis ps _ nm n h with q | ⟨q1, q2, q3⟩
  ·unfold Sc.add at q
   simp only at q
   split at q
   ·rename_i e
    obtain rfl := Option.some.inj q
    refine Or.inr ⟨Nat.le_refl _, by rw [List.length_cons]; omega, ?_⟩
    rw [Nat.sub_self, e]
    rfl
   ·exact Or.inl q
  ·unfold Sc.add at q1 q2 q3
   simp only at q1 q2 q3
   refine Or.inr ⟨by omega, by rw [List.length_cons]; omega, ?_⟩
   rw [show n - s.cnt = n - (s.cnt + 1) + 1 by omega, List.getElem?_cons_succ]
   exact q3
theorem sc0_cnt (ps : List Txt) : (sc0 ps).cnt = ps.length := by unfold sc0; rw [fold_cnt]; simp
theorem sc0_vis (ps : List Txt) : ∀ nm n, (sc0 ps).vis nm = some n → n < ps.length ∧ ps[n]? = some nm := fun nm n h => by
 rcases fold_vis ps _ nm n h with q | ⟨_, q2, q3⟩
 ·cases q
 ·exact ⟨by simpa using q2, by simpa using q3⟩
theorem sc0_ok (L : List Nd) (ps : List Txt) (sl : List Int) : OkSc L ps sl sl.length (sc0 ps) :=
 ⟨by rw [sc0_cnt]; exact Nat.le_refl _, fun nm n h => by
  obtain ⟨h1, h2⟩ := sc0_vis ps nm n h
  exact ⟨by rw [sc0_cnt]; exact h1, fun _ => h2, fun q => by omega⟩, fun k a b => by omega⟩
/-- All slots of functions from a node on are right. -/
def AllRight (L : List Nd) (sl : List Int) : Nat → List Fw → List Int → Prop
 | _, [], [] => True
 | low, f :: F, n :: lo => (f.params.length : Int) ≤ n ∧ (∀ k, low ≤ k → k ≤ f.body.toNat → RightAt L f.params sl low k n) ∧ AllRight L sl (f.body.toNat + 1) F lo
 | _, _, _ => False
/-- Bodies ascend and are nodes. -/
def Asc (n : Nat) : Nat → List Fw → Prop
 | low, [] => low = n
 | low, f :: F => (low : Int) ≤ f.body ∧ f.body < (n : Int) ∧ Asc n (f.body.toNat + 1) F
theorem runF_ok {L : List Nd} {W : Nd → Int} : ∀ (F : List Fw) (sl lo : List Int) (R : Rs), Asc L.length sl.length F → runF L W F sl.length sl lo = R → R.er = 0 →
  R.sl.length = L.length ∧ (∃ D, R.sl = sl ++ D) ∧ ∃ E, R.lo = lo ++ E ∧ AllRight L R.sl sl.length F E ∧ R.pos = 0
 | [], sl, lo, R, hA, h, he => by
  rw [runF] at h
  subst h
  exact ⟨hA, ⟨[], (List.append_nil _).symm⟩, [], (List.append_nil _).symm, trivial, rfl⟩
 | f :: F, sl, lo, R, hA, h, he => by
  rw [runF] at h
  obtain ⟨a1, a2, a3⟩ := hA
  cases e : runN L W ((L.drop sl.length).take (f.body.toNat + 1 - sl.length)) sl.length (sc0 f.params) sl with
  | inr q =>
   rw [e] at h
   subst h
   exact absurd he (runN_er _ _ _ _ _ e)
  | inl q =>
   rw [e] at h
   simp only at h
   obtain ⟨k1, k2, D, k3⟩ := runN_ok _ _ sl q (sc0_ok L f.params sl) (Nat.le_refl _) ⟨_, (List.take_append_drop _ _).symm⟩ e
   rw [List.length_take, List.length_drop] at k2
   have hq : f.body.toNat + 1 = q.2.length := by omega
   rw [hq] at h a3
   obtain ⟨b1, ⟨D2, b2⟩, E, b3, b4, b5⟩ := runF_ok F q.2 _ R a3 h he
   refine ⟨b1, ⟨D ++ D2, by rw [b2, k3, List.append_assoc]⟩, (q.1.cnt : Int) :: E, by rw [b3, List.append_assoc]; rfl, ⟨by have := k1.np; omega, fun k c d => ?_, by rw [hq]; exact b4⟩, b5⟩
   rw [b2]
   exact (k1.rgt k c (by omega)).app D2 (Int.le_refl _)
end Syn
end Go.Proofs.YtcapkeaedpabjaaGreatDoor

/-
 Layer 9, plainly: what resolve answers; functions that are reached.
-/
namespace Go.Proofs.YtcapkeaedpabjaaGreatDoor
namespace Syn
/-- Is a name there twice? -/
def twiceB (l : List Txt) : Bool := decide ((Idn.srt l).length < l.length)
def findI (F : List Fw) (s : Txt) : Int := fixI (fun f => decide (f.name = s)) 0 F
/-- A built-in function's number of arguments. -/
def bltI (s : Txt) : Int :=
 if s = [108, 101, 110] ∨ s = [115, 116, 114] ∨ s = [105, 110, 116] ∨ s = [107, 101, 121, 115] ∨ s = [102, 97, 105, 108] then 1
 else if s = [112, 117, 115, 104] ∨ s = [104, 97, 115] then 2 else if s = [112, 117, 116] then 3 else -1
/-- A host operation's number of arguments. -/
def hstI (s : Txt) : Int :=
 if s = [110, 111, 119] then 0 else if s = [103, 101, 116] ∨ s = [100, 101, 108, 101, 116, 101] ∨ s = [115, 101, 99, 114, 101, 116] ∨ s = [108, 111, 103] then 1
 else if s = [112, 117, 116] ∨ s = [115, 101, 110, 100] ∨ s = [115, 105, 103, 110, 97, 108] ∨ s = [102, 101, 116, 99, 104] then 2 else if s = [116, 105, 109, 101, 114] then 3 else -1
def parI (F : List Fw) (s : Txt) : Int := if 0 ≤ findI F s then (match F[(findI F s).toNat]? with | some f => (f.params.length : Int) | none => 0) else bltI s
def wantI (F : List Fw) (x : Nd) : Int := if x.k = 12 then hstI x.s else parI F x.s
/-- The body of the first function whose name or parameters are there already. -/
def dupF (F0 : List Fw) : Nat → List Fw → Option Int
 | _, [] => none
 | i, f :: r => if 0 ≤ bltI f.name ∨ findI F0 f.name < (i : Int) ∨ twiceB f.params = true then some f.body else dupF F0 (i + 1) r
def mainT : Txt := [109, 97, 105, 110]
def mainE (F : List Fw) : Option (Int × Int) :=
 if findI F mainT < 0 then some (-1, 5) else match F[(findI F mainT).toNat]? with | some f => if f.params.length = 1 then none else some (f.body, 7) | none => none
def resG (L : List Nd) (F : List Fw) : Rs :=
 if chkE L F ≠ 0 then ⟨[], [], -1, chkE L F⟩ else match dupF F 0 F with
 | some b => ⟨[], [], b, 6⟩
 | none => match mainE F with
  | some q => ⟨[], [], q.1, q.2⟩
  | none => runF L (wantI F) F 0 [] []
theorem asc_func : ∀ (fs : List Fu) (low : Nat), Asc (low + sizeF fs) low (funcF low fs)
 | [], low => by rw [funcF, Asc, sizeF]; rfl
 | f :: fs, low => by
  have hp := size_pos f.body
  rw [funcF, Asc, sizeF]
  refine ⟨by simp only; omega, by simp only; omega, ?_⟩
  simp only
  have := asc_func fs (low + size f.body)
  rw [show ((low + size f.body - 1 : Nat) : Int).toNat + 1 = low + size f.body by omega, ← Nat.add_assoc]
  exact this
theorem asc_chk {L : List Nd} {F : List Fw} (h : chkE L F = 0) : Asc L.length 0 F := by
 have hp : properB L F = true := by
  unfold chkE at h
  split at h
  ·cases h
  ·split at h
   ·cases h
   ·rename_i h2
    simpa using h2
 obtain ⟨fs, rfl, rfl, _⟩ := proper_good hp
 have := asc_func fs 0
 rw [Nat.zero_add] at this
 rw [flatF_len]
 exact this
theorem res_ok {L : List Nd} {F : List Fw} (h : (resG L F).er = 0) : (resG L F).sl.length = L.length ∧ AllRight L (resG L F).sl 0 F (resG L F).lo ∧ (resG L F).pos = 0 ∧ chkE L F = 0 ∧ dupF F 0 F = none ∧ mainE F = none := by
 unfold resG at h ⊢
 split at h
 ·rename_i hc
  exact absurd h hc
 ·rename_i hc
  have hc : chkE L F = 0 := by simpa using hc
  rw [if_neg (by simpa using hc)]
  cases e : dupF F 0 F with
  | some b => rw [e] at h; cases h
  | none =>
   rw [e] at h
   simp only at h ⊢
   cases e2 : mainE F with
   | some q =>
    rw [e2] at h
    simp only at h
    unfold mainE at e2
    split at e2
    ·obtain rfl := Option.some.inj e2
     cases h
    ·split at e2
     ·split at e2
      ·cases e2
      ·obtain rfl := Option.some.inj e2
       cases h
     ·cases e2
   | none =>
    rw [e2] at h
    simp only at h ⊢
    obtain ⟨k1, _, E, k3, k4, k5⟩ := runF_ok F [] [] _ (asc_chk hc) rfl h
    refine ⟨k1, ?_, k5, hc, trivial, trivial⟩
    rw [List.nil_append] at k3
    have k3 : (runF L (wantI F) F 0 [] []).lo = E := k3
    rw [k3]
    exact k4
/-- One more function's callees. -/
def addC (l : List Int) (f : Int) : List Int := if l.contains f then l else l ++ [f]
def reachG (C : Int → List Int) : Nat → Nat → List Int → List Int
 | 0, _, l => l
 | n + 1, i, l => match l[i]? with
  | some f => reachG C n (i + 1) ((C f).foldl addC l)
  | none => l
structure OkR (n : Nat) (l : List Int) : Prop where
 nd : l.Nodup
 bd : ∀ x ∈ l, 0 ≤ x ∧ x < (n : Int)
theorem OkR.add {n : Nat} {l : List Int} (h : OkR n l) {f : Int} (hf : 0 ≤ f ∧ f < (n : Int)) : OkR n (addC l f) := by
 unfold addC
 split
 ·exact h
 ·rename_i hc
  refine ⟨?_, fun x hx => ?_⟩
  ·rw [List.nodup_append]
   refine ⟨h.nd, by simp, fun a ha b hb e => ?_⟩
   rw [List.mem_singleton.1 hb] at e
   rw [e] at ha
   exact hc (by simpa using ha)
  ·rcases List.mem_append.1 hx with q | q
   ·exact h.bd x q
   ·rw [List.mem_singleton.1 q]; exact hf
theorem addC_keep (l : List Int) (f : Int) : (∃ D, addC l f = l ++ D) ∧ f ∈ addC l f := by
 unfold addC
 split
 ·rename_i h
  exact ⟨⟨[], (List.append_nil _).symm⟩, by simpa using h⟩
 ·exact ⟨⟨[f], rfl⟩, by simp⟩
theorem fold_add {n : Nat} : ∀ (c l : List Int), OkR n l → (∀ x ∈ c, 0 ≤ x ∧ x < (n : Int)) → OkR n (c.foldl addC l) ∧ (∃ D, c.foldl addC l = l ++ D) ∧ ∀ x ∈ c, x ∈ c.foldl addC l
 | [], l, h, _ => ⟨h, ⟨[], (List.append_nil _).symm⟩, fun x hx => by cases hx⟩
 | f :: c, l, h, hc => by
  rw [List.foldl_cons]
  obtain ⟨⟨D, d1⟩, d2⟩ := addC_keep l f
  obtain ⟨k1, ⟨E, k2⟩, k3⟩ := fold_add c (addC l f) (h.add (hc f (List.mem_cons_self ..))) (fun x hx => hc x (List.mem_cons_of_mem _ hx))
  refine ⟨k1, ⟨D ++ E, by rw [k2, d1, List.append_assoc]⟩, fun x hx => ?_⟩
  rcases List.mem_cons.1 hx with rfl | hx
  ·rw [k2]; exact List.mem_append_left _ d2
  ·exact k3 x hx
theorem nodup_len : ∀ (n : Nat) (l : List Int), OkR n l → l.length ≤ n
 | 0, l, h => by
  cases l with
  | nil => exact Nat.le_refl _
  | cons x l => have := h.bd x (List.mem_cons_self ..); omega
 | n + 1, l, h => by
  have h2 : OkR n (l.filter fun x => decide (x ≠ (n : Int))) := ⟨h.nd.filter _, fun x hx => by
   rw [List.mem_filter] at hx
   have := h.bd x hx.1
   have h3 : x ≠ (n : Int) := by simpa using hx.2
   omega⟩
  have ih := nodup_len n _ h2
  have : l.length ≤ (l.filter fun x => decide (x ≠ (n : Int))).length + 1 := by
   have hnd := h.nd
   clear ih h2 h
   induction l with
   | nil => simp
   | cons x l ihl =>
    rw [List.nodup_cons] at hnd
    have := ihl hnd.2
    rw [List.filter_cons]
    by_cases hx : x = (n : Int)
    ·rw [if_neg (by simpa using hx)]
     have e : l.filter (fun x => decide (x ≠ (n : Int))) = l := by
      rw [List.filter_eq_self]
      intro y hy
      have : y ≠ (n : Int) := fun q => hnd.1 (by rw [hx, ← q]; exact hy)
      simpa using this
     rw [e, List.length_cons]
     omega
    ·rw [if_pos (by simpa using hx), List.length_cons, List.length_cons]
     omega
  omega
theorem reach_ok {n : Nat} {C : Int → List Int} (hC : ∀ f, ∀ x ∈ C f, 0 ≤ x ∧ x < (n : Int)) : ∀ (u i : Nat) (l : List Int), OkR n l → n ≤ i + u → i ≤ l.length → (∀ j f, j < i → l[j]? = some f → ∀ x ∈ C f, x ∈ l) →
  OkR n (reachG C u i l) ∧ (∃ D, reachG C u i l = l ++ D) ∧ ∀ f ∈ reachG C u i l, ∀ x ∈ C f, x ∈ reachG C u i l
 | 0, i, l, h, hn, hi, hc => by
  rw [reachG]
  have := nodup_len n l h
  refine ⟨h, ⟨[], (List.append_nil _).symm⟩, fun f hf x hx => ?_⟩
  obtain ⟨j, hj, e⟩ := List.getElem_of_mem hf
  exact hc j f (by omega) (by rw [List.getElem?_eq_getElem hj, e]) x hx
 | u + 1, i, l, h, hn, hi, hc => by
  rw [reachG]
  cases e : l[i]? with
  | none =>
   simp only
   rw [List.getElem?_eq_none_iff] at e
   refine ⟨h, ⟨[], (List.append_nil _).symm⟩, fun f hf x hx => ?_⟩
   obtain ⟨j, hj, e⟩ := List.getElem_of_mem hf
   exact hc j f (by omega) (by rw [List.getElem?_eq_getElem hj, e]) x hx
  | some f =>
   simp only
   obtain ⟨k1, ⟨D, k2⟩, k3⟩ := fold_add (C f) l h (hC f)
   have hil := (List.getElem?_eq_some_iff.1 e).1
   obtain ⟨m1, ⟨E, m2⟩, m3⟩ := reach_ok hC u (i + 1) _ k1 (by omega) (by rw [k2, List.length_append]; omega) (fun j g hj hg x hx => by
    by_cases hji : j = i
    ·subst hji
     rw [k2, List.getElem?_append_left hil, e] at hg
     obtain rfl := Option.some.inj hg
     exact k3 x hx
    ·rw [k2, List.getElem?_append_left (by omega)] at hg
     rw [k2]
     exact List.mem_append_left _ (hc j g (by omega) hg x hx))
   exact ⟨m1, ⟨D ++ E, by rw [m2, k2, List.append_assoc]⟩, m3⟩
end Syn
end Go.Proofs.YtcapkeaedpabjaaGreatDoor

/-
 Layer 9, plainly: the reference's walk through trees finds what the program's walk through nodes finds.
-/
namespace Go.Proofs.YtcapkeaedpabjaaGreatDoor
namespace Syn
theorem part_no2 {k : Int} {rs : List Int} (h : partB k rs = true) (hk : k ≠ 19) : (2 : Int) ∉ rs := by
 intro h2
 unfold partB at h
 split at h
 ·rw [decide_eq_true_eq] at h; rw [h] at h2; cases h2
 split at h
 ·rw [List.any_eq_true.2 ⟨2, h2, by decide⟩] at h; cases h
 split at h
 ·rw [decide_eq_true_eq] at h; rw [h] at h2; simp at h2
 split at h
 ·rw [decide_eq_true_eq] at h; rw [h] at h2; simp at h2
 split at h
 ·rw [Bool.or_eq_true, decide_eq_true_eq, decide_eq_true_eq] at h
  rcases h with h | h <;> rw [h] at h2 <;> simp at h2
 split at h
 ·rw [decide_eq_true_eq] at h; rw [h] at h2; simp at h2
 cases h
theorem role13 : roleI 13 = 2 := by decide
/-- The reference's walk: names and slots of what is visible, the next slot, the slots of all nodes, the first error and its node. -/
structure Wk where
 nms : List Txt
 sls : List Int
 nx : Nat
 sl : List Int
 nd : Int
 er : Int
def Wk.fail (w : Wk) (i : Nat) (e : Int) : Wk := if w.er = 0 then { w with nd := (i : Int), er := e } else w
def visI : List Txt → List Int → Txt → Int
 | n :: ns, s :: ss, x => if n = x then s else visI ns ss x
 | _, _, _ => -1
def Wk.decl (w : Wk) (s : Txt) : Wk := { w with nms := w.nms ++ [s], sls := w.sls ++ [(w.nx : Int)], nx := w.nx + 1 }
def Wk.put (w : Wk) (i : Nat) (v : Int) : Wk := { w with sl := w.sl.set i v }
def Wk.cut (w : Wk) (m : Nat) : Wk := { w with nms := w.nms.take m, sls := w.sls.take m }
/-- What is done at a node, behind all that is within it. -/
def atR (W : Nd → Int) (mark : Nat) (w : Wk) (i : Nat) (x : Nd) : Wk :=
 if x.k = 19 then w.cut mark
 else if x.k = 5 ∨ x.k = 14 then (if visI w.nms w.sls x.s < 0 then (w.put i (visI w.nms w.sls x.s)).fail i 4 else w.put i (visI w.nms w.sls x.s))
 else if x.k = 13 then ((if 0 ≤ visI w.nms w.sls x.s then w.fail i 6 else if 32 ≤ w.nx then w.fail i 3 else w).put i (w.nx : Int)).decl x.s
 else if x.k = 11 ∨ x.k = 12 then (if argE x.kids.length (W x) = 0 then w else w.fail i (argE x.kids.length (W x)))
 else w
mutual
def visT (W : Nd → Int) (b : Nat) : T → Wk → Wk
 | .node k s i keys ts, w => atR W w.nms.length (visTs W b ts w) (b + sizes ts) ⟨k, s, i, keys, roots b ts⟩
def visTs (W : Nd → Int) (b : Nat) : Ts → Wk → Wk
 | .nil, w => w
 | .cons t r, w => visTs W (b + size t) r (visT W b t w)
end
theorem fail_er {w : Wk} {i : Nat} {e : Int} (h : w.er ≠ 0) : w.fail i e = w := by unfold Wk.fail; rw [if_neg h]
theorem atR_stick (W : Nd → Int) (m : Nat) {w : Wk} (i : Nat) (x : Nd) (h : w.er ≠ 0) : (atR W m w i x).er = w.er ∧ (atR W m w i x).nd = w.nd := by
 unfold atR
 split
 ·exact ⟨rfl, rfl⟩
 ·split
  ·split
   ·rw [fail_er (w := w.put i _) h]; exact ⟨rfl, rfl⟩
   ·exact ⟨rfl, rfl⟩
  ·split
   ·split
    ·rw [fail_er h]; exact ⟨rfl, rfl⟩
    ·split
     ·rw [fail_er h]; exact ⟨rfl, rfl⟩
     ·exact ⟨rfl, rfl⟩
   ·split
    ·split
     ·exact ⟨rfl, rfl⟩
     ·rw [fail_er h]; exact ⟨rfl, rfl⟩
    ·exact ⟨rfl, rfl⟩
mutual
theorem visT_stick (W : Nd → Int) : ∀ (t : T) (b : Nat) (w : Wk), w.er ≠ 0 → (visT W b t w).er = w.er ∧ (visT W b t w).nd = w.nd
 | .node k s i keys ts, b, w, h => by
  rw [visT]
  obtain ⟨h1, h2⟩ := visTs_stick W ts b w h
  obtain ⟨h3, h4⟩ := atR_stick W w.nms.length (w := visTs W b ts w) (b + sizes ts) ⟨k, s, i, keys, roots b ts⟩ (by rw [h1]; exact h)
  exact ⟨h3.trans h1, h4.trans h2⟩
theorem visTs_stick (W : Nd → Int) : ∀ (ts : Ts) (b : Nat) (w : Wk), w.er ≠ 0 → (visTs W b ts w).er = w.er ∧ (visTs W b ts w).nd = w.nd
 | .nil, b, w, h => ⟨rfl, rfl⟩
 | .cons t r, b, w, h => by
  rw [visTs]
  obtain ⟨h1, h2⟩ := visT_stick W t b w h
  obtain ⟨h3, h4⟩ := visTs_stick W r (b + size t) _ (by rw [h1]; exact h)
  exact ⟨h3.trans h1, h4.trans h2⟩
end
/-- The slot as Go has it. -/
def outI : Option Nat → Int
 | some n => (n : Int)
 | none => -1
structure Rel (Z : Prop) (N : Nat) (w : Wk) (s : Sc) (slc : List Int) : Prop where
 er : w.er = 0
 ln : w.nms.length = w.sls.length
 nd : w.nms.Nodup
 nx : w.nx = s.cnt
 vis : ∀ x, visI w.nms w.sls x = outI (s.vis x)
 mx : s.cnt ≤ 32
 pos : ∀ z ∈ w.sls, 0 ≤ z
 sl : Z → slc.length ≤ N ∧ w.sl = slc ++ List.replicate (N - slc.length) (-1)
theorem visI_none : ∀ (ns : List Txt) (ss : List Int) (x : Txt), x ∉ ns → visI ns ss x = -1
 | [], _, _, _ => by unfold visI; rfl
 | n :: ns, [], _, _ => by unfold visI; rfl
 | n :: ns, s :: ss, x, h => by
  rw [visI, if_neg (fun e => h (by rw [e]; exact List.mem_cons_self ..))]
  exact visI_none ns ss x (fun q => h (List.mem_cons_of_mem _ q))
theorem visI_app : ∀ (ns : List Txt) (ss : List Int) (ms : List Txt) (us : List Int) (x : Txt), ns.length = ss.length → (x ∈ ns → visI (ns ++ ms) (ss ++ us) x = visI ns ss x) ∧ (x ∉ ns → visI (ns ++ ms) (ss ++ us) x = visI ms us x)
 | [], [], ms, us, x, _ => ⟨fun h => (by cases h), fun _ => rfl⟩
 | n :: ns, s :: ss, ms, us, x, h => by
  obtain ⟨h1, h2⟩ := visI_app ns ss ms us x (by simpa using h)
  rw [List.cons_append, List.cons_append, visI, visI]
  refine ⟨fun q => ?_, fun q => ?_⟩
  ·split
   ·rfl
   ·rename_i e
    rcases List.mem_cons.1 q with q | q
    ·exact absurd q.symm e
    ·exact h1 q
  ·rw [if_neg (fun e => q (by rw [e]; exact List.mem_cons_self ..))]
   exact h2 (fun r => q (List.mem_cons_of_mem _ r))
 | [], _ :: _, _, _, _, h => by cases h
 | _ :: _, [], _, _, _, h => by cases h
theorem visI_in : ∀ (ns : List Txt) (ss : List Int) (x : Txt), ns.length = ss.length → x ∈ ns → visI ns ss x ∈ ss
 | n :: ns, s :: ss, x, h, hx => by
  rw [visI]
  split
  ·exact List.mem_cons_self ..
  ·rename_i e
   rcases List.mem_cons.1 hx with q | q
   ·exact absurd q.symm e
   ·exact List.mem_cons_of_mem _ (visI_in ns ss x (by simpa using h) q)
 | _ :: _, [], _, h, _ => by cases h
/-- The variables that statements of a block declare. -/
def lets : Ts → List Txt
 | .nil => []
 | .cons t r => (match t with | .node k s _ _ _ => if k = 13 then [s] else []) ++ lets r
def letT (t : T) : List Txt := match t with | .node k s _ _ _ => if k = 13 then [s] else []
theorem lets_no : ∀ ts : Ts, (2 : Int) ∉ rolesT ts → lets ts = []
 | .nil, _ => rfl
 | .cons (.node k s i keys us) r, h => by
  rw [rolesT] at h
  rw [lets, lets_no r (fun q => h (List.mem_cons_of_mem _ q)), List.append_nil]
  rw [if_neg]
  intro e
  rw [e] at h
  exact h (by rw [kT, role13]; exact List.mem_cons_self ..)
def dels (s : Sc) (l : List Txt) : Sc := l.foldl Sc.del s
theorem dels_is : ∀ (l : List Txt) (s : Sc), (dels s l).cnt = s.cnt ∧ ∀ x, (dels s l).vis x = if x ∈ l then none else s.vis x
 | [], s => ⟨rfl, fun x => by rw [if_neg (by simp)]; rfl⟩
 | n :: l, s => by
  obtain ⟨h1, h2⟩ := dels_is l (s.del n)
  refine ⟨h1, fun x => ?_⟩
  have : dels s (n :: l) = dels (s.del n) l := rfl
  rw [this, h2]
  unfold Sc.del
  simp only [List.mem_cons]
  by_cases a : x ∈ l
  ·simp [a]
  ·by_cases b : x = n <;> simp [a, b]
theorem leave_lets : ∀ (ts : Ts) (A B : List Nd) (s : Sc), leaveP (A ++ flats A.length ts ++ B) s (roots A.length ts) = dels s (lets ts)
 | .nil, A, B, s => rfl
 | .cons t r, A, B, s => by
  have ih := fun s => leave_lets r (A ++ flat A.length t) B s
  rw [List.length_append, flat_len] at ih
  have hp := size_pos t
  have hg : (A ++ flats A.length (.cons t r) ++ B)[((A.length + size t - 1 : Nat) : Int).toNat]? = some (top t A.length) := by
   rw [Int.toNat_natCast, flats, List.append_assoc, List.append_assoc, List.getElem?_append_right (by omega), List.getElem?_append_left (by rw [flat_len]; omega), show A.length + size t - 1 - A.length = size t - 1 by omega, flat_at]
  have hs : ∀ s, leaveP (A ++ flats A.length (.cons t r) ++ B) s (roots A.length (.cons t r)) = leaveP (A ++ flats A.length (.cons t r) ++ B) (dels s (letT t)) (roots (A.length + size t) r) := fun s => by
   unfold leaveP
   rw [roots, List.foldl_cons]
   congr 1
   cases t with
   | node k s2 i keys us =>
    have hg' : (A ++ flats A.length (.cons (.node k s2 i keys us) r) ++ B)[((A.length + size (.node k s2 i keys us) - 1 : Nat) : Int).toNat]? = some ⟨k, s2, i, keys, roots A.length us⟩ := hg
    rw [hg']
    unfold letT
    simp only
    by_cases hk : k = 13
    ·rw [if_pos hk, if_pos hk]; rfl
    ·rw [if_neg hk, if_neg hk]; rfl
  rw [hs, flats, ← List.append_assoc A, ih]
  have e : lets (.cons t r) = letT t ++ lets r := by cases t; rfl
  rw [e]
  unfold dels
  rw [List.foldl_append]
/-- One step: no error, or the same one. -/
def Goes (Z : Prop) (N : Nat) (L : List Nd) (W : Nd → Int) (b : Nat) (ns : List Nd) (w w2 : Wk) (s : Sc) (slc : List Int) (new : List Txt) : Prop :=
 ∀ q, (∃ s' slc', runN L W (ns ++ q) b s slc = runN L W q (b + ns.length) s' slc' ∧ slc'.length = b + ns.length ∧ Rel Z N w2 s' slc' ∧ ∃ us, w2.nms = w.nms ++ new ∧ w2.sls = w.sls ++ us) ∨
  (∃ i e, runN L W (ns ++ q) b s slc = .inr (i, e) ∧ e ≠ 0 ∧ w2.er = e ∧ w2.nd = i)
theorem set_rep {slc : List Int} {N : Nat} {v : Int} (h : slc.length < N) : (slc ++ List.replicate (N - slc.length) (-1)).set slc.length v = (slc ++ [v]) ++ List.replicate (N - (slc ++ [v]).length) (-1) := by
 obtain ⟨m, hm⟩ : ∃ m, N - slc.length = m + 1 := ⟨N - slc.length - 1, by omega⟩
 rw [hm, List.set_append_right _ _ (Nat.le_refl _), Nat.sub_self, List.replicate_succ, List.set_cons_zero, List.length_append, List.length_singleton, show N - (slc.length + 1) = m by omega, List.append_assoc]
 rfl
theorem keep_rep {slc : List Int} {N : Nat} (h : slc.length < N) : slc ++ List.replicate (N - slc.length) (-1) = (slc ++ [-1]) ++ List.replicate (N - (slc ++ [-1]).length) (-1) := by
 obtain ⟨m, hm⟩ : ∃ m, N - slc.length = m + 1 := ⟨N - slc.length - 1, by omega⟩
 rw [hm, List.replicate_succ, List.length_append, List.length_singleton, show N - (slc.length + 1) = m by omega, List.append_assoc]
 rfl
theorem run_ok {L : List Nd} {W : Nd → Int} {s s' : Sc} {x : Nd} {v : Int} (h : visP L W s x = (s', v, 0)) (q : List Nd) (i : Nat) (sl : List Int) : runN L W (x :: q) i s sl = runN L W q (i + 1) s' (sl ++ [v]) := by
 rw [runN, h]; rfl
theorem run_er {L : List Nd} {W : Nd → Int} {s s' : Sc} {x : Nd} {v e : Int} (h : visP L W s x = (s', v, e)) (he : e ≠ 0) (q : List Nd) (i : Nat) (sl : List Int) : runN L W (x :: q) i s sl = .inr ((i : Int), e) := by
 rw [runN, h]; exact if_neg he
/-- The node itself, behind its parts. -/
theorem at_goes {Z : Prop} {N : Nat} {L : List Nd} {W : Nd → Int} {w0 w : Wk} {s : Sc} {slc : List Int} {x : Nd} {ts : Ts} {A B : List Nd} (h : Rel Z N w s slc) (hN : slc.length < N)
  (hL : x.k = 19 → L = A ++ flats A.length ts ++ B) (hk : x.kids = roots A.length ts) (hz : w0.nms.length = w0.sls.length) (hn : ∃ us, w.nms = w0.nms ++ lets ts ∧ w.sls = w0.sls ++ us) (h2 : x.k ≠ 19 → lets ts = []) :
  Goes Z N L W slc.length [x] w0 (atR W w0.nms.length w slc.length x) s slc (if x.k = 13 then [x.s] else []) := by
 intro q
 obtain ⟨us, n1, n2⟩ := hn
 rw [List.singleton_append, List.length_singleton]
 have hus : us.length = (lets ts).length := by
  have := h.ln
  rw [n1, n2, List.length_append, List.length_append] at this
  omega
 have hl1 : ∀ v : Int, (slc ++ [v]).length = slc.length + 1 := fun v => by rw [List.length_append]; rfl
 by_cases k19 : x.k = 19
 ·have k13 : ¬ x.k = 13 := by omega
  have k5 : ¬ (x.k = 5 ∨ x.k = 14) := by omega
  have k11 : ¬ (x.k = 11 ∨ x.k = 12) := by omega
  have hl : leaveP L s x.kids = dels s (lets ts) := by rw [hL k19, hk, leave_lets]
  have hv : visP L W s x = (dels s (lets ts), -1, 0) := by unfold visP; rw [if_neg k5, if_neg k13, if_neg k11, if_pos k19, hl]
  have ha : atR W w0.nms.length w slc.length x = w.cut w0.nms.length := by unfold atR; rw [if_pos k19]
  rw [ha, if_neg k13, run_ok hv]
  obtain ⟨d1, d2⟩ := dels_is (lets ts) s
  have hnd := h.nd
  rw [n1, List.nodup_append] at hnd
  have c1 : (w.cut w0.nms.length).nms = w0.nms := by unfold Wk.cut; simp only; rw [n1, List.take_left]
  have c2 : (w.cut w0.nms.length).sls = w0.sls := by unfold Wk.cut; simp only; rw [n2, hz, List.take_left]
  refine Or.inl ⟨_, _, rfl, hl1 _, ⟨h.er, by rw [c1, c2]; exact hz, by rw [c1]; exact hnd.1, by rw [d1]; exact h.nx, fun y => ?_, by rw [d1]; exact h.mx, fun z hm => h.pos z ?_, fun z => ⟨by rw [hl1]; omega, ?_⟩⟩, [], by rw [c1, List.append_nil], by rw [c2, List.append_nil]⟩
  ·rw [c1, c2, d2]
   have hv := h.vis y
   rw [n1, n2] at hv
   obtain ⟨a1, a2⟩ := visI_app w0.nms w0.sls (lets ts) us y hz
   split
   ·rename_i hy
    exact visI_none _ _ _ (fun r => hnd.2.2 y r y hy rfl)
   ·rename_i hy
    by_cases r : y ∈ w0.nms
    ·rw [a1 r] at hv; exact hv
    ·rw [a2 r, visI_none _ _ _ hy] at hv
     rw [visI_none _ _ _ r]; exact hv
  ·rw [c2] at hm
   rw [n2]
   exact List.mem_append_left _ hm
  ·rw [← keep_rep hN]
   exact (h.sl z).2
 ·have e0 := h2 k19
  rw [e0, List.append_nil] at n1
  rw [e0, List.length_nil] at hus
  obtain rfl := List.length_eq_zero_iff.1 hus
  rw [List.append_nil] at n2
  have hv := h.vis x.s
  have same : Rel Z N w s (slc ++ [-1]) ∧ ∃ us, w.nms = w0.nms ++ [] ∧ w.sls = w0.sls ++ us :=
   ⟨⟨h.er, h.ln, h.nd, h.nx, h.vis, h.mx, h.pos, fun z => ⟨by rw [hl1]; omega, by rw [(h.sl z).2]; exact keep_rep hN⟩⟩, [], by rw [n1, List.append_nil], by rw [n2, List.append_nil]⟩
  by_cases k5 : x.k = 5 ∨ x.k = 14
  ·have k13 : ¬ x.k = 13 := by omega
   rw [if_neg k13]
   cases e : s.vis x.s with
   | none =>
    rw [e] at hv
    have hp : visP L W s x = (s, -1, 4) := by unfold visP; rw [if_pos k5, e]
    have ha : atR W w0.nms.length w slc.length x = (w.put slc.length (visI w.nms w.sls x.s)).fail slc.length 4 := by unfold atR; rw [if_neg k19, if_pos k5, if_pos (by rw [hv]; decide)]
    rw [ha, run_er hp (by decide)]
    refine Or.inr ⟨_, _, rfl, by decide, ?_⟩
    unfold Wk.fail Wk.put
    rw [if_pos h.er]
    exact ⟨rfl, rfl⟩
   | some n =>
    rw [e] at hv
    have hp : visP L W s x = (s, (n : Int), 0) := by unfold visP; rw [if_pos k5, e]
    have ha : atR W w0.nms.length w slc.length x = w.put slc.length (n : Int) := by unfold atR; rw [if_neg k19, if_pos k5, if_neg (by rw [hv]; unfold outI; simp only; omega), hv]; rfl
    rw [ha, run_ok hp]
    refine Or.inl ⟨_, _, rfl, hl1 _, ⟨h.er, h.ln, h.nd, h.nx, h.vis, h.mx, h.pos, fun z => ⟨by rw [hl1]; have := (h.sl z).1; omega, ?_⟩⟩, [], by unfold Wk.put; simp only; rw [n1, List.append_nil], by unfold Wk.put; simp only; rw [n2, List.append_nil]⟩
    unfold Wk.put
    simp only
    rw [(h.sl z).2]
    exact set_rep hN
  ·by_cases k13 : x.k = 13
   ·rw [if_pos k13]
    cases e : s.vis x.s with
    | some n =>
     rw [e] at hv
     have hp : visP L W s x = (s, -1, 6) := by unfold visP; rw [if_neg k5, if_pos k13, e]
     have ha : atR W w0.nms.length w slc.length x = ((w.fail slc.length 6).put slc.length (w.nx : Int)).decl x.s := by unfold atR; rw [if_neg k19, if_neg k5, if_pos k13, if_pos (by rw [hv]; unfold outI; simp only; omega)]
     rw [ha, run_er hp (by decide)]
     refine Or.inr ⟨_, _, rfl, by decide, ?_⟩
     unfold Wk.fail Wk.put Wk.decl
     rw [if_pos h.er]
     exact ⟨rfl, rfl⟩
    | none =>
     rw [e] at hv
     by_cases c : s.cnt = 32
     ·have hp : visP L W s x = (s, -1, 3) := by unfold visP; rw [if_neg k5, if_pos k13, e]; simp only; rw [if_pos c]
      have ha : atR W w0.nms.length w slc.length x = ((w.fail slc.length 3).put slc.length (w.nx : Int)).decl x.s := by unfold atR; rw [if_neg k19, if_neg k5, if_pos k13, if_neg (by rw [hv]; decide), if_pos (by rw [h.nx]; omega)]
      rw [ha, run_er hp (by decide)]
      refine Or.inr ⟨_, _, rfl, by decide, ?_⟩
      unfold Wk.fail Wk.put Wk.decl
      rw [if_pos h.er]
      exact ⟨rfl, rfl⟩
     ·have hmx := h.mx
      have hp : visP L W s x = (s.add x.s, (s.cnt : Int), 0) := by unfold visP; rw [if_neg k5, if_pos k13, e]; simp only; rw [if_neg c]
      have ha : atR W w0.nms.length w slc.length x = (w.put slc.length (w.nx : Int)).decl x.s := by unfold atR; rw [if_neg k19, if_neg k5, if_pos k13, if_neg (by rw [hv]; decide), if_neg (by rw [h.nx]; omega)]
      rw [ha, run_ok hp]
      have hno : x.s ∉ w.nms := fun ha => by
       have := h.pos _ (visI_in w.nms w.sls x.s h.ln ha)
       rw [hv] at this
       exact absurd this (by decide)
      have c1 : ((w.put slc.length (w.nx : Int)).decl x.s).nms = w.nms ++ [x.s] := rfl
      have c2 : ((w.put slc.length (w.nx : Int)).decl x.s).sls = w.sls ++ [(w.nx : Int)] := rfl
      refine Or.inl ⟨_, _, rfl, hl1 _, ⟨h.er, ?_, ?_, ?_, fun y => ?_, ?_, ?_, fun z => ⟨by rw [hl1]; have := (h.sl z).1; omega, ?_⟩⟩, [(w.nx : Int)], by rw [c1, n1], by rw [c2, n2]⟩
      ·rw [c1, c2, List.length_append, List.length_append, h.ln]
       rfl
      ·rw [c1, List.nodup_append]
       refine ⟨h.nd, by simp, fun a ha b hb r => ?_⟩
       rw [List.mem_singleton.1 hb] at r
       rw [r] at ha
       exact hno ha
      ·unfold Wk.put Wk.decl Sc.add
       simp only
       rw [h.nx]
      ·rw [c1, c2]
       unfold Sc.add
       simp only
       obtain ⟨a1, a2⟩ := visI_app w.nms w.sls [x.s] [(w.nx : Int)] y h.ln
       by_cases r : y ∈ w.nms
       ·rw [a1 r, h.vis, if_neg (fun q => hno (by rw [← q]; exact r))]
       ·rw [a2 r, visI]
        by_cases q : y = x.s
        ·rw [if_pos q.symm, if_pos q, h.nx]; rfl
        ·rw [if_neg (fun u => q u.symm), if_neg q, ← h.vis, visI_none _ _ _ r]
         rfl
      ·unfold Sc.add
       simp only
       omega
      ·rw [c2]
       intro z hz
       rcases List.mem_append.1 hz with r | r
       ·exact h.pos z r
       ·rw [List.mem_singleton.1 r]; omega
      ·unfold Wk.put Wk.decl
       simp only
       rw [(h.sl z).2, h.nx]
       exact set_rep hN
   ·rw [if_neg k13]
    by_cases k11 : x.k = 11 ∨ x.k = 12
    ·have hp : visP L W s x = (s, -1, argE x.kids.length (W x)) := by unfold visP; rw [if_neg k5, if_neg k13, if_pos k11]
     by_cases c : argE x.kids.length (W x) = 0
     ·have ha : atR W w0.nms.length w slc.length x = w := by unfold atR; rw [if_neg k19, if_neg k5, if_neg k13, if_pos k11, if_pos c]
      rw [c] at hp
      rw [ha, run_ok hp]
      exact Or.inl ⟨_, _, rfl, hl1 _, same.1, same.2⟩
     ·have ha : atR W w0.nms.length w slc.length x = w.fail slc.length (argE x.kids.length (W x)) := by unfold atR; rw [if_neg k19, if_neg k5, if_neg k13, if_pos k11, if_neg c]
      rw [ha, run_er hp c]
      refine Or.inr ⟨_, _, rfl, c, ?_⟩
      unfold Wk.fail
      rw [if_pos h.er]
      exact ⟨rfl, rfl⟩
    ·have hp : visP L W s x = (s, -1, 0) := by unfold visP; rw [if_neg k5, if_neg k13, if_neg k11, if_neg k19]
     have ha : atR W w0.nms.length w slc.length x = w := by unfold atR; rw [if_neg k19, if_neg k5, if_neg k13, if_neg k11]
     rw [ha, run_ok hp]
     exact Or.inl ⟨_, _, rfl, hl1 _, same.1, same.2⟩
mutual
theorem vis_goes {Z : Prop} {N : Nat} {L : List Nd} {W : Nd → Int} : ∀ (t : T) (w : Wk) (s : Sc) (slc : List Int) (A B : List Nd), goodT t → Rel Z N w s slc → A.length = slc.length → L = A ++ flat A.length t ++ B → L.length ≤ N →
  Goes Z N L W slc.length (flat slc.length t) w (visT W slc.length t w) s slc (letT t)
 | .node k s0 i keys ts, w, s, slc, A, B, hg, h, hA, hL, hN => by
  rw [goodT] at hg
  obtain ⟨⟨_, _, _, g4⟩, g5⟩ := hg
  rw [flat, hA] at hL
  have hL2 : L = A ++ flats A.length ts ++ (⟨k, s0, i, keys, roots slc.length ts⟩ :: B) := by rw [hL, hA]; simp
  intro q
  rw [flat, List.append_assoc, visT]
  rcases viss_goes ts w s slc A _ g5 h hA hL2 hN ([⟨k, s0, i, keys, roots slc.length ts⟩] ++ q) with ⟨s', slc', e1, e2, e3, us, n1, n2⟩ | ⟨i', e, e1, e2, e3, e4⟩
  ·rw [flats_len] at e1 e2
   have hlt : slc'.length < N := by
    have := congrArg List.length hL2
    rw [List.length_append, List.length_append, flats_len, List.length_cons] at this
    omega
   have := at_goes (x := ⟨k, s0, i, keys, roots slc.length ts⟩) (L := L) (W := W) (w0 := w) (A := A) (B := ⟨k, s0, i, keys, roots slc.length ts⟩ :: B) (ts := ts) e3 hlt (fun _ => hL2) (by rw [hA]) h.ln ⟨us, n1, n2⟩ (fun hk => lets_no ts (part_no2 g4 hk)) q
   rw [e1]
   rw [e2] at this
   rcases this with ⟨s2, slc2, f1, f2, f3, us2, m1, m2⟩ | ⟨i2, e5, f1, f2, f3, f4⟩
   ·refine Or.inl ⟨s2, slc2, ?_, ?_, f3, us2, m1, m2⟩
    ·rw [f1, List.length_append, flats_len]; simp only [List.length_singleton]; rw [Nat.add_assoc]
    ·rw [f2, List.length_append, flats_len]; simp only [List.length_singleton]; rw [Nat.add_assoc]
   ·exact Or.inr ⟨i2, e5, f1, f2, f3, f4⟩
  ·obtain ⟨t1, t2⟩ := atR_stick W w.nms.length (w := visTs W slc.length ts w) (slc.length + sizes ts) ⟨k, s0, i, keys, roots slc.length ts⟩ (by rw [e3]; exact e2)
   exact Or.inr ⟨i', e, e1, e2, t1.trans e3, t2.trans e4⟩
theorem viss_goes {Z : Prop} {N : Nat} {L : List Nd} {W : Nd → Int} : ∀ (ts : Ts) (w : Wk) (s : Sc) (slc : List Int) (A B : List Nd), goodTs ts → Rel Z N w s slc → A.length = slc.length → L = A ++ flats A.length ts ++ B → L.length ≤ N →
  Goes Z N L W slc.length (flats slc.length ts) w (visTs W slc.length ts w) s slc (lets ts)
 | .nil, w, s, slc, A, B, hg, h, hA, hL, hN => by
  intro q
  exact Or.inl ⟨s, slc, rfl, rfl, h, [], (List.append_nil _).symm, (List.append_nil _).symm⟩
 | .cons t r, w, s, slc, A, B, hg, h, hA, hL, hN => by
  rw [goodTs] at hg
  intro q
  rw [flats, List.append_assoc, visTs]
  rw [flats] at hL
  rcases vis_goes t w s slc A (flats (A.length + size t) r ++ B) hg.1 h hA (by rw [hL]; simp) hN (flats (slc.length + size t) r ++ q) with ⟨s', slc', e1, e2, e3, us, n1, n2⟩ | ⟨i', e, e1, e2, e3, e4⟩
  ·rw [flat_len] at e1 e2
   rw [e1]
   have := viss_goes (W := W) r (visT W slc.length t w) s' slc' (A ++ flat A.length t) B hg.2 e3 (by rw [List.length_append, flat_len, hA, e2]) (by rw [hL, List.length_append, flat_len]; simp) hN q
   rw [e2] at this
   have hle : lets (.cons t r) = letT t ++ lets r := by cases t; rfl
   rcases this with ⟨s2, slc2, f1, f2, f3, us2, m1, m2⟩ | ⟨i2, e5, f1, f2, f3, f4⟩
   ·refine Or.inl ⟨s2, slc2, ?_, ?_, f3, us ++ us2, ?_, ?_⟩
    ·rw [f1, List.length_append, flats_len, flat_len, Nat.add_assoc]
    ·rw [f2, List.length_append, flats_len, flat_len, Nat.add_assoc]
    ·rw [m1, n1, hle, List.append_assoc]
    ·rw [m2, n2, List.append_assoc]
   ·exact Or.inr ⟨i2, e5, f1, f2, f3, f4⟩
  ·obtain ⟨t1, t2⟩ := visTs_stick W r (slc.length + size t) (visT W slc.length t w) (by rw [e3]; exact e2)
   exact Or.inr ⟨i', e, e1, e2, t1.trans e3, t2.trans e4⟩
end
theorem decl_rel {Z : Prop} {N : Nat} {w : Wk} {s : Sc} {slc : List Int} {x : Txt} (h : Rel Z N w s slc) (hno : x ∉ w.nms) (hc : s.cnt < 32) : Rel Z N (w.decl x) (s.add x) slc := by
 have c1 : (w.decl x).nms = w.nms ++ [x] := rfl
 have c2 : (w.decl x).sls = w.sls ++ [(w.nx : Int)] := rfl
 refine ⟨h.er, ?_, ?_, ?_, fun y => ?_, ?_, ?_, h.sl⟩
 ·rw [c1, c2, List.length_append, List.length_append, h.ln]
  rfl
 ·rw [c1, List.nodup_append]
  refine ⟨h.nd, by simp, fun a ha b hb r => ?_⟩
  rw [List.mem_singleton.1 hb] at r
  rw [r] at ha
  exact hno ha
 ·unfold Wk.decl Sc.add
  simp only
  rw [h.nx]
 ·rw [c1, c2]
  unfold Sc.add
  simp only
  obtain ⟨a1, a2⟩ := visI_app w.nms w.sls [x] [(w.nx : Int)] y h.ln
  by_cases r : y ∈ w.nms
  ·rw [a1 r, h.vis, if_neg (fun q => hno (by rw [← q]; exact r))]
  ·rw [a2 r, visI]
   by_cases q : y = x
   ·rw [if_pos q.symm, if_pos q, h.nx]; rfl
   ·rw [if_neg (fun u => q u.symm), if_neg q, ← h.vis, visI_none _ _ _ r]
    rfl
 ·unfold Sc.add
  simp only
  omega
 ·rw [c2]
  intro z hz
  rcases List.mem_append.1 hz with r | r
  ·exact h.pos z r
  ·rw [List.mem_singleton.1 r]; omega
def Wk.start (w : Wk) (ps : List Txt) : Wk := ps.foldl Wk.decl { w with nms := [], sls := [], nx := 0 }
theorem fold_rel {Z : Prop} {N : Nat} {slc : List Int} : ∀ (ps : List Txt) (w : Wk) (s : Sc), Rel Z N w s slc → ps.Nodup → (∀ p ∈ ps, p ∉ w.nms) → s.cnt + ps.length ≤ 32 → Rel Z N (ps.foldl Wk.decl w) (ps.foldl Sc.add s) slc
 | [], w, s, h, _, _, _ => h
 | p :: ps, w, s, h, hn, hp, hc => by
  rw [List.nodup_cons] at hn
  rw [List.length_cons] at hc
  rw [List.foldl_cons, List.foldl_cons]
  refine fold_rel ps _ _ (decl_rel h (hp p (List.mem_cons_self ..)) (by omega)) hn.2 (fun x hx q => ?_) (by unfold Sc.add; simp only; omega)
  have q : x ∈ w.nms ++ [p] := q
  rcases List.mem_append.1 q with r | r
  ·exact hp x (List.mem_cons_of_mem _ hx) r
  ·rw [List.mem_singleton.1 r] at hx
   exact hn.1 hx
theorem start_rel {Z : Prop} {N : Nat} {slc : List Int} {w : Wk} {ps : List Txt} (he : w.er = 0) (hn : ps.Nodup) (hc : ps.length ≤ 32) (hs : Z → slc.length ≤ N ∧ w.sl = slc ++ List.replicate (N - slc.length) (-1)) : Rel Z N (w.start ps) (sc0 ps) slc :=
 fold_rel ps _ _ ⟨he, rfl, List.nodup_nil, rfl, fun _ => rfl, by decide, fun z hz => (by cases hz), hs⟩ hn (fun _ _ h => by cases h) (by simpa using hc)
/-- The reference's walk through all functions. -/
def allR (W : Nd → Int) : Nat → List Fu → Wk → Wk
 | _, [], w => w
 | b, f :: fs, w => allR W (b + size f.body) fs (visT W b f.body (w.start f.params))
theorem start_er (ps : List Txt) (w : Wk) : (w.start ps).er = w.er ∧ (w.start ps).nd = w.nd ∧ (w.start ps).sl = w.sl := by
 have : ∀ (ps : List Txt) (w : Wk), (ps.foldl Wk.decl w).er = w.er ∧ (ps.foldl Wk.decl w).nd = w.nd ∧ (ps.foldl Wk.decl w).sl = w.sl := fun ps => by
  induction ps with
  | nil => exact fun w => ⟨rfl, rfl, rfl⟩
  | cons p ps ih => exact fun w => ih (w.decl p)
 exact this ps _
theorem allR_stick (W : Nd → Int) : ∀ (fs : List Fu) (b : Nat) (w : Wk), w.er ≠ 0 → (allR W b fs w).er = w.er ∧ (allR W b fs w).nd = w.nd
 | [], b, w, h => ⟨rfl, rfl⟩
 | f :: fs, b, w, h => by
  rw [allR]
  obtain ⟨s1, s2, _⟩ := start_er f.params w
  obtain ⟨h1, h2⟩ := visT_stick W f.body b (w.start f.params) (by rw [s1]; exact h)
  obtain ⟨h3, h4⟩ := allR_stick W fs (b + size f.body) _ (by rw [h1, s1]; exact h)
  exact ⟨h3.trans (h1.trans s1), h4.trans (h2.trans s2)⟩
def nxs (W : Nd → Int) (w : Wk) : Nat → List Fu → List Int
 | _, [] => []
 | b, f :: fs => ((visT W b f.body (w.start f.params)).nx : Int) :: nxs W w (b + size f.body) fs
theorem visT_nd (W : Nd → Int) (i : Nat) (x : Nd) (m : Nat) (w : Wk) (h : (atR W m w i x).er = 0) : (atR W m w i x).nd = w.nd := by
 have hf : ∀ (v : Wk) (e : Int), (v.fail i e).er = 0 → (v.fail i e).nd = v.nd ∨ e = 0 := fun v e h => by
  unfold Wk.fail at h ⊢
  split
  ·rename_i q
   rw [if_pos q] at h
   exact Or.inr h
  ·exact Or.inl rfl
 unfold atR at h ⊢
 split
 ·rfl
 ·rename_i k19
  rw [if_neg k19] at h
  split
  ·rename_i k5
   rw [if_pos k5] at h
   split
   ·rename_i c
    rw [if_pos c] at h
    exact (hf _ _ h).resolve_right (by decide)
   ·rfl
  ·rename_i k5
   rw [if_neg k5] at h
   split
   ·rename_i k13
    rw [if_pos k13] at h
    split
    ·rename_i c
     rw [if_pos c] at h
     exact (hf _ _ h).resolve_right (by decide)
    ·rename_i c
     rw [if_neg c] at h
     split
     ·rename_i c2
      rw [if_pos c2] at h
      exact (hf _ _ h).resolve_right (by decide)
     ·rfl
   ·rename_i k13
    rw [if_neg k13] at h
    split
    ·rename_i k11
     rw [if_pos k11] at h
     split
     ·rfl
     ·rename_i c
      rw [if_neg c] at h
      exact (hf _ _ h).resolve_right c
    ·rfl
mutual
theorem visT_nd0 (W : Nd → Int) : ∀ (t : T) (b : Nat) (w : Wk), (visT W b t w).er = 0 → (visT W b t w).nd = w.nd
 | .node k s i keys ts, b, w, h => by
  rw [visT] at h ⊢
  rw [visT_nd _ _ _ _ _ h]
  refine visTs_nd0 W ts b w ?_
  by_cases e : (visTs W b ts w).er = 0
  ·exact e
  ·rw [(atR_stick W w.nms.length (b + sizes ts) ⟨k, s, i, keys, roots b ts⟩ e).1] at h
   exact h
theorem visTs_nd0 (W : Nd → Int) : ∀ (ts : Ts) (b : Nat) (w : Wk), (visTs W b ts w).er = 0 → (visTs W b ts w).nd = w.nd
 | .nil, b, w, h => rfl
 | .cons t r, b, w, h => by
  rw [visTs] at h ⊢
  have e : (visT W b t w).er = 0 := by
   by_cases e : (visT W b t w).er = 0
   ·exact e
   ·rw [(visTs_stick W r (b + size t) _ e).1] at h
    exact absurd h e
  rw [visTs_nd0 W r _ _ h, visT_nd0 W t b w e]
end
theorem all_goes {L : List Nd} {W : Nd → Int} {N : Nat} (wz : Wk) (hz : wz.er = 0) : ∀ (fs : List Fu) (w : Wk) (slc lo : List Int) (A B : List Nd), (∀ f ∈ fs, goodFu f ∧ f.params.Nodup ∧ f.params.length ≤ 32) → w.er = 0 → slc.length ≤ N → w.sl = slc ++ List.replicate (N - slc.length) (-1) →
  A.length = slc.length → L = A ++ flatF A.length fs ++ B → L.length ≤ N →
  (∃ D, runF L W (funcF slc.length fs) slc.length slc lo = ⟨slc ++ D, lo ++ nxs W wz slc.length fs, 0, 0⟩ ∧ (allR W slc.length fs w).er = 0 ∧ (allR W slc.length fs w).nd = w.nd ∧ D.length = sizeF fs ∧ (allR W slc.length fs w).sl = (slc ++ D) ++ List.replicate (N - (slc ++ D).length) (-1)) ∨
  (∃ i e, runF L W (funcF slc.length fs) slc.length slc lo = ⟨[], [], i, e⟩ ∧ e ≠ 0 ∧ (allR W slc.length fs w).er = e ∧ (allR W slc.length fs w).nd = i)
 | [], w, slc, lo, A, B, _, he, hN, hs, _, _, _ => Or.inl ⟨[], by rw [funcF, runF, nxs, List.append_nil, List.append_nil], he, rfl, rfl, by rw [List.append_nil]; exact hs⟩
 | f :: fs, w, slc, lo, A, B, hg, he, hN, hs, hA, hL, hLN => by
  obtain ⟨g1, g2, g3⟩ := hg f (List.mem_cons_self ..)
  have hp := size_pos f.body
  rw [flatF] at hL
  have hL2 : L = A ++ flat A.length f.body ++ (flatF (A.length + size f.body) fs ++ B) := by rw [hL]; simp
  have hd : (L.drop slc.length).take (((slc.length + size f.body - 1 : Nat) : Int).toNat + 1 - slc.length) = flat slc.length f.body := by
   rw [hL2, List.append_assoc, ← hA, List.drop_left, Int.toNat_natCast, show A.length + size f.body - 1 + 1 - A.length = (flat A.length f.body).length by rw [flat_len]; omega, List.take_left]
  rw [funcF, runF, allR, nxs]
  simp only
  rw [hd, show ((slc.length + size f.body - 1 : Nat) : Int).toNat + 1 = slc.length + size f.body by omega]
  have h1 := vis_goes (W := W) f.body (w.start f.params) (sc0 f.params) slc A _ g1.1 (start_rel (Z := True) he g2 g3 (fun _ => ⟨hN, hs⟩)) hA hL2 hLN []
  have h2 := vis_goes (W := W) f.body (wz.start f.params) (sc0 f.params) slc A _ g1.1 (start_rel (Z := False) (N := N) hz g2 g3 (fun h => h.elim)) hA hL2 hLN []
  rw [List.append_nil] at h1 h2
  rcases h1 with ⟨s', slc', e1, e2, e3, _⟩ | ⟨i', e, e1, e2, e3, e4⟩
  ·rw [runN] at e1
   rw [flat_len] at e2
   rw [e1]
   simp only
   have hnx : ((visT W slc.length f.body (wz.start f.params)).nx : Int) = (s'.cnt : Int) := by
    rcases h2 with ⟨s2, slc2, f1, _, f3, _⟩ | ⟨i', e, f1, _⟩
    ·rw [runN, e1] at f1
     obtain ⟨rfl, rfl⟩ := Prod.mk.inj (Sum.inl.inj f1)
     rw [f3.nx]
    ·rw [e1] at f1
     cases f1
   have hlen : L.length = A.length + size f.body + sizeF fs + B.length := by rw [hL, List.length_append, List.length_append, List.length_append, flat_len, flatF_len]; omega
   have hex : ∃ D1, slc' = slc ++ D1 := by
    have := runN_ok (W := W) (ps := f.params) (low := slc.length) (L := L) (flat slc.length f.body) (sc0 f.params) slc (s', slc') (sc0_ok L f.params slc) (Nat.le_refl _) ⟨flatF (A.length + size f.body) fs ++ B, by rw [hL2, List.append_assoc, ← hA, List.drop_left]⟩ e1
    exact this.2.2
   obtain ⟨D1, rfl⟩ := hex
   have hsl := e3.sl trivial
   have hnd : (visT W slc.length f.body (w.start f.params)).nd = w.nd := (visT_nd0 W f.body slc.length _ e3.er).trans (start_er f.params w).2.1
   rcases all_goes wz hz fs (visT W slc.length f.body (w.start f.params)) (slc ++ D1) (lo ++ [(s'.cnt : Int)]) (A ++ flat A.length f.body) B (fun g h => hg g (List.mem_cons_of_mem _ h)) e3.er hsl.1 hsl.2 (by rw [List.length_append, flat_len, hA, e2]) (by rw [hL2, List.length_append, flat_len]; simp) hLN with ⟨D, k1, k2, k3, k4, k5⟩ | ⟨i', e, k1, k2, k3, k4⟩
   ·rw [e2] at k1 k2 k3 k5
    refine Or.inl ⟨D1 ++ D, ?_, k2, k3.trans hnd, ?_, by rw [← List.append_assoc]; exact k5⟩
    ·rw [k1, hnx, List.append_assoc, List.append_assoc]
     rfl
    ·rw [List.length_append, k4, sizeF]
     rw [List.length_append] at e2
     omega
   ·rw [e2] at k1 k3 k4
    exact Or.inr ⟨i', e, k1, k2, k3, k4⟩
  ·rw [e1]
   simp only
   obtain ⟨t1, t2⟩ := allR_stick W fs (slc.length + size f.body) (visT W slc.length f.body (w.start f.params)) (by rw [e3]; exact e2)
   exact Or.inr ⟨i', e, rfl, e2, t1.trans e3, t2.trans e4⟩
end Syn
end Go.Proofs.YtcapkeaedpabjaaGreatDoor
