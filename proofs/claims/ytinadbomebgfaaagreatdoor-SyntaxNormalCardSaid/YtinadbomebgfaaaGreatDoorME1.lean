/-
  Layer 8, texts merged: SynE, SynF, SynG, SynH. For every argument within the bounds that each theorem names.
-/
import Derived.Test.YtinadbomebgfaaaGreatDoorMF7
import Derived.Test.YtinadbomebgfaaaGreatDoorMG4

/-
  Layer 8, plainly: what Check accepts is the row of a program's trees, each node as its kind wants it.
-/
namespace Go.Proofs.YtinadbomebgfaaaGreatDoor
namespace Syn
def kT : T → Int
  | .node k _ _ _ _ => k
def rolesT : Ts → List Int
  | .nil => []
  | .cons t r => roleI (kT t) :: rolesT r
mutual
/-- All nodes are as their kinds want them. -/
def goodT : T → Prop
  | .node k s i keys ts => (textB k s = true ∧ intF k i = true ∧ keysB k keys (count ts) = true ∧ partB k (rolesT ts) = true) ∧ goodTs ts
def goodTs : Ts → Prop
  | .nil => True
  | .cons t r => goodT t ∧ goodTs r
end
def goodFu (f : Fu) : Prop := goodT f.body ∧ kT f.body = 19 ∧ nameB f.name = true ∧ ∀ p ∈ f.params, nameB p = true
/-- The roots of trees side by side, the last one first. -/
def rootS : List T → List Int
  | [] => []
  | t :: s => rootS s ++ [((fsum s + size t - 1 : Nat) : Int)]
theorem rootS_len : ∀ s, (rootS s).length = s.length
  | [] => rfl
  | t :: s => by rw [rootS, List.length_append, rootS_len s]; rfl
theorem rootS_stk : ∀ (us : Ts) (st : List T), rootS (stk us st) = rootS st ++ roots (fsum st) us
  | .nil, st => by rw [stk, roots, List.append_nil]
  | .cons t r, st => by rw [stk, rootS_stk r, rootS, roots, fsum]; simp
theorem flatS_stk : ∀ (us : Ts) (st : List T), flatS 0 (stk us st) = flatS 0 st ++ flats (fsum st) us
  | .nil, st => by rw [stk, flats, List.append_nil]
  | .cons t r, st => by rw [stk, flatS_stk r, flatS, flats, fsum, Nat.zero_add, List.append_assoc]
theorem stk_split : ∀ (m : Nat) (st : List T), m ≤ st.length → ∃ us st2, st = stk us st2 ∧ count us = m
  | 0, st, _ => ⟨.nil, st, rfl, rfl⟩
  | m + 1, st, h => by
    obtain ⟨us, st2, h1, h2⟩ := stk_split m st (by omega)
    have hl : ∀ (us : Ts) (st : List T), (stk us st).length = st.length + count us := fun us => by
      have : ∀ us : Ts, ∀ st : List T, (stk us st).length = st.length + count us := fun us => by
        induction us using Ts.rec (motive_1 := fun _ => True) with
        | nil => intro st; rfl
        | cons t r _ ih => intro st; rw [stk, ih, count, List.length_cons]; omega
        | node => trivial
      exact this us
    cases st2 with
    | nil => rw [h1, hl] at h; simp at h; omega
    | cons t st3 => exact ⟨.cons t us, st3, by rw [stk]; exact h1, by rw [count, h2]⟩
theorem roles_flats : ∀ (us : Ts) (A B : List Nd), rolesL (A ++ flats A.length us ++ B) (roots A.length us) = rolesT us
  | .nil, A, B => rfl
  | .cons t r, A, B => by
    have ih := roles_flats r (A ++ flat A.length t) B
    rw [List.length_append, flat_len] at ih
    rw [flats, roots, rolesT, ← List.append_assoc A, ← ih]
    unfold rolesL
    rw [List.map_cons]
    congr 1
    have hp := size_pos t
    rw [Int.toNat_natCast, List.append_assoc, List.append_assoc, List.getElem?_append_right (by omega), List.getElem?_append_left (by rw [flat_len]; omega), show A.length + size t - 1 - A.length = size t - 1 by omega, flat_at]
    cases t
    rfl
theorem goodTs_app : ∀ (a b : Ts), goodTs (app a b) ↔ goodTs a ∧ goodTs b
  | .nil, b => by rw [app, goodTs]; simp
  | .cons t r, b => by rw [app, goodTs, goodTs, goodTs_app r, and_assoc]
theorem good_stk : ∀ (us : Ts) (st : List T), (∀ t ∈ stk us st, goodT t) → goodTs us ∧ ∀ t ∈ st, goodT t
  | .nil, st, h => ⟨by rw [goodTs]; trivial, h⟩
  | .cons t r, st, h => by
    obtain ⟨h1, h2⟩ := good_stk r (t :: st) h
    exact ⟨by rw [goodTs]; exact ⟨h2 t (List.mem_cons_self ..), h1⟩, fun u hu => h2 u (List.mem_cons_of_mem _ hu)⟩
theorem rts_trees (L : List Nd) : ∀ (r : List Nd) (st : List T) (rs : List Int), L = flatS 0 st ++ r → (∀ t ∈ st, goodT t) → rts L (fsum st) r (rootS st) = some rs →
    ∃ st2, L = flatS 0 st2 ∧ rs = rootS st2 ∧ ∀ t ∈ st2, goodT t
  | [], st, rs, h1, h2, h3 => by
    rw [rts] at h3
    exact ⟨st, by rw [h1, List.append_nil], (Option.some.inj h3).symm, h2⟩
  | x :: r, st, rs, h1, h2, h3 => by
    rw [rts] at h3
    split at h3
    · rename_i hk
      split at h3
      · rename_i hx
        obtain ⟨hk1, hk2⟩ := hk
        rw [rootS_len] at hk1
        obtain ⟨us, st2, rfl, hc⟩ := stk_split x.kids.length st hk1
        obtain ⟨g1, g2⟩ := good_stk us st2 h2
        rw [rootS_stk, List.length_append, roots_len, hc, Nat.add_sub_cancel, List.drop_left] at hk2
        rw [rootS_stk, List.length_append, roots_len, hc, Nat.add_sub_cancel, List.take_left] at h3
        rw [flatS_stk] at h1
        have hfl : (flatS 0 st2).length = fsum st2 := flatS_len 0 st2
        have hro : rolesL L x.kids = rolesT us := by
          have := roles_flats us (flatS 0 st2) (x :: r)
          rw [hfl] at this
          rw [← hk2, h1]
          exact this
        have hgood : goodT (.node x.k x.s x.i x.keys us) := by
          unfold ndB at hx
          rw [Bool.and_eq_true, Bool.and_eq_true, Bool.and_eq_true, hro, ← hc] at hx
          rw [goodT]
          exact ⟨⟨hx.1, hx.2.1, hx.2.2.1, hx.2.2.2⟩, g1⟩
        have hf : fsum (.node x.k x.s x.i x.keys us :: st2) = fsum (stk us st2) + 1 := by rw [fsum, size, fsum_stk]; omega
        refine rts_trees L r (.node x.k x.s x.i x.keys us :: st2) rs ?_ (fun t ht => ?_) ?_
        · rw [h1, flatS, flat, Nat.zero_add, hk2]
          simp
        · rcases List.mem_cons.1 ht with rfl | ht
          · exact hgood
          · exact g2 t ht
        · rw [hf, rootS, size]
          rw [show fsum st2 + (sizes us + 1) - 1 = fsum (stk us st2) by rw [fsum_stk]; omega]
          exact h3
      · cases h3
    · cases h3
theorem goodFs_snoc {L : List Nd} : ∀ (a : List Int) (b : List Fw) (r : Int) (f : Fw), a.length = b.length → goodFs L (a ++ [r]) (b ++ [f]) = true → goodFs L a b = true ∧ goodF L r f = true
  | [], [], r, f, _, h => by
    rw [List.nil_append, List.nil_append, goodFs, Bool.and_eq_true] at h
    exact ⟨rfl, h.1⟩
  | x :: a, y :: b, r, f, hl, h => by
    rw [List.cons_append, List.cons_append, goodFs, Bool.and_eq_true] at h
    obtain ⟨h1, h2⟩ := goodFs_snoc a b r f (by simpa using hl) h.2
    exact ⟨by rw [goodFs, h.1, h1]; rfl, h2⟩
  | [], _ :: _, _, _, hl, _ => by cases hl
  | _ :: _, [], _, _, hl, _ => by cases hl
theorem funcs_of (L : List Nd) : ∀ (st : List T) (F : List Fw) (R : List Nd), L = flatS 0 st ++ R → (∀ t ∈ st, goodT t) → (rootS st).length = F.length → goodFs L (rootS st) F = true →
    ∃ fs, flatS 0 st = flatF 0 fs ∧ F = funcF 0 fs ∧ fsum st = sizeF fs ∧ ∀ f ∈ fs, goodFu f
  | [], F, R, hL, _, hl, h => by
    obtain rfl := List.length_eq_zero_iff.1 hl.symm
    exact ⟨[], rfl, rfl, rfl, fun f hf => by cases hf⟩
  | t :: st, F, R, hL, hg, hl, h => by
    rcases List.eq_nil_or_concat F with rfl | ⟨F', f, rfl⟩
    · rw [rootS_len] at hl; cases hl
    · rw [List.concat_eq_append] at *
      rw [rootS] at h hl
      obtain ⟨h1, h2⟩ := goodFs_snoc _ _ _ _ (by simpa using hl) h
      rw [flatS, List.append_assoc, Nat.zero_add] at hL
      obtain ⟨fs, a1, a2, a3, a4⟩ := funcs_of L st F' (flat (fsum st) t ++ R) hL (fun t ht => hg t (List.mem_cons_of_mem _ ht)) (by simpa using hl) h1
      unfold goodF at h2
      rw [Bool.and_eq_true, Bool.and_eq_true, Bool.and_eq_true, decide_eq_true_eq, decide_eq_true_eq] at h2
      obtain ⟨b1, b2, b3, b4⟩ := h2
      have hk : kT t = 19 := by
        have hp := size_pos t
        have hfl : (flatS 0 st).length = fsum st := flatS_len 0 st
        unfold kindAt at b2
        rw [Int.toNat_natCast, hL, List.getElem?_append_right (by omega), List.getElem?_append_left (by rw [flat_len]; omega), hfl, show fsum st + size t - 1 - fsum st = size t - 1 by omega, flat_at] at b2
        cases t
        exact b2
      refine ⟨fs ++ [⟨f.name, f.params, t⟩], ?_, ?_, ?_, fun g hg2 => ?_⟩
      · rw [flatS, flatF_app, a1, flatF, flatF, List.append_nil, a3]
      · rw [funcF_app, ← a2, funcF, funcF, ← a3, Nat.zero_add, ← b1]
      · rw [fsum, sizeF_app, a3, sizeF, sizeF, Nat.add_zero]
      · rcases List.mem_append.1 hg2 with q | q
        · exact a4 g q
        · rw [List.mem_singleton.1 q]
          refine ⟨hg t (List.mem_cons_self ..), hk, b3, fun p hp => ?_⟩
          simp only [Bool.not_eq_true', List.any_eq_false] at b4
          simpa using b4 p hp
/-- A program that isProper accepts is one of good trees. -/
theorem proper_good {L : List Nd} {F : List Fw} (h : properB L F = true) : ∃ fs, L = flatF 0 fs ∧ F = funcF 0 fs ∧ ∀ f ∈ fs, goodFu f := by
  unfold properB at h
  cases e : rts L 0 L [] with
  | none => rw [e] at h; cases h
  | some rs =>
    rw [e, withRts, Bool.and_eq_true, decide_eq_true_eq] at h
    obtain ⟨st, h1, rfl, h3⟩ := rts_trees L L [] rs rfl (fun t ht => by cases ht) e
    obtain ⟨fs, a1, a2, a3, a4⟩ := funcs_of L st F [] (by rw [← h1, List.append_nil]) h3 h.1 h.2
    exact ⟨fs, by rw [← a1]; exact h1, a2, a4⟩
end Syn
end Go.Proofs.YtinadbomebgfaaaGreatDoor

/-
  Layer 8, plainly: good expressions, statements and blocks, kind by kind.
-/
namespace Go.Proofs.YtinadbomebgfaaaGreatDoor
namespace Syn
mutual
/-- An expression as the parser makes them. -/
inductive GE : T → Prop
  | null : GE (leaf 1 [] 0)
  | bool (i : Int) (h : i = 0 ∨ i = 1) : GE (leaf 2 [] i)
  | int (i : Int) (h : intB i = true) : GE (leaf 3 [] i)
  | str (s : Txt) (h : strB s = true) : GE (leaf 4 s 0)
  | var (s : Txt) (h : nameB s = true) : GE (leaf 5 s 0)
  | list (ts : Ts) (h : GEs ts) : GE (.node 6 [] 0 [] ts)
  | map (keys : List Txt) (ts : Ts) (hl : keys.length = count ts) (ha : ascB none keys = true) (h : GEs ts) : GE (.node 7 [] 0 keys ts)
  | una (s : Txt) (a : T) (hs : s = [45] ∨ s = [110, 111, 116]) (h : GE a) : GE (una s a)
  | bin (s : Txt) (a b : T) (hs : binL s ≠ 0) (h1 : GE a) (h2 : GE b) : GE (bin s a b)
  | idx (a b : T) (h1 : GE a) (h2 : GE b) : GE (idx a b)
  | call (s : Txt) (ts : Ts) (hs : nameB s = true) (h : GEs ts) : GE (.node 11 s 0 [] ts)
  | host (s : Txt) (ts : Ts) (hs : hostB s = true) (h : GEs ts) : GE (.node 12 s 0 [] ts)
inductive GEs : Ts → Prop
  | nil : GEs .nil
  | cons (t : T) (r : Ts) (h : GE t) (hr : GEs r) : GEs (.cons t r)
end
mutual
inductive GdS : T → Prop
  | lt (s : Txt) (e : T) (hs : nameB s = true) (h : GE e) : GdS (.node 13 s 0 [] (.cons e .nil))
  | set (s : Txt) (e : T) (hs : nameB s = true) (h : GE e) : GdS (.node 14 s 0 [] (.cons e .nil))
  | if1 (e b : T) (h : GE e) (hb : GdB b) : GdS (.node 15 [] 0 [] (.cons e (.cons b .nil)))
  | if2 (e b d : T) (h : GE e) (hb : GdB b) (hd : GdB d) : GdS (.node 15 [] 0 [] (.cons e (.cons b (.cons d .nil))))
  | wh (e b : T) (h : GE e) (hb : GdB b) : GdS (.node 16 [] 0 [] (.cons e (.cons b .nil)))
  | ret (e : T) (h : GE e) : GdS (.node 17 [] 0 [] (.cons e .nil))
  | drop (e : T) (h : GE e) : GdS (.node 18 [] 0 [] (.cons e .nil))
inductive GdB : T → Prop
  | blk (ts : Ts) (h : GdSs ts) : GdB (.node 19 [] 0 [] ts)
inductive GdSs : Ts → Prop
  | nil : GdSs .nil
  | cons (t : T) (r : Ts) (h : GdS t) (hr : GdSs r) : GdSs (.cons t r)
end
theorem role_kind {k : Int} : (roleI k = 1 → 1 ≤ k ∧ k ≤ 12) ∧ (roleI k = 2 → 13 ≤ k ∧ k ≤ 18) ∧ (roleI k = 3 → k = 19) := by
  unfold roleI
  refine ⟨fun h => ?_, fun h => ?_, fun h => ?_⟩
  all_goals
    split at h
    · omega
    split at h
    · omega
    split at h <;> omega
theorem ts_one {ts : Ts} {x : Int} (h : rolesT ts = [x]) : ∃ t, ts = .cons t .nil ∧ roleI (kT t) = x := by
  cases ts with
  | nil => cases h
  | cons t r =>
    cases r with
    | nil => rw [rolesT, rolesT] at h; exact ⟨t, rfl, by simpa using h⟩
    | cons u r => rw [rolesT, rolesT] at h; simp at h
theorem ts_two {ts : Ts} {x y : Int} (h : rolesT ts = [x, y]) : ∃ t u, ts = .cons t (.cons u .nil) ∧ roleI (kT t) = x ∧ roleI (kT u) = y := by
  cases ts with
  | nil => cases h
  | cons t r =>
    rw [rolesT] at h
    simp only [List.cons.injEq] at h
    obtain ⟨u, rfl, hu⟩ := ts_one h.2
    exact ⟨t, u, rfl, h.1, hu⟩
theorem ts_three {ts : Ts} {x y z : Int} (h : rolesT ts = [x, y, z]) : ∃ t u v, ts = .cons t (.cons u (.cons v .nil)) ∧ roleI (kT t) = x ∧ roleI (kT u) = y ∧ roleI (kT v) = z := by
  cases ts with
  | nil => cases h
  | cons t r =>
    rw [rolesT] at h
    simp only [List.cons.injEq] at h
    obtain ⟨u, v, rfl, hu, hv⟩ := ts_two h.2
    exact ⟨t, u, v, rfl, h.1, hu, hv⟩
theorem any_roles {ts : Ts} {x : Int} (h : ((rolesT ts).any fun v => v != x) = false) : ∀ v ∈ rolesT ts, v = x := fun v hv => by
  rw [List.any_eq_false] at h
  simpa using h v hv
theorem keys_no {k : Int} {keys : List Txt} {m : Nat} (hk : k ≠ 7) (h : keysB k keys m = true) : keys = [] := by
  unfold keysB at h
  rw [if_neg hk, decide_eq_true_eq] at h
  exact List.length_eq_zero_iff.1 h
theorem int_no {k i : Int} (h2 : k ≠ 2) (h3 : k ≠ 3) (h : intF k i = true) : i = 0 := by
  unfold intF at h
  rw [if_neg h2, if_neg h3] at h
  simpa using h
theorem part_nil {ts : Ts} (h : rolesT ts = []) : ts = .nil := by
  cases ts with
  | nil => rfl
  | cons t r => cases h
mutual
theorem good_kinds : ∀ (t : T), goodT t → (roleI (kT t) = 1 → GE t) ∧ (roleI (kT t) = 2 → GdS t) ∧ (roleI (kT t) = 3 → GdB t)
  | .node k s i keys ts, h => by
    rw [goodT] at h
    obtain ⟨⟨h1, h2, h3, h4⟩, h5⟩ := h
    have hs := goods_kinds ts h5
    rw [kT]
    refine ⟨fun hr => ?_, fun hr => ?_, fun hr => ?_⟩
    · have hk := role_kind.1 hr
      rcases (show k = 1 ∨ k = 2 ∨ k = 3 ∨ k = 4 ∨ k = 5 ∨ k = 6 ∨ k = 7 ∨ k = 8 ∨ k = 9 ∨ k = 10 ∨ k = 11 ∨ k = 12 by omega) with rfl | rfl | rfl | rfl | rfl | rfl | rfl | rfl | rfl | rfl | rfl | rfl
      · obtain rfl := keys_no (by decide) h3
        obtain rfl := int_no (by decide) (by decide) h2
        obtain rfl := part_nil (by simpa [partB] using h4)
        obtain rfl : s = [] := by simpa [textB] using h1
        exact .null
      · obtain rfl := keys_no (by decide) h3
        obtain rfl := part_nil (by simpa [partB] using h4)
        obtain rfl : s = [] := by simpa [textB] using h1
        exact .bool i (by simpa [intF] using h2)
      · obtain rfl := keys_no (by decide) h3
        obtain rfl := part_nil (by simpa [partB] using h4)
        obtain rfl : s = [] := by simpa [textB] using h1
        exact .int i (by simpa [intF] using h2)
      · obtain rfl := keys_no (by decide) h3
        obtain rfl := int_no (by decide) (by decide) h2
        obtain rfl := part_nil (by simpa [partB] using h4)
        exact .str s (by simpa [textB] using h1)
      · obtain rfl := keys_no (by decide) h3
        obtain rfl := int_no (by decide) (by decide) h2
        obtain rfl := part_nil (by simpa [partB] using h4)
        exact .var s (by simpa [textB] using h1)
      · obtain rfl := keys_no (by decide) h3
        obtain rfl := int_no (by decide) (by decide) h2
        obtain rfl : s = [] := by simpa [textB] using h1
        exact .list ts (hs.1 (any_roles (by simpa [partB] using h4)))
      · obtain rfl := int_no (by decide) (by decide) h2
        obtain rfl : s = [] := by simpa [textB] using h1
        have hk3 : keys.length = count ts ∧ ascB none keys = true := by simpa [keysB] using h3
        exact .map keys ts hk3.1 hk3.2 (hs.1 (any_roles (by simpa [partB] using h4)))
      · obtain rfl := keys_no (by decide) h3
        obtain rfl := int_no (by decide) (by decide) h2
        obtain ⟨a, rfl, ha⟩ := ts_one (show rolesT ts = [1] by simpa [partB] using h4)
        have hc := hs.1 (by rw [rolesT, rolesT, ha]; simp)
        cases hc with
        | cons _ _ hc _ => exact .una s a (by simpa [textB] using h1) hc
      · obtain rfl := keys_no (by decide) h3
        obtain rfl := int_no (by decide) (by decide) h2
        obtain ⟨a, b, rfl, ha, hb⟩ := ts_two (show rolesT ts = [1, 1] by simpa [partB] using h4)
        have hc := hs.1 (by rw [rolesT, rolesT, rolesT, ha, hb]; simp)
        cases hc with
        | cons _ _ hc hd =>
          cases hd with
          | cons _ _ hd _ => exact .bin s a b (by simpa [textB] using h1) hc hd
      · obtain rfl := keys_no (by decide) h3
        obtain rfl := int_no (by decide) (by decide) h2
        obtain rfl : s = [] := by simpa [textB] using h1
        obtain ⟨a, b, rfl, ha, hb⟩ := ts_two (show rolesT ts = [1, 1] by simpa [partB] using h4)
        have hc := hs.1 (by rw [rolesT, rolesT, rolesT, ha, hb]; simp)
        cases hc with
        | cons _ _ hc hd =>
          cases hd with
          | cons _ _ hd _ => exact .idx a b hc hd
      · obtain rfl := keys_no (by decide) h3
        obtain rfl := int_no (by decide) (by decide) h2
        exact .call s ts (by simpa [textB] using h1) (hs.1 (any_roles (by simpa [partB] using h4)))
      · obtain rfl := keys_no (by decide) h3
        obtain rfl := int_no (by decide) (by decide) h2
        exact .host s ts (by simpa [textB] using h1) (hs.1 (any_roles (by simpa [partB] using h4)))
    · have hk := role_kind.2.1 hr
      obtain rfl := keys_no (by omega) h3
      obtain rfl := int_no (by omega) (by omega) h2
      rcases (show k = 13 ∨ k = 14 ∨ k = 15 ∨ k = 16 ∨ k = 17 ∨ k = 18 by omega) with rfl | rfl | rfl | rfl | rfl | rfl
      · obtain ⟨a, rfl, ha⟩ := ts_one (show rolesT ts = [1] by simpa [partB] using h4)
        exact .lt s a (by simpa [textB] using h1) (hs.2.2.1 a .nil rfl ha)
      · obtain ⟨a, rfl, ha⟩ := ts_one (show rolesT ts = [1] by simpa [partB] using h4)
        exact .set s a (by simpa [textB] using h1) (hs.2.2.1 a .nil rfl ha)
      · obtain rfl : s = [] := by simpa [textB] using h1
        rcases (show rolesT ts = [1, 3] ∨ rolesT ts = [1, 3, 3] by simpa [partB] using h4) with h4 | h4
        · obtain ⟨a, b, rfl, ha, hb⟩ := ts_two h4
          exact .if1 a b (hs.2.2.1 a _ rfl ha) (hs.2.2.2.1 a b _ rfl hb)
        · obtain ⟨a, b, d, rfl, ha, hb, hd⟩ := ts_three h4
          exact .if2 a b d (hs.2.2.1 a _ rfl ha) (hs.2.2.2.1 a b _ rfl hb) (hs.2.2.2.2 a b d _ rfl hd)
      · obtain rfl : s = [] := by simpa [textB] using h1
        obtain ⟨a, b, rfl, ha, hb⟩ := ts_two (show rolesT ts = [1, 3] by simpa [partB] using h4)
        exact .wh a b (hs.2.2.1 a _ rfl ha) (hs.2.2.2.1 a b _ rfl hb)
      · obtain rfl : s = [] := by simpa [textB] using h1
        obtain ⟨a, rfl, ha⟩ := ts_one (show rolesT ts = [1] by simpa [partB] using h4)
        exact .ret a (hs.2.2.1 a .nil rfl ha)
      · obtain rfl : s = [] := by simpa [textB] using h1
        obtain ⟨a, rfl, ha⟩ := ts_one (show rolesT ts = [1] by simpa [partB] using h4)
        exact .drop a (hs.2.2.1 a .nil rfl ha)
    · obtain rfl := role_kind.2.2 hr
      obtain rfl := keys_no (by omega) h3
      obtain rfl := int_no (by omega) (by omega) h2
      obtain rfl : s = [] := by simpa [textB] using h1
      exact .blk ts (hs.2.1 (any_roles (by simpa [partB] using h4)))
theorem goods_kinds : ∀ (ts : Ts), goodTs ts → ((∀ v ∈ rolesT ts, v = 1) → GEs ts) ∧ ((∀ v ∈ rolesT ts, v = 2) → GdSs ts) ∧ (∀ a r, ts = .cons a r → roleI (kT a) = 1 → GE a) ∧ (∀ a b r, ts = .cons a (.cons b r) → roleI (kT b) = 3 → GdB b) ∧ (∀ a b d r, ts = .cons a (.cons b (.cons d r)) → roleI (kT d) = 3 → GdB d)
  | .nil, _ => ⟨fun _ => .nil, fun _ => .nil, fun a r h => by (cases h), fun a b r h => by (cases h), fun a b d r h => by (cases h)⟩
  | .cons t r, h => by
    rw [goodTs] at h
    have h1 := good_kinds t h.1
    have h2 := goods_kinds r h.2
    refine ⟨fun hv => ?_, fun hv => ?_, fun a r' e ha => ?_, fun a b r' e hb => ?_, fun a b d r' e hd => ?_⟩
    · rw [rolesT] at hv
      exact .cons t r (h1.1 (hv _ (List.mem_cons_self ..))) (h2.1 fun v hw => hv v (List.mem_cons_of_mem _ hw))
    · rw [rolesT] at hv
      exact .cons t r (h1.2.1 (hv _ (List.mem_cons_self ..))) (h2.2.1 fun v hw => hv v (List.mem_cons_of_mem _ hw))
    · cases e
      exact h1.1 ha
    · cases e
      have h3 := h.2
      rw [goodTs] at h3
      exact (good_kinds b h3.1).2.2 hb
    · cases e
      exact h2.2.2.2.1 b d r' rfl hd
end
end Syn
end Go.Proofs.YtinadbomebgfaaaGreatDoor

/-
  Layer 8, plainly: with which tokens expressions begin, and before which ones they end.
-/
namespace Go.Proofs.YtinadbomebgfaaaGreatDoor
namespace Syn
/-- What a function of the fuel comes to, whenever there is enough of it. -/
def Ev {α : Type} (f : Nat → α) (x : α) : Prop := ∃ k, ∀ n, k ≤ n → f n = x
theorem Ev.step {α : Type} {f : Nat → α} {x : α} (k : Nat) (h : ∀ n, k ≤ n → f (n + 1) = x) : Ev f x :=
  ⟨k + 1, fun n hn => by obtain ⟨m, rfl⟩ : ∃ m, n = m + 1 := ⟨n - 1, by omega⟩; exact h m (by omega)⟩
theorem Ev.of {α : Type} {f : Nat → α} {x : α} (h : Ev f x) : ∃ k, ∀ n, k ≤ n → f n = x := h
def notW : Txt := [110, 111, 116]
/-- A token at which an expression of a level may begin. -/
def headB' (l : Nat) (c : Ck) : Bool := c.1 == 1 || (c.1 == 3 || (c.1 == 4 || (c.1 == 6 || ((c.1 == 2 && ([[110, 117, 108, 108], [102, 97, 108, 115, 101], [116, 114, 117, 101]].contains c.2.1 || (c.2.1 == notW && decide (l ≤ 3)))) || (c.1 == 5 && ([[91], [123], [40]].contains c.2.1 || (c.2.1 == [45] && decide (l ≤ 7))))))))
/-- Behind these tokens no expression of the level goes on. -/
def Stop (l : Nat) (r : List Ck) : Prop := isT [40] (hd r) = false ∧ (l ≤ 8 → isT [91] (hd r) = false) ∧ ∀ b, l ≤ b → inT (opsL b) (hd r) = false
theorem Stop.mono {l m : Nat} {r : List Ck} (h : Stop l r) (hl : l ≤ m) : Stop m r := ⟨h.1, fun q => h.2.1 (by omega), fun b hb => h.2.2 b (by omega)⟩
def allOps : List Txt := [[111, 114], [97, 110, 100], [61, 61], [33, 61], [60], [60, 61], [62], [62, 61], [43], [45], [42], [47], [37]]
theorem ops_all : ∀ (b : Nat) (s : Txt), (opsL b).contains s = true → allOps.contains s = true
  | 0, s, h => by cases h
  | 1, s, h => by simp [opsL, allOps] at h ⊢; simp [h]
  | 2, s, h => by simp [opsL, allOps] at h ⊢; simp [h]
  | 3, s, h => by cases h
  | 4, s, h => by simp [opsL, allOps] at h ⊢; rcases h with h | h | h | h | h | h <;> simp [h]
  | 5, s, h => by simp [opsL, allOps] at h ⊢; rcases h with h | h <;> simp [h]
  | 6, s, h => by simp [opsL, allOps] at h ⊢; rcases h with h | h | h <;> simp [h]
  | n + 7, s, h => by cases h
theorem stop_tok {k : Int} {s : Txt} {i : Int} {r : List Ck} (h : (allOps ++ [[40], [91]]).contains s = false) (l : Nat) : Stop l ((k, s, i) :: r) := by
  have ha : ∀ x ∈ allOps ++ [[40], [91]], x ≠ s := fun x hx e => by
    subst e
    rw [List.contains_iff_mem.2 hx] at h
    cases h
  refine ⟨?_, fun _ => ?_, fun b _ => ?_⟩
  · have := ha [40] (by decide)
    show ((k == 2 || k == 5) && [[40]].contains s) = false
    simp [Ne.symm this]
  · have := ha [91] (by decide)
    show ((k == 2 || k == 5) && [[91]].contains s) = false
    simp [Ne.symm this]
  · show ((k == 2 || k == 5) && (opsL b).contains s) = false
    cases e : (opsL b).contains s with
    | false => simp
    | true =>
      have := ops_all b s e
      exact absurd rfl (ha s (List.mem_append_left _ (List.contains_iff_mem.1 this)))
theorem bin_ops {s : Txt} (h : binL s ≠ 0) : s ∈ allOps := by
  unfold binL at h
  split at h
  · subst s; decide
  split at h
  · subst s; decide
  split at h
  · rename_i q; exact List.contains_iff_mem.1 (ops_all 4 s q)
  split at h
  · rename_i q; exact List.contains_iff_mem.1 (ops_all 5 s q)
  split at h
  · rename_i q; exact List.contains_iff_mem.1 (ops_all 6 s q)
  · exact absurd rfl h
theorem bin_facts {s : Txt} (h : binL s ≠ 0) : (binL s = 1 ∨ binL s = 2 ∨ binL s = 4 ∨ binL s = 5 ∨ binL s = 6) ∧ (opsL (binL s)).contains s = true ∧ s ≠ [40] ∧ s ≠ [91] ∧ s ≠ [61] ∧ (∀ b, binL s < b → (opsL b).contains s = false) := by
  have hm := bin_ops h
  unfold allOps at hm
  simp only [List.mem_cons, List.not_mem_nil, or_false] at hm
  rcases hm with rfl | rfl | rfl | rfl | rfl | rfl | rfl | rfl | rfl | rfl | rfl | rfl | rfl
  all_goals
    refine ⟨by decide, by decide, by decide, by decide, by decide, fun b hb => ?_⟩
    have hb1 : 1 < b := Nat.lt_of_le_of_lt (by decide) hb
    match b, hb, hb1 with
    | 2, hb, _ => revert hb; decide
    | 3, hb, _ => rfl
    | 4, hb, _ => revert hb; decide
    | 5, hb, _ => revert hb; decide
    | 6, hb, _ => revert hb; decide
    | n + 7, hb, _ => rfl
def opC (s : Txt) : Ck := if binL s ≤ 2 then (2, s, 0) else (5, s, 0)
theorem opC_snd (s : Txt) : (opC s).2.1 = s := by unfold opC; split <;> rfl
theorem opC_kind (s : Txt) : (opC s).1 = 2 ∨ (opC s).1 = 5 := by unfold opC; split <;> simp
theorem opC_in {s : Txt} (ss : List Txt) : inT ss (opC s) = ss.contains s := by
  unfold inT
  rw [opC_snd]
  rcases opC_kind s with h | h <;> rw [h] <;> simp
theorem stop_op {s : Txt} (h : binL s ≠ 0) {l : Nat} (hl : binL s < l) (r : List Ck) : Stop l (opC s :: r) := by
  obtain ⟨-, -, h1, h2, -, h3⟩ := bin_facts h
  refine ⟨?_, fun _ => ?_, fun b hb => ?_⟩
  · show isT [40] (opC s) = false
    unfold isT
    rw [opC_in]
    simp [h1]
  · show isT [91] (opC s) = false
    unfold isT
    rw [opC_in]
    simp [h2]
  · show inT (opsL b) (opC s) = false
    rw [opC_in]
    exact h3 b (by omega)
theorem cks_tok (c : Ck) (l : List It) : cks (.tok c :: l) = c :: cks l := rfl
theorem cks_gap (b : UInt8) (l : List It) : cks (.gap b :: l) = cks l := rfl
theorem cks_w (s : Txt) (l : List It) : cks (wI s :: l) = (2, s, 0) :: cks l := rfl
theorem cks_s (s : Txt) (l : List It) : cks (sI s :: l) = (5, s, 0) :: cks l := rfl
theorem cks_n (s : Txt) (l : List It) : cks (nI s :: l) = (1, s, 0) :: cks l := rfl
theorem cks_sp (l : List It) : cks (sp :: l) = cks l := rfl
theorem cks_op (s : Txt) (l : List It) : cks (opI s :: l) = opC s :: cks l := by unfold opI opC; split <;> rfl
theorem cks_nil : cks [] = [] := rfl
theorem itA_const (m : Nat) : ∀ (ts : Ts) (j i : Nat), itA (fun _ => m) j ts = itA (fun _ => m) i ts
  | .nil, _, _ => by rw [itA, itA]
  | .cons t r, j, i => by rw [itA, itA, itA_const m r (j + 1) (i + 1)]
/-- The pieces of parts that may be any expressions. -/
def row (ts : Ts) : List (List It) := itA (fun _ => 1) 0 ts
theorem row_nil : row .nil = [] := by rw [row, itA]
theorem row_cons (t : T) (r : Ts) : row (.cons t r) = opd 1 t :: row r := by
  show itA (fun _ => 1) 0 (.cons t r) = _
  rw [itA, itA_const 1 r 1 0]
  rfl
theorem itE_null : itE (leaf 1 [] 0) = [wI [110, 117, 108, 108]] := by rw [leaf, itE]; rfl
theorem itE_bool (i : Int) : itE (leaf 2 [] i) = [wI (if i = 0 then [102, 97, 108, 115, 101] else [116, 114, 117, 101])] := by
  rw [leaf, itE]
  show (if i = 0 then _ else _) = _
  split <;> rfl
theorem itE_int (i : Int) : itE (leaf 3 [] i) = [.tok (3, [], i)] := by rw [leaf, itE]; rfl
theorem itE_str (s : Txt) : itE (leaf 4 s 0) = [.tok (4, s, 0)] := by rw [leaf, itE]; rfl
theorem itE_var (s : Txt) : itE (leaf 5 s 0) = [nI s] := by rw [leaf, itE]; rfl
theorem itE_list (ts : Ts) : itE (.node 6 [] 0 [] ts) = sI [91] :: sep (row ts) ++ [sI [93]] := by rw [itE]; rfl
theorem itE_map (keys : List Txt) (ts : Ts) : itE (.node 7 [] 0 keys ts) = sI [123] :: sep (keyed keys (row ts)) ++ [sI [125]] := by rw [itE]; rfl
theorem itE_not (a : T) : itE (una [110, 111, 116] a) = wI [110, 111, 116] :: sp :: opd 3 a := by rw [una, itE, itA, itA]; rfl
theorem itE_neg (a : T) : itE (una [45] a) = sI [45] :: opd 7 a := by rw [una, itE, itA, itA]; rfl
theorem itE_bin (s : Txt) (a b : T) : itE (bin s a b) = opd (leftL (binL s)) a ++ sp :: opI s :: sp :: opd (binL s + 1) b := by rw [bin, itE, itA, itA, itA]; rfl
theorem itE_idx (a b : T) : itE (idx a b) = opd 8 a ++ sI [91] :: opd 1 b ++ [sI [93]] := by rw [idx, itE, itA, itA, itA]; rfl
theorem itE_call (s : Txt) (ts : Ts) : itE (.node 11 s 0 [] ts) = nI s :: sI [40] :: sep (row ts) ++ [sI [41]] := by rw [itE]; rfl
theorem itE_host (s : Txt) (ts : Ts) : itE (.node 12 s 0 [] ts) = .tok (6, s, 0) :: sI [40] :: sep (row ts) ++ [sI [41]] := by rw [itE]; rfl
/-- What is in brackets begins with one. -/
theorem opd_low {l : Nat} {t : T} (h : lvT t < l) : opd l t = sI [40] :: itE t ++ [sI [41]] := by unfold opd; rw [if_pos h]
theorem opd_high {l : Nat} {t : T} (h : ¬ lvT t < l) : opd l t = itE t := by unfold opd; rw [if_neg h]
theorem head_low {l m : Nat} {c : Ck} (h : headB' l c = true) (hm : m ≤ l) : headB' m c = true := by
  unfold headB' at h ⊢
  simp only [Bool.or_eq_true, Bool.and_eq_true, decide_eq_true_eq] at h ⊢
  rcases h with h | h | h | h | ⟨h, q | ⟨q, z⟩⟩ | ⟨h, q | ⟨q, z⟩⟩
  · exact Or.inl h
  · exact Or.inr (Or.inl h)
  · exact Or.inr (Or.inr (Or.inl h))
  · exact Or.inr (Or.inr (Or.inr (Or.inl h)))
  · exact Or.inr (Or.inr (Or.inr (Or.inr (Or.inl ⟨h, Or.inl q⟩))))
  · exact Or.inr (Or.inr (Or.inr (Or.inr (Or.inl ⟨h, Or.inr ⟨q, by omega⟩⟩))))
  · exact Or.inr (Or.inr (Or.inr (Or.inr (Or.inr ⟨h, Or.inl q⟩))))
  · exact Or.inr (Or.inr (Or.inr (Or.inr (Or.inr ⟨h, Or.inr ⟨q, by omega⟩⟩))))
theorem setB_ne {c : Ck} {r : List Ck} (h : c.1 ≠ 1) : setB (c :: r) = false := by
  show (c.1 == 1 && _) = false
  simp [h]
theorem setB_next {c : Ck} {r : List Ck} (h : isT [61] (hd r) = false) : setB (c :: r) = false := by
  show (c.1 == 1 && ((hd r).1 == 5 && (hd r).2.1 == [61])) = false
  unfold isT inT at h
  generalize hd r = d at *
  cases e : ((d.1 == 5) && (d.2.1 == [61])) with
  | false => simp
  | true =>
    exfalso
    rw [Bool.and_eq_true] at e
    rw [e.1] at h
    simp at h e
    exact h e.2
/-- How an expression begins, whatever comes behind it. -/
def Begins (l : Nat) (L : List It) : Prop := (∃ c r, cks L = c :: r ∧ headB' l c = true) ∧ ∀ Y, isT [61] (hd Y) = false → setB (cks L ++ Y) = false
theorem begins_opd {t : T} (h : Begins (lvT t) (itE t)) (l : Nat) : Begins l (opd l t) := by
  by_cases hl : lvT t < l
  · rw [opd_low hl]
    refine ⟨⟨(5, [40], 0), _, rfl, ?_⟩, fun Y _ => ?_⟩
    · unfold headB'
      simp
    · exact setB_ne (by decide)
  · rw [opd_high hl]
    obtain ⟨⟨c, r, h1, h2⟩, h3⟩ := h
    exact ⟨⟨c, r, h1, head_low h2 (by omega)⟩, h3⟩
theorem begins_tok {l : Nat} {c : Ck} {L : List It} (h : headB' l c = true) (hs : ∀ Y, isT [61] (hd Y) = false → setB (c :: (cks L ++ Y)) = false) : Begins l (.tok c :: L) := ⟨⟨c, _, rfl, h⟩, hs⟩
theorem begins_app {l m : Nat} {L M : List It} (h : Begins l L) (hm : m ≤ l) (hM : ∀ Y, isT [61] (hd (cks M ++ Y)) = false) : Begins m (L ++ M) := by
  obtain ⟨⟨c, r, h1, h2⟩, h3⟩ := h
  refine ⟨⟨c, r ++ cks M, by rw [cks_app, h1, List.cons_append], head_low h2 hm⟩, fun Y _ => ?_⟩
  rw [cks_app, List.append_assoc]
  exact h3 _ (hM Y)
theorem begins : ∀ {t : T}, GE t → Begins (lvT t) (itE t)
  | _, .null => by rw [itE_null]; exact begins_tok (by rfl) (fun Y _ => setB_ne (by decide))
  | _, .bool i h => by
    rw [itE_bool]
    refine begins_tok ?_ (fun Y _ => setB_ne (by simp))
    show headB' 9 _ = true
    split <;> decide
  | _, .int i h => by rw [itE_int]; exact begins_tok (by unfold headB'; simp) (fun Y _ => setB_ne (by simp))
  | _, .str s h => by rw [itE_str]; exact begins_tok (by unfold headB'; simp) (fun Y _ => setB_ne (by simp))
  | _, .var s h => by rw [itE_var]; exact begins_tok (by unfold headB'; simp) (fun Y hY => setB_next hY)
  | _, .list ts h => by rw [itE_list, List.cons_append]; exact begins_tok (by rfl) (fun Y _ => setB_ne (by decide))
  | _, .map keys ts hl ha h => by rw [itE_map, List.cons_append]; exact begins_tok (by rfl) (fun Y _ => setB_ne (by decide))
  | _, .una s a hs h => by
    rcases hs with rfl | rfl
    · rw [itE_neg]; exact begins_tok (by rfl) (fun Y _ => setB_ne (by decide))
    · rw [itE_not]; exact begins_tok (by rfl) (fun Y _ => setB_ne (by decide))
  | _, .bin s a b hs h1 h2 => by
    rw [itE_bin]
    refine begins_app (begins_opd (begins h1) _) ?_ (fun Y => ?_)
    · show lvN 9 s ≤ _
      show binL s ≤ leftL (binL s)
      unfold leftL
      split <;> omega
    · rw [cks_sp, cks_op]
      show isT [61] (opC s) = false
      unfold isT
      rw [opC_in]
      have := (bin_facts hs).2.2.2.2.1
      simp [this]
  | _, .idx a b h1 h2 => by
    rw [itE_idx, List.append_assoc]
    exact begins_app (begins_opd (begins h1) _) (Nat.le_refl _) (fun Y => by rw [List.cons_append, cks_s]; rfl)
  | _, .call s ts hs h => by
    rw [itE_call, List.cons_append, List.cons_append]
    refine begins_tok (by unfold headB'; simp) (fun Y _ => setB_next ?_)
    rw [cks_s]
    rfl
  | _, .host s ts hs h => by rw [itE_host, List.cons_append]; exact begins_tok (by unfold headB'; simp) (fun Y _ => setB_ne (by simp))
end Syn
end Go.Proofs.YtinadbomebgfaaaGreatDoor

/-
  Layer 8, plainly: an expression's tokens are read as the expression.
-/
namespace Go.Proofs.YtinadbomebgfaaaGreatDoor
namespace Syn
theorem ng {b : Bool} (h : b = false) : ¬ b = true := by rw [h]; decide
theorem head_not {m : Nat} {c : Ck} (h : headB' m c = true) (hm : 3 < m) : isT [110, 111, 116] c = false := by
  obtain ⟨k, s, i⟩ := c
  cases e : isT [110, 111, 116] (k, s, i) with
  | false => rfl
  | true =>
    exfalso
    unfold isT inT at e
    simp at e
    obtain ⟨e1, rfl⟩ := e
    unfold headB' notW at h
    rcases e1 with rfl | rfl
    · simp at h; omega
    · simp at h
theorem head_neg {m : Nat} {c : Ck} (h : headB' m c = true) (hm : 7 < m) : isT [45] c = false := by
  obtain ⟨k, s, i⟩ := c
  cases e : isT [45] (k, s, i) with
  | false => rfl
  | true =>
    exfalso
    unfold isT inT at e
    simp at e
    obtain ⟨e1, rfl⟩ := e
    unfold headB' notW at h
    rcases e1 with rfl | rfl
    · simp at h
    · simp at h; omega
/-- No expression begins with one of these. -/
theorem head_sym {m : Nat} {c : Ck} (h : headB' m c = true) {s : Txt} (hs : s = [41] ∨ s = [93] ∨ s = [125] ∨ s = [44] ∨ s = [59] ∨ s = [61]) : isT s c = false := by
  obtain ⟨k, s', i⟩ := c
  cases e : isT s (k, s', i) with
  | false => rfl
  | true =>
    exfalso
    unfold isT inT at e
    simp at e
    obtain ⟨e1, rfl⟩ := e
    unfold headB' notW at h
    rcases e1 with rfl | rfl <;> rcases hs with rfl | rfl | rfl | rfl | rfl | rfl <;> simp at h
theorem chnStop {l n : Nat} {t : T} {r : List Ck} (h : inT (opsL l) (hd r) = false) : chn (n + 1) l t r = .ok t r := by rw [chn, if_neg (by rw [h]; decide)]
theorem pstStop {n : Nat} {t : T} {r : List Ck} (h : isT [91] (hd r) = false) : pst (n + 1) t r = .ok t r := by rw [pst, if_neg (by rw [h]; decide)]
def IsC (b : Nat) : Prop := b = 1 ∨ b = 2 ∨ b = 5 ∨ b = 6
theorem rdE_chain {n b : Nat} {r : List Ck} (hb : IsC b) : rdE (n + 1) b r = match rdE n (b + 1) r with
      | .ok t r' => chn n b t r'
      | .bad r' => .bad r' := by
  rw [rdE]
  rcases hb with rfl | rfl | rfl | rfl <;> rfl
theorem climb {l : Nat} {r r' : List Ck} {t : T} (h1 : 1 ≤ l) (h8 : l ≤ 8) (hn : l = 3 → isT [110, 111, 116] (hd r) = false) (hm : l = 7 → isT [45] (hd r) = false) (hs : Stop l r') (h : Ev (fun n => rdE n (l + 1) r) (.ok t r')) : Ev (fun n => rdE n l r) (.ok t r') := by
  obtain ⟨k, hk⟩ := h
  refine Ev.step (k + 1) fun n hn' => ?_
  have e := hk n (by omega)
  obtain ⟨m, rfl⟩ : ∃ m, n = m + 1 := ⟨n - 1, by omega⟩
  dsimp only at e
  rcases (show l = 3 ∨ l = 4 ∨ l = 7 ∨ l = 8 ∨ IsC l by unfold IsC; omega) with rfl | rfl | rfl | rfl | hc
  · rw [rdE, if_pos rfl, if_neg (by rw [hn rfl]; decide)]
    exact e
  · rw [rdE, if_neg (by first | decide | exact ng rfl | simp [hd]), if_pos rfl, e]
    dsimp only
    rw [if_neg (by rw [hs.2.2 4 (Nat.le_refl _)]; decide)]
  · rw [rdE, if_neg (by first | decide | exact ng rfl | simp [hd]), if_neg (by first | decide | exact ng rfl | simp [hd]), if_pos rfl, if_neg (by rw [hm rfl]; decide)]
    exact e
  · rw [rdE, if_neg (by first | decide | exact ng rfl | simp [hd]), if_neg (by first | decide | exact ng rfl | simp [hd]), if_neg (by first | decide | exact ng rfl | simp [hd]), if_pos rfl, e]
    exact pstStop (hs.2.1 (Nat.le_refl _))
  · rw [rdE_chain hc, e]
    exact chnStop (hs.2.2 l (Nat.le_refl _))
theorem climbs {r r' : List Ck} {t : T} : ∀ (d l : Nat), 1 ≤ l → l + d ≤ 9 → headB' (l + d) (hd r) = true → Stop l r' → Ev (fun n => rdE n (l + d) r) (.ok t r') → Ev (fun n => rdE n l r) (.ok t r')
  | 0, l, _, _, _, _, h => h
  | d + 1, l, h1, h9, hh, hs, h => by
    have e : l + (d + 1) = l + 1 + d := by omega
    rw [e] at hh h
    have := climbs d (l + 1) (by omega) (by omega) hh (hs.mono (by omega)) h
    exact climb h1 (by omega) (fun q => head_not hh (by omega)) (fun q => head_neg hh (by omega)) hs this
theorem climbs' {r r' : List Ck} {t : T} {l m : Nat} (h1 : 1 ≤ l) (hl : l ≤ m) (h9 : m ≤ 9) (hh : headB' m (hd r) = true) (hs : Stop l r') (h : Ev (fun n => rdE n m r) (.ok t r')) : Ev (fun n => rdE n l r) (.ok t r') := by
  obtain ⟨d, rfl⟩ := Nat.le.dest hl
  exact climbs d l h1 h9 hh hs h
theorem chain_in {b : Nat} {t : T} {r X : List Ck} {x : RR T} (hb : IsC b) (h1 : Ev (fun n => rdE n (b + 1) r) (.ok t X)) (h2 : Ev (fun n => chn n b t X) x) : Ev (fun n => rdE n b r) x := by
  obtain ⟨k1, h1⟩ := h1
  obtain ⟨k2, h2⟩ := h2
  refine Ev.step (k1 + k2) fun n hn => ?_
  rw [rdE_chain hb]
  have := h1 n (by omega)
  dsimp only at this
  rw [this]
  exact h2 n (by omega)
theorem chn_op {b : Nat} {s : Txt} {t u : T} {Y X : List Ck} {x : RR T} (hs : binL s ≠ 0) (hb : binL s = b) (h1 : Ev (fun n => rdE n (b + 1) Y) (.ok u X)) (h2 : Ev (fun n => chn n b (bin s t u) X) x) : Ev (fun n => chn n b t (opC s :: Y)) x := by
  obtain ⟨k1, h1⟩ := h1
  obtain ⟨k2, h2⟩ := h2
  refine Ev.step (k1 + k2) fun n hn => ?_
  rw [chn, if_pos (by show inT (opsL b) (opC s) = true; rw [opC_in, ← hb]; exact (bin_facts hs).2.1)]
  have := h1 n (by omega)
  dsimp only at this
  rw [List.tail_cons, this]
  dsimp only
  rw [show (hd (opC s :: Y)).2.1 = s from opC_snd s]
  exact h2 n (by omega)
theorem post_in {t : T} {r X : List Ck} {x : RR T} (h1 : Ev (fun n => rdE n 9 r) (.ok t X)) (h2 : Ev (fun n => pst n t X) x) : Ev (fun n => rdE n 8 r) x := by
  obtain ⟨k1, h1⟩ := h1
  obtain ⟨k2, h2⟩ := h2
  refine Ev.step (k1 + k2) fun n hn => ?_
  rw [rdE, if_neg (by first | decide | exact ng rfl | simp [hd]), if_neg (by first | decide | exact ng rfl | simp [hd]), if_neg (by first | decide | exact ng rfl | simp [hd]), if_pos rfl]
  have := h1 n (by omega)
  dsimp only at this
  rw [this]
  exact h2 n (by omega)
theorem pst_idx {t u : T} {Y X : List Ck} {x : RR T} (h1 : Ev (fun n => rdE n 1 Y) (.ok u ((5, [93], 0) :: X))) (h2 : Ev (fun n => pst n (idx t u) X) x) : Ev (fun n => pst n t ((5, [91], 0) :: Y)) x := by
  obtain ⟨k1, h1⟩ := h1
  obtain ⟨k2, h2⟩ := h2
  refine Ev.step (k1 + k2) fun n hn => ?_
  rw [pst, if_pos (by rfl)]
  have := h1 n (by omega)
  dsimp only at this
  rw [List.tail_cons, this]
  dsimp only
  rw [if_pos (by rfl)]
  exact h2 n (by omega)
theorem nine {r : List Ck} {x : RR T} (h : Ev (fun n => prm n r) x) : Ev (fun n => rdE n 9 r) x := by
  obtain ⟨k, h⟩ := h
  refine Ev.step k fun n hn => ?_
  rw [rdE, if_neg (by first | decide | exact ng rfl | simp [hd]), if_neg (by first | decide | exact ng rfl | simp [hd]), if_neg (by first | decide | exact ng rfl | simp [hd]), if_neg (by first | decide | exact ng rfl | simp [hd]), if_pos rfl]
  exact h n hn
/-- An expression's tokens are read as it, at every level. -/
structure Rds (t : T) : Prop where
  e1 : ∀ l r, 1 ≤ l → l ≤ lvT t → Stop l r → Ev (fun n => rdE n l (cks (itE t) ++ r)) (.ok t r)
  e2 : ∀ b X x, IsC b → Stop (b + 1) X → Ev (fun n => chn n b t X) x → Ev (fun n => rdE n b (cks (opd b t) ++ X)) x
  e3 : ∀ X x, Stop 9 X → Ev (fun n => pst n t X) x → Ev (fun n => rdE n 8 (cks (opd 8 t) ++ X)) x
theorem lv_pos {t : T} (h : GE t) : 1 ≤ lvT t ∧ lvT t ≤ 9 := by
  cases h with
  | una s a hs =>
    show 1 ≤ unaL s ∧ unaL s ≤ 9
    unfold unaL
    split <;> omega
  | bin s a b hs => show 1 ≤ binL s ∧ binL s ≤ 9; have := (bin_facts hs).1; omega
  | idx a b => exact ⟨(by decide : 1 ≤ 8), (by decide : 8 ≤ 9)⟩
  | _ => exact ⟨(by decide : 1 ≤ 9), (by decide : 9 ≤ 9)⟩
theorem e4_of {t : T} (hg : GE t) (e1 : ∀ l r, 1 ≤ l → l ≤ lvT t → Stop l r → Ev (fun n => rdE n l (cks (itE t) ++ r)) (.ok t r)) (l : Nat) (r : List Ck) (h1 : 1 ≤ l) (h9 : l ≤ 9) (hs : Stop l r) : Ev (fun n => rdE n l (cks (opd l t) ++ r)) (.ok t r) := by
  by_cases hl : lvT t < l
  · rw [opd_low hl]
    have ha : ∀ L : List It, cks (sI [40] :: L ++ [sI [41]]) ++ r = (5, [40], 0) :: (cks L ++ (5, [41], 0) :: r) := fun L => by rw [List.cons_append, cks_s, cks_app, cks_s, cks_nil]; simp
    rw [ha]
    refine climbs' h1 h9 (Nat.le_refl _) (by rfl) hs (nine ?_)
    obtain ⟨k, hk⟩ := e1 1 ((5, [41], 0) :: r) (Nat.le_refl _) (lv_pos hg).1 (stop_tok (by decide) 1)
    refine Ev.step k fun n hn => ?_
    have := hk n hn
    dsimp only at this
    rw [prm, if_neg (by first | decide | exact ng rfl | simp [hd]), if_neg (by first | decide | exact ng rfl | simp [hd]), if_neg (by first | decide | exact ng rfl | simp [hd]), if_neg (by first | decide | exact ng rfl | simp [hd]), if_neg (by first | decide | exact ng rfl | simp [hd]), if_neg (by first | decide | exact ng rfl | simp [hd]), if_neg (by first | decide | exact ng rfl | simp [hd]), if_neg (by first | decide | exact ng rfl | simp [hd]), if_neg (by first | decide | exact ng rfl | simp [hd]), if_pos (by rfl), List.tail_cons, this]
    dsimp only
    rw [if_pos (by rfl)]
    rfl
  · rw [opd_high hl]
    exact e1 l r h1 (by omega) hs
/-- Wherever the expression is no chain of the level itself. -/
theorem e2_of {t : T} (hg : GE t) (e1 : ∀ l r, 1 ≤ l → l ≤ lvT t → Stop l r → Ev (fun n => rdE n l (cks (itE t) ++ r)) (.ok t r)) (b : Nat) (X : List Ck) (x : RR T) (hb : IsC b) (hne : lvT t ≠ b) (hs : Stop (b + 1) X) (h : Ev (fun n => chn n b t X) x) : Ev (fun n => rdE n b (cks (opd b t) ++ X)) x := by
  have e : opd b t = opd (b + 1) t := by
    unfold opd
    by_cases q : lvT t < b
    · rw [if_pos q, if_pos (by omega)]
    · rw [if_neg q, if_neg (by omega)]
  rw [e]
  exact chain_in hb (e4_of hg e1 (b + 1) X (by omega) (by unfold IsC at hb; omega) hs) h
theorem e3_of {t : T} (hg : GE t) (e1 : ∀ l r, 1 ≤ l → l ≤ lvT t → Stop l r → Ev (fun n => rdE n l (cks (itE t) ++ r)) (.ok t r)) (X : List Ck) (x : RR T) (hne : lvT t ≠ 8) (hs : Stop 9 X) (h : Ev (fun n => pst n t X) x) : Ev (fun n => rdE n 8 (cks (opd 8 t) ++ X)) x := by
  have e : opd 8 t = opd 9 t := by
    unfold opd
    by_cases q : lvT t < 8
    · rw [if_pos q, if_pos (by omega)]
    · rw [if_neg q, if_neg (by omega)]
  rw [e]
  exact post_in (e4_of hg e1 9 X (by omega) (by omega) hs) h
theorem rds_of {t : T} (hg : GE t) (h8 : lvT t ≠ 8) (hc : ¬ IsC (lvT t)) (e1 : ∀ l r, 1 ≤ l → l ≤ lvT t → Stop l r → Ev (fun n => rdE n l (cks (itE t) ++ r)) (.ok t r)) : Rds t :=
  ⟨e1, fun b X x hb hs h => e2_of hg e1 b X x hb (fun q => hc (by rw [q]; exact hb)) hs h, fun X x hs h => e3_of hg e1 X x h8 hs h⟩
theorem head_app {l : Nat} {L : List It} (h : Begins l L) (r : List Ck) : headB' l (hd (cks L ++ r)) = true := by
  obtain ⟨⟨c, q, h1, h2⟩, -⟩ := h
  rw [h1]
  exact h2
/-- An expression that prim reads. -/
theorem rds_prim {t : T} (hg : GE t) (h9 : lvT t = 9) (h : ∀ r, Stop 9 r → Ev (fun n => prm n (cks (itE t) ++ r)) (.ok t r)) : Rds t := by
  refine rds_of hg (by omega) (by unfold IsC; omega) fun l r h1 hl hs => ?_
  have hb := begins hg
  rw [h9] at hb
  exact climbs' h1 (by omega) (Nat.le_refl _) (head_app hb r) hs (nine (h r (hs.mono (by omega))))
def AllR : Ts → Prop
  | .nil => True
  | .cons t r => (GE t ∧ Rds t) ∧ AllR r
theorem sep_cons (a : List It) (b : List It) (r : List (List It)) : sep (a :: b :: r) = a ++ sI [44] :: sp :: sep (b :: r) := rfl
theorem sep_one (a : List It) : sep [a] = a := rfl
theorem row_reads {cl : Txt} (hcl : cl = [41] ∨ cl = [93]) : ∀ (r : Ts) (t : T), AllR (.cons t r) → ∀ (acc : Ts) (X : List Ck), Ev (fun n => rdI n cl acc (cks (sep (row (.cons t r))) ++ (5, cl, 0) :: X)) (.ok (app acc (.cons t r)) X)
  | .nil, t, h, acc, X => by
    rw [AllR] at h
    rw [row_cons, row_nil, sep_one]
    obtain ⟨k, hk⟩ := e4_of h.1.1 h.1.2.e1 1 ((5, cl, 0) :: X) (Nat.le_refl _) (by omega) (stop_tok (by rcases hcl with rfl | rfl <;> decide) 1)
    refine Ev.step k fun n hn => ?_
    have := hk n hn
    dsimp only at this
    rw [rdI, this]
    dsimp only
    rw [if_neg (by rcases hcl with rfl | rfl <;> exact ng rfl), if_pos (by show isT cl (5, cl, 0) = true; simp [isT, inT])]
    rfl
  | .cons u r, t, h, acc, X => by
    rw [AllR] at h
    rw [row_cons, row_cons, sep_cons, ← row_cons, cks_app, cks_s, cks_sp, List.append_assoc, List.cons_append]
    obtain ⟨k, hk⟩ := e4_of h.1.1 h.1.2.e1 1 ((5, [44], 0) :: (cks (sep (row (.cons u r))) ++ (5, cl, 0) :: X)) (Nat.le_refl _) (by omega) (stop_tok (by decide) 1)
    obtain ⟨k2, hk2⟩ := row_reads hcl r u h.2 (snoc acc t) X
    refine Ev.step (k + k2) fun n hn => ?_
    have e := hk n (by omega)
    dsimp only at e
    rw [rdI, e]
    dsimp only
    rw [if_pos (by rfl), List.tail_cons]
    have e2 := hk2 n (by omega)
    dsimp only at e2
    rw [e2]
    unfold snoc
    rw [app_assoc]
    rfl
theorem sep_head {t : T} {r : Ts} (h : GE t) (X : List Ck) : headB' 1 (hd (cks (sep (row (.cons t r))) ++ X)) = true := by
  have hb := begins_opd (begins h) 1
  rw [row_cons]
  cases r with
  | nil => rw [row_nil, sep_one]; exact head_app hb X
  | cons u r => rw [row_cons, sep_cons, cks_app, List.append_assoc]; exact head_app hb _
theorem list_reads {cl : Txt} (hcl : cl = [41] ∨ cl = [93]) {ts : Ts} (h : AllR ts) (X : List Ck) : Ev (fun n => rdL n cl (cks (sep (row ts)) ++ (5, cl, 0) :: X)) (.ok ts X) := by
  cases ts with
  | nil =>
    refine Ev.step 0 fun n _ => ?_
    rw [row_nil, rdL]
    show (if isT cl (hd ((5, cl, 0) :: X)) = true then _ else _) = _
    rw [if_pos (by show isT cl (5, cl, 0) = true; simp [isT, inT])]
    rfl
  | cons t r =>
    obtain ⟨k, hk⟩ := row_reads hcl r t h .nil X
    refine Ev.step k fun n hn => ?_
    rw [AllR] at h
    have hh := sep_head (r := r) h.1.1 ((5, cl, 0) :: X)
    rw [rdL, if_neg (by rw [head_sym hh (by rcases hcl with rfl | rfl <;> simp)]; decide)]
    exact hk n hn
theorem keyed_cons (k : Txt) (ks : List Txt) (t : T) (r : Ts) : keyed (k :: ks) (row (.cons t r)) = (.tok (4, k, 0) :: sI [58] :: sp :: opd 1 t) :: keyed ks (row r) := by rw [row_cons]; rfl
theorem keyB_of {ks : List Txt} {k : Txt} {r : List Txt} (h : ascB ks.getLast? (k :: r) = true) : keyB ks (4, k, 0) = true ∧ ascB (ks ++ [k]).getLast? r = true := by
  rw [asc_cons, Bool.and_eq_true, Bool.and_eq_true] at h
  refine ⟨?_, ?_⟩
  · unfold keyB
    rw [Bool.and_eq_true]
    exact ⟨rfl, h.2.1⟩
  · rw [List.getLast?_append]
    exact h.2.2
theorem map_reads : ∀ (r : Ts) (t : T) (keys : List Txt) (k : Txt), AllR (.cons t r) → keys.length = count r → ∀ (ks : List Txt) (acc : Ts) (X : List Ck), ascB ks.getLast? (k :: keys) = true → Ev (fun n => rdQ n ks acc (cks (sep (keyed (k :: keys) (row (.cons t r)))) ++ (5, [125], 0) :: X)) (.ok (ks ++ k :: keys, app acc (.cons t r)) X)
  | .nil, t, keys, k, h, hl, ks, acc, X, ha => by
    rw [AllR] at h
    obtain rfl := List.length_eq_zero_iff.1 hl
    rw [keyed_cons, row_nil, show keyed [] [] = [] from rfl, sep_one, cks_tok, cks_s, cks_sp]
    obtain ⟨k1, h1⟩ := e4_of h.1.1 h.1.2.e1 1 ((5, [125], 0) :: X) (Nat.le_refl _) (by omega) (stop_tok (by decide) 1)
    refine Ev.step k1 fun n hn => ?_
    have e := h1 n hn
    dsimp only at e
    simp only [List.cons_append]
    rw [rdQ, if_pos (by exact (keyB_of ha).1), List.tail_cons, if_pos (by rfl), List.tail_cons, e]
    dsimp only
    rw [if_neg (by first | decide | exact ng rfl | simp [hd]), if_pos (by rfl)]
    rfl
  | .cons u r, t, [], k, h, hl, ks, acc, X, ha => by cases hl
  | .cons u r, t, k2 :: keys, k, h, hl, ks, acc, X, ha => by
    rw [AllR] at h
    rw [keyed_cons, keyed_cons, sep_cons, ← keyed_cons, List.cons_append, List.cons_append, List.cons_append, cks_tok, cks_s, cks_sp, cks_app, cks_s, cks_sp]
    obtain ⟨b1, b2⟩ := keyB_of ha
    obtain ⟨m1, h1⟩ := e4_of h.1.1 h.1.2.e1 1 ((5, [44], 0) :: (cks (sep (keyed (k2 :: keys) (row (.cons u r)))) ++ (5, [125], 0) :: X)) (Nat.le_refl _) (by omega) (stop_tok (by decide) 1)
    obtain ⟨m2, h2⟩ := map_reads r u keys k2 h.2 (by simpa [count] using hl) (ks ++ [k]) (snoc acc t) X b2
    refine Ev.step (m1 + m2) fun n hn => ?_
    have e := h1 n (by omega)
    have e2 := h2 n (by omega)
    dsimp only at e e2
    simp only [List.cons_append, List.append_assoc]
    rw [rdQ, if_pos (by exact b1), List.tail_cons, if_pos (by rfl), List.tail_cons, e]
    dsimp only
    rw [if_pos (by rfl), List.tail_cons]
    show rdQ n (ks ++ [k]) _ _ = _
    rw [e2]
    unfold snoc
    rw [app_assoc, List.append_assoc]
    rfl
mutual
theorem reads : ∀ {t : T}, GE t → Rds t
  | _, .null => by
    refine rds_prim .null rfl fun r _ => Ev.step 0 fun n _ => ?_
    rw [itE_null, prm]
    rfl
  | _, .bool i h => by
    refine rds_prim (.bool i h) rfl fun r _ => Ev.step 0 fun n _ => ?_
    rw [itE_bool, prm]
    rcases h with rfl | rfl <;> rfl
  | _, .int i h => by
    refine rds_prim (.int i h) rfl fun r _ => Ev.step 0 fun n _ => ?_
    rw [itE_int, prm]
    rfl
  | _, .str s h => by
    refine rds_prim (.str s h) rfl fun r _ => Ev.step 0 fun n _ => ?_
    rw [itE_str, prm]
    rfl
  | _, .var s h => by
    refine rds_prim (.var s h) rfl fun r hr => Ev.step 0 fun n _ => ?_
    rw [itE_var, prm]
    show (if isT [40] (hd r) = true then _ else _) = _
    rw [if_neg (by rw [hr.1]; decide)]
    rfl
  | _, .list ts h => by
    refine rds_prim (.list ts h) rfl fun r hr => ?_
    obtain ⟨k, hk⟩ := list_reads (cl := [93]) (Or.inr rfl) (readss h) r
    refine Ev.step k fun n hn => ?_
    have e := hk n hn
    dsimp only at e
    rw [itE_list, List.cons_append, cks_s, cks_app, cks_s, cks_nil, List.cons_append, List.append_assoc, List.cons_append, List.nil_append, prm, if_neg (by first | decide | exact ng rfl | simp [hd]), if_neg (by first | decide | exact ng rfl | simp [hd]), if_neg (by first | decide | exact ng rfl | simp [hd]), if_neg (by first | decide | exact ng rfl | simp [hd]), if_neg (by first | decide | exact ng rfl | simp [hd]), if_neg (by first | decide | exact ng rfl | simp [hd]), if_neg (by first | decide | exact ng rfl | simp [hd]), if_pos (by rfl), List.tail_cons, e]
  | _, .map keys ts hl ha h => by
    refine rds_prim (.map keys ts hl ha h) rfl fun r hr => ?_
    rw [itE_map, List.cons_append, cks_s, cks_app, cks_s, cks_nil, List.cons_append, List.append_assoc, List.cons_append, List.nil_append]
    cases ts with
    | nil =>
      obtain rfl := List.length_eq_zero_iff.1 hl
      refine Ev.step 0 fun n hn => ?_
      rw [prm, row_nil]
      rfl
    | cons t q =>
      cases keys with
      | nil => cases hl
      | cons k keys =>
        obtain ⟨m, hm⟩ := map_reads q t keys k (readss h) (by simpa [count] using hl) [] .nil r ha
        refine Ev.step m fun n hn => ?_
        have e := hm n hn
        dsimp only at e
        rw [prm, if_neg (by first | decide | exact ng rfl | simp [hd]), if_neg (by first | decide | exact ng rfl | simp [hd]), if_neg (by first | decide | exact ng rfl | simp [hd]), if_neg (by first | decide | exact ng rfl | simp [hd]), if_neg (by first | decide | exact ng rfl | simp [hd]), if_neg (by first | decide | exact ng rfl | simp [hd]), if_neg (by first | decide | exact ng rfl | simp [hd]), if_neg (by first | decide | exact ng rfl | simp [hd]), if_pos (by rfl), List.tail_cons]
        have hne : isT [125] (hd (cks (sep (keyed (k :: keys) (row (.cons t q)))) ++ (5, [125], 0) :: r)) = false := by
          rw [keyed_cons]
          cases q with
          | nil => rw [row_nil, show keyed keys [] = [] by cases keys <;> rfl, sep_one, cks_tok, List.cons_append]; rfl
          | cons u q =>
            cases keys with
            | nil => cases hl
            | cons k2 keys => rw [keyed_cons, sep_cons, List.cons_append, cks_tok, List.cons_append]; rfl
        rw [if_neg (by rw [hne]; decide), e]
        rfl
  | _, .una s a hs h => by
    have ha := reads h
    rcases hs with rfl | rfl
    · refine rds_of (.una _ a (Or.inl rfl) h) (by show (7 : Nat) ≠ 8; decide) (by unfold IsC; exact (by decide : ¬ ((7 : Nat) = 1 ∨ (7 : Nat) = 2 ∨ (7 : Nat) = 5 ∨ (7 : Nat) = 6))) fun l r h1 hl hst => ?_
      change l ≤ 7 at hl
      have hb := begins (.una [45] a (Or.inl rfl) h)
      refine climbs' h1 hl (by omega) (head_app hb r) hst ?_
      rw [itE_neg, cks_s]
      obtain ⟨k, hk⟩ := e4_of h ha.e1 7 r (by omega) (by omega) (hst.mono hl)
      refine Ev.step k fun n hn => ?_
      have e := hk n hn
      dsimp only at e
      rw [List.cons_append, rdE, if_neg (by first | decide | exact ng rfl | simp [hd]), if_neg (by first | decide | exact ng rfl | simp [hd]), if_pos rfl, if_pos (by rfl), List.tail_cons, e]
    · refine rds_of (.una _ a (Or.inr rfl) h) (by show (3 : Nat) ≠ 8; decide) (by unfold IsC; exact (by decide : ¬ ((3 : Nat) = 1 ∨ (3 : Nat) = 2 ∨ (3 : Nat) = 5 ∨ (3 : Nat) = 6))) fun l r h1 hl hst => ?_
      change l ≤ 3 at hl
      have hb := begins (.una [110, 111, 116] a (Or.inr rfl) h)
      refine climbs' h1 hl (by omega) (head_app hb r) hst ?_
      rw [itE_not, cks_w, cks_sp]
      obtain ⟨k, hk⟩ := e4_of h ha.e1 3 r (by omega) (by omega) (hst.mono hl)
      refine Ev.step k fun n hn => ?_
      have e := hk n hn
      dsimp only at e
      rw [List.cons_append, rdE, if_pos rfl, if_pos (by rfl), List.tail_cons, e]
  | _, .bin s a b hs h1 h2 => by
    have ha := reads h1
    have hb := reads h2
    obtain ⟨hl, -⟩ := bin_facts hs
    have hg : GE (bin s a b) := .bin s a b hs h1 h2
    have hbg := begins hg
    have hcx : ∀ X, cks (itE (bin s a b)) ++ X = cks (opd (leftL (binL s)) a) ++ opC s :: (cks (opd (binL s + 1) b) ++ X) := fun X => by rw [itE_bin, cks_app, cks_sp, cks_op, cks_sp, List.append_assoc, List.cons_append]
    by_cases h4 : binL s = 4
    · refine rds_of hg (by show binL s ≠ 8; omega) (by show ¬ IsC (binL s); unfold IsC; omega) fun l r q1 q2 hst => ?_
      change l ≤ binL s at q2
      refine climbs' q1 q2 (by omega) (head_app hbg r) hst ?_
      rw [hcx]
      rw [h4] at q2 ⊢
      obtain ⟨k1, e1⟩ := e4_of h1 ha.e1 5 (opC s :: (cks (opd 5 b) ++ r)) (by omega) (by omega) (stop_op hs (by omega) _)
      obtain ⟨k2, e2⟩ := e4_of h2 hb.e1 5 r (by omega) (by omega) (hst.mono (by omega))
      refine Ev.step (k1 + k2) fun n hn => ?_
      have f1 := e1 n (by omega)
      have f2 := e2 n (by omega)
      dsimp only at f1 f2
      show rdE (n + 1) 4 (cks (opd 5 a) ++ opC s :: (cks (opd 5 b) ++ r)) = _
      rw [rdE, if_neg (by first | decide | exact ng rfl | simp [hd]), if_pos rfl, f1]
      dsimp only
      rw [if_pos (by show inT (opsL 4) (opC s) = true; rw [opC_in, ← h4]; exact (bin_facts hs).2.1), List.tail_cons, f2]
      dsimp only
      rw [show (hd (opC s :: (cks (opd 5 b) ++ r))).2.1 = s from opC_snd s]
    · have hc : IsC (binL s) := by unfold IsC; omega
      have hll : leftL (binL s) = binL s := by unfold leftL; rw [if_neg h4]
      have core : ∀ X x, Stop (binL s + 1) X → Ev (fun n => chn n (binL s) (bin s a b) X) x → Ev (fun n => rdE n (binL s) (cks (itE (bin s a b)) ++ X)) x := fun X x hst h => by
        rw [hcx, hll]
        refine ha.e2 (binL s) _ x hc (stop_op hs (by omega) _) ?_
        refine chn_op hs rfl ?_ h
        exact e4_of h2 hb.e1 (binL s + 1) X (by omega) (by omega) hst
      have e1 : ∀ l r, 1 ≤ l → l ≤ lvT (bin s a b) → Stop l r → Ev (fun n => rdE n l (cks (itE (bin s a b)) ++ r)) (.ok (bin s a b) r) := fun l r q1 q2 hst => by
        change l ≤ binL s at q2
        refine climbs' q1 q2 (by omega) (head_app hbg r) hst ?_
        refine core r _ (hst.mono (by omega)) (Ev.step 0 fun n _ => ?_)
        exact chnStop (hst.2.2 _ q2)
      refine ⟨e1, fun c X x hcc hst h => ?_, fun X x hst h => e3_of hg e1 X x (by show binL s ≠ 8; omega) hst h⟩
      by_cases q : binL s = c
      · subst q
        rw [opd_high (by show ¬ binL s < binL s; omega)]
        exact core X x hst h
      · exact e2_of hg e1 c X x hcc q hst h
  | _, .idx a b h1 h2 => by
    have ha := reads h1
    have hb := reads h2
    have hg : GE (idx a b) := .idx a b h1 h2
    have hbg := begins hg
    have hcx : ∀ X, cks (itE (idx a b)) ++ X = cks (opd 8 a) ++ (5, [91], 0) :: (cks (opd 1 b) ++ (5, [93], 0) :: X) := fun X => by
      rw [itE_idx, List.append_assoc, List.cons_append, cks_app, cks_s, cks_app, cks_s, cks_nil]
      simp
    have core : ∀ X x, Stop 9 X → Ev (fun n => pst n (idx a b) X) x → Ev (fun n => rdE n 8 (cks (itE (idx a b)) ++ X)) x := fun X x hst h => by
      rw [hcx]
      refine ha.e3 _ x ⟨by rfl, fun q => by omega, fun c hc => ?_⟩ ?_
      · match c, hc with
        | n + 7, _ => rfl
      · exact pst_idx (e4_of h2 hb.e1 1 _ (by omega) (by omega) (stop_tok (by decide) 1)) h
    have e1 : ∀ l r, 1 ≤ l → l ≤ lvT (idx a b) → Stop l r → Ev (fun n => rdE n l (cks (itE (idx a b)) ++ r)) (.ok (idx a b) r) := fun l r q1 q2 hst => by
      change l ≤ 8 at q2
      refine climbs' q1 q2 (by omega) (head_app hbg r) hst ?_
      refine core r _ (hst.mono (by omega)) (Ev.step 0 fun n _ => ?_)
      exact pstStop (hst.2.1 q2)
    refine ⟨e1, fun c X x hcc hst h => e2_of hg e1 c X x hcc (by show 8 ≠ c; unfold IsC at hcc; omega) hst h, fun X x hst h => ?_⟩
    rw [opd_high (by show ¬ 8 < 8; omega)]
    exact core X x hst h
  | _, .call s ts hs h => by
    refine rds_prim (.call s ts hs h) rfl fun r hr => ?_
    obtain ⟨k, hk⟩ := list_reads (cl := [41]) (Or.inl rfl) (readss h) r
    refine Ev.step k fun n hn => ?_
    have e := hk n hn
    dsimp only at e
    rw [itE_call, List.cons_append, List.cons_append, cks_n, cks_s, cks_app, cks_s, cks_nil, List.cons_append, List.cons_append, List.append_assoc, List.cons_append, List.nil_append, prm, if_neg (by show ¬ (1 : Int) = 3; decide), if_neg (by show ¬ (1 : Int) = 4; decide), if_pos (by rfl), List.tail_cons, if_pos (by rfl), List.tail_cons, e]
    rfl
  | _, .host s ts hs h => by
    refine rds_prim (.host s ts hs h) rfl fun r hr => ?_
    obtain ⟨k, hk⟩ := list_reads (cl := [41]) (Or.inl rfl) (readss h) r
    refine Ev.step k fun n hn => ?_
    have e := hk n hn
    dsimp only at e
    rw [itE_host, List.cons_append, List.cons_append, cks_tok, cks_s, cks_app, cks_s, cks_nil, List.cons_append, List.cons_append, List.append_assoc, List.cons_append, List.nil_append, prm, if_neg (by show ¬ (6 : Int) = 3; decide), if_neg (by show ¬ (6 : Int) = 4; decide), if_neg (by show ¬ (6 : Int) = 1; decide), if_pos (by rfl), List.tail_cons, if_pos (by rfl), List.tail_cons, e]
    rfl
theorem readss : ∀ {ts : Ts}, GEs ts → AllR ts
  | _, .nil => by rw [AllR]; trivial
  | _, .cons t r h hr => by rw [AllR]; exact ⟨⟨h, reads h⟩, readss hr⟩
end
/-- What an expression's tokens are read as. -/
theorem opd_reads {t : T} (h : GE t) (l : Nat) (h1 : 1 ≤ l) (h9 : l ≤ 9) (r : List Ck) (hs : Stop l r) : Ev (fun n => rdE n l (cks (opd l t) ++ r)) (.ok t r) := e4_of h (reads h).e1 l r h1 h9 hs
end Syn
end Go.Proofs.YtinadbomebgfaaaGreatDoor
