/-
  Layer 8, texts merged: SynE. For every argument within the bounds that each theorem names.
-/
import Derived.Test.YtcapkeaedpabjaaGreatDoorWF2
import Derived.Test.YtcapkeaedpabjaaGreatDoorWG4

/-
 Layer 8, plainly: what Check accepts is the row of a program's trees, each node as its kind wants it.
-/
namespace Go.Proofs.YtcapkeaedpabjaaGreatDoor
namespace Syn
def kT : T → Int
 | .node k _ _ _ _ => k
def rolesT : Ts → List Int
 | .nil => []
 | .cons t r => roleI (kT t) :: rolesT r
mutual
/-- All nodes are as their kinds want them. -/
def goodT : T → Prop
 | .node k s i keys ts => (textB k s = true ∧ intF k i = true ∧ keysB k keys (count ts) = true ∧ partB k (rolesT ts) = true) ∧ goodTs ts
def goodTs : Ts → Prop
 | .nil => True
 | .cons t r => goodT t ∧ goodTs r
end
def goodFu (f : Fu) : Prop := goodT f.body ∧ kT f.body = 19 ∧ nameB f.name = true ∧ ∀ p ∈ f.params, nameB p = true
/-- The roots of trees side by side, the last one first. -/
def rootS : List T → List Int
 | [] => []
 | t :: s => rootS s ++ [((fsum s + size t - 1 : Nat) : Int)]
theorem rootS_len : ∀ s, (rootS s).length = s.length
 | [] => rfl
 | t :: s => by rw [rootS, List.length_append, rootS_len s]; rfl
theorem rootS_stk : ∀ (us : Ts) (st : List T), rootS (stk us st) = rootS st ++ roots (fsum st) us
 | .nil, st => by rw [stk, roots, List.append_nil]
 | .cons t r, st => by rw [stk, rootS_stk r, rootS, roots, fsum]; simp
theorem flatS_stk : ∀ (us : Ts) (st : List T), flatS 0 (stk us st) = flatS 0 st ++ flats (fsum st) us
 | .nil, st => by rw [stk, flats, List.append_nil]
 | .cons t r, st => by rw [stk, flatS_stk r, flatS, flats, fsum, Nat.zero_add, List.append_assoc]
theorem stk_split : ∀ (m : Nat) (st : List T), m ≤ st.length → ∃ us st2, st = stk us st2 ∧ count us = m
 | 0, st, _ => ⟨.nil, st, rfl, rfl⟩
 | m + 1, st, h => by
  obtain ⟨us, st2, h1, h2⟩ := stk_split m st (by omega)
  have hl : ∀ (us : Ts) (st : List T), (stk us st).length = st.length + count us := fun us => by
   have : ∀ us : Ts, ∀ st : List T, (stk us st).length = st.length + count us := fun us => by
    induction us using Ts.rec (motive_1 := fun _ => True) with
    | nil => intro st; rfl
    | cons t r _ ih => intro st; rw [stk, ih, count, List.length_cons]; omega
    | node => trivial
   exact this us
  cases st2 with
  | nil => rw [h1, hl] at h; simp at h; omega
  | cons t st3 => exact ⟨.cons t us, st3, by rw [stk]; exact h1, by rw [count, h2]⟩
theorem roles_flats : ∀ (us : Ts) (A B : List Nd), rolesL (A ++ flats A.length us ++ B) (roots A.length us) = rolesT us
 | .nil, A, B => rfl
 | .cons t r, A, B => by
  have ih := roles_flats r (A ++ flat A.length t) B
  rw [List.length_append, flat_len] at ih
  rw [flats, roots, rolesT, ← List.append_assoc A, ← ih]
  unfold rolesL
  rw [List.map_cons]
  congr 1
  have hp := size_pos t
  rw [Int.toNat_natCast, List.append_assoc, List.append_assoc, List.getElem?_append_right (by omega), List.getElem?_append_left (by rw [flat_len]; omega), show A.length + size t - 1 - A.length = size t - 1 by omega, flat_at]
  cases t
  rfl
theorem good_stk : ∀ (us : Ts) (st : List T), (∀ t ∈ stk us st, goodT t) → goodTs us ∧ ∀ t ∈ st, goodT t
 | .nil, st, h => ⟨by rw [goodTs]; trivial, h⟩
 | .cons t r, st, h => by
  obtain ⟨h1, h2⟩ := good_stk r (t :: st) h
  exact ⟨by rw [goodTs]; exact ⟨h2 t (List.mem_cons_self ..), h1⟩, fun u hu => h2 u (List.mem_cons_of_mem _ hu)⟩
theorem rts_trees (L : List Nd) : ∀ (r : List Nd) (st : List T) (rs : List Int), L = flatS 0 st ++ r → (∀ t ∈ st, goodT t) → rts L (fsum st) r (rootS st) = some rs →
  ∃ st2, L = flatS 0 st2 ∧ rs = rootS st2 ∧ ∀ t ∈ st2, goodT t
 | [], st, rs, h1, h2, h3 => by
  rw [rts] at h3
  exact ⟨st, by rw [h1, List.append_nil], (Option.some.inj h3).symm, h2⟩
 | x :: r, st, rs, h1, h2, h3 => by
  rw [rts] at h3
  split at h3
  ·rename_i hk
   split at h3
   ·rename_i hx
    obtain ⟨hk1, hk2⟩ := hk
    rw [rootS_len] at hk1
    obtain ⟨us, st2, rfl, hc⟩ := stk_split x.kids.length st hk1
    obtain ⟨g1, g2⟩ := good_stk us st2 h2
    rw [rootS_stk, List.length_append, roots_len, hc, Nat.add_sub_cancel, List.drop_left] at hk2
    rw [rootS_stk, List.length_append, roots_len, hc, Nat.add_sub_cancel, List.take_left] at h3
    rw [flatS_stk] at h1
    have hfl : (flatS 0 st2).length = fsum st2 := flatS_len 0 st2
    have hro : rolesL L x.kids = rolesT us := by
     have := roles_flats us (flatS 0 st2) (x :: r)
     rw [hfl] at this
     rw [← hk2, h1]
     exact this
    have hgood : goodT (.node x.k x.s x.i x.keys us) := by
     unfold ndB at hx
     rw [Bool.and_eq_true, Bool.and_eq_true, Bool.and_eq_true, hro, ← hc] at hx
     rw [goodT]
     exact ⟨⟨hx.1, hx.2.1, hx.2.2.1, hx.2.2.2⟩, g1⟩
    have hf : fsum (.node x.k x.s x.i x.keys us :: st2) = fsum (stk us st2) + 1 := by rw [fsum, size, fsum_stk]; omega
    refine rts_trees L r (.node x.k x.s x.i x.keys us :: st2) rs ?_ (fun t ht => ?_) ?_
    ·rw [h1, flatS, flat, Nat.zero_add, hk2]
     simp
    ·rcases List.mem_cons.1 ht with rfl | ht
     ·exact hgood
     ·exact g2 t ht
    ·rw [hf, rootS, size]
     rw [show fsum st2 + (sizes us + 1) - 1 = fsum (stk us st2) by rw [fsum_stk]; omega]
     exact h3
   ·cases h3
  ·cases h3
theorem goodFs_snoc {L : List Nd} : ∀ (a : List Int) (b : List Fw) (r : Int) (f : Fw), a.length = b.length → goodFs L (a ++ [r]) (b ++ [f]) = true → goodFs L a b = true ∧ goodF L r f = true
 | [], [], r, f, _, h => by
  rw [List.nil_append, List.nil_append, goodFs, Bool.and_eq_true] at h
  exact ⟨rfl, h.1⟩
 | x :: a, y :: b, r, f, hl, h => by
  rw [List.cons_append, List.cons_append, goodFs, Bool.and_eq_true] at h
  obtain ⟨h1, h2⟩ := goodFs_snoc a b r f (by simpa using hl) h.2
  exact ⟨by rw [goodFs, h.1, h1]; rfl, h2⟩
 | [], _ :: _, _, _, hl, _ => by cases hl
 | _ :: _, [], _, _, hl, _ => by cases hl
theorem funcs_of (L : List Nd) : ∀ (st : List T) (F : List Fw) (R : List Nd), L = flatS 0 st ++ R → (∀ t ∈ st, goodT t) → (rootS st).length = F.length → goodFs L (rootS st) F = true →
  ∃ fs, flatS 0 st = flatF 0 fs ∧ F = funcF 0 fs ∧ fsum st = sizeF fs ∧ ∀ f ∈ fs, goodFu f
 | [], F, R, hL, _, hl, h => by
  obtain rfl := List.length_eq_zero_iff.1 hl.symm
  exact ⟨[], rfl, rfl, rfl, fun f hf => by cases hf⟩
 | t :: st, F, R, hL, hg, hl, h => by
  rcases List.eq_nil_or_concat F with rfl | ⟨F', f, rfl⟩
  ·rw [rootS_len] at hl; cases hl
  ·rw [List.concat_eq_append] at *
   rw [rootS] at h hl
   obtain ⟨h1, h2⟩ := goodFs_snoc _ _ _ _ (by simpa using hl) h
   rw [flatS, List.append_assoc, Nat.zero_add] at hL
   obtain ⟨fs, a1, a2, a3, a4⟩ := funcs_of L st F' (flat (fsum st) t ++ R) hL (fun t ht => hg t (List.mem_cons_of_mem _ ht)) (by simpa using hl) h1
   unfold goodF at h2
   rw [Bool.and_eq_true, Bool.and_eq_true, Bool.and_eq_true, decide_eq_true_eq, decide_eq_true_eq] at h2
   obtain ⟨b1, b2, b3, b4⟩ := h2
   have hk : kT t = 19 := by
    have hp := size_pos t
    have hfl : (flatS 0 st).length = fsum st := flatS_len 0 st
    unfold kindAt at b2
    rw [Int.toNat_natCast, hL, List.getElem?_append_right (by omega), List.getElem?_append_left (by rw [flat_len]; omega), hfl, show fsum st + size t - 1 - fsum st = size t - 1 by omega, flat_at] at b2
    cases t
    exact b2
   refine ⟨fs ++ [⟨f.name, f.params, t⟩], ?_, ?_, ?_, fun g hg2 => ?_⟩
   ·rw [flatS, flatF_app, a1, flatF, flatF, List.append_nil, a3]
   ·rw [funcF_app, ← a2, funcF, funcF, ← a3, Nat.zero_add, ← b1]
   ·rw [fsum, sizeF_app, a3, sizeF, sizeF, Nat.add_zero]
   ·rcases List.mem_append.1 hg2 with q | q
    ·exact a4 g q
    ·rw [List.mem_singleton.1 q]
     refine ⟨hg t (List.mem_cons_self ..), hk, b3, fun p hp => ?_⟩
     simp only [Bool.not_eq_true', List.any_eq_false] at b4
     simpa using b4 p hp
/-- A program that isProper accepts is one of good trees. -/
theorem proper_good {L : List Nd} {F : List Fw} (h : properB L F = true) : ∃ fs, L = flatF 0 fs ∧ F = funcF 0 fs ∧ ∀ f ∈ fs, goodFu f := by
 unfold properB at h
 cases e : rts L 0 L [] with
 | none => rw [e] at h; cases h
 | some rs =>
  rw [e, withRts, Bool.and_eq_true, decide_eq_true_eq] at h
  obtain ⟨st, h1, rfl, h3⟩ := rts_trees L L [] rs rfl (fun t ht => by cases ht) e
  obtain ⟨fs, a1, a2, a3, a4⟩ := funcs_of L st F [] (by rw [← h1, List.append_nil]) h3 h.1 h.2
  exact ⟨fs, by rw [← a1]; exact h1, a2, a4⟩
end Syn
end Go.Proofs.YtcapkeaedpabjaaGreatDoor
