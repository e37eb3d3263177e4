/-
  Layer 8, texts merged: SvN, SvL, SvM. For every argument within the bounds that each theorem names.
-/
import Derived.Test.YtcapkeaedpabjaaGreatDoorWO5
import Derived.Test.YtcapkeaedpabjaaGreatDoorWL5
import Derived.Test.YtcapkeaedpabjaaGreatDoorWL6
import Derived.Test.YtcapkeaedpabjaaGreatDoorWL2

/-
 Layer 9: the law Checks.
-/
namespace Go.Proofs.YtcapkeaedpabjaaGreatDoor
open Go.RowKit Go.ChangeShapes Go.WideShapes
namespace Syn
theorem fit_small3 {L : List Nd} {F : List Fw} {n k : Nat} (hs : SmallP L F) (hr : Rch L F) (hn : L.length = n) (hk : F.length = k) : Fit9 n k L F :=
 ⟨by have := hs.hn; omega, by have := hs.hk; omega, hr.wf, fun x hx => ⟨(hr.sn x hx).1, by have := (hs.nd x hx).1; omega⟩, fun f hf => ⟨by have := hs.fn f hf; omega, (hr.sf f hf).2⟩⟩
end Syn
end Go.Proofs.YtcapkeaedpabjaaGreatDoor

/-
 Layer 9, plainly: what the reference's Owner, Calls, Reachable and Ops answer is what the program's do.
-/
namespace Go.Proofs.YtcapkeaedpabjaaGreatDoor
open Go.RowKit Go.ChangeShapes Go.WideShapes
namespace Syn
/-- The function of a node. -/
def ownF (i : Int) : Nat → List Fw → Int
 | q, [] => (q : Int) - 1
 | q, f :: r => if i ≤ f.body then (q : Int) else ownF i (q + 1) r
theorem lw_cons (low : Nat) (g : Fw) (r : List Fw) (p : Nat) : lw low (g :: r) (p + 1) = lw (g.body.toNat + 1) r p := by
 cases p with
 | zero => rfl
 | succ p => rfl
theorem lw_ge {n : Nat} : ∀ (F : List Fw) (low : Nat), Asc n low F → ∀ q, q < F.length → low ≤ lw low F q
 | [], _, _, q, h => absurd h (Nat.not_lt_zero q)
 | g :: r, low, hA, 0, _ => Nat.le_refl _
 | g :: r, low, hA, p + 1, h => by
  rw [lw_cons]
  have := lw_ge r _ hA.2.2 p (by simpa using h)
  have := hA.1
  omega
theorem own_un {n : Nat} : ∀ (F : List Fw) (low q0 q i : Nat) (g : Fw), Asc n low F → F[q]? = some g → lw low F q ≤ i → (i : Int) ≤ g.body → ownF (i : Int) q0 F = ((q0 + q : Nat) : Int)
 | [], _, _, q, _, _, _, h, _, _ => by simp at h
 | f :: r, low, q0, 0, i, g, hA, h, _, h2 => by
  simp only [List.getElem?_cons_zero, Option.some.injEq] at h
  subst h
  rw [ownF, if_pos h2, Nat.add_zero]
 | f :: r, low, q0, p + 1, i, g, hA, h, h1, h2 => by
  rw [List.getElem?_cons_succ] at h
  rw [lw_cons] at h1
  have hp : p < r.length := (List.getElem?_eq_some_iff.1 h).1
  have h3 := lw_ge r _ hA.2.2 p hp
  have h4 := hA.1
  rw [ownF, if_neg (by omega), own_un r _ (q0 + 1) p i g hA.2.2 h h1 h2, show q0 + 1 + p = q0 + (p + 1) by omega]
theorem own_ex {n : Nat} : ∀ (F : List Fw) (low q0 i : Nat), Asc n low F → low ≤ i → i < n → ∃ q g, F[q]? = some g ∧ ownF (i : Int) q0 F = ((q0 + q : Nat) : Int) ∧ lw low F q ≤ i ∧ (i : Int) ≤ g.body
 | [], low, _, i, hA, h1, h2 => by
  have : low = n := hA
  omega
 | f :: r, low, q0, i, hA, h1, h2 => by
  by_cases h : (i : Int) ≤ f.body
  ·exact ⟨0, f, rfl, by rw [ownF, if_pos h, Nat.add_zero], h1, h⟩
  ·obtain ⟨q, g, k1, k2, k3, k4⟩ := own_ex r _ (q0 + 1) i hA.2.2 (by have := hA.1; omega) h2
   exact ⟨q + 1, g, by rw [List.getElem?_cons_succ]; exact k1, by rw [ownF, if_neg h, k2, show q0 + 1 + q = q0 + (q + 1) by omega], by rw [lw_cons]; exact k3, k4⟩
/-- Does the node x at the place i of the function f call g? -/
def fndB (F : List Fw) (f g : Int) (i : Nat) (x : Nd) : Bool := decide (ownF (i : Int) 0 F = f) && (decide (x.k = 11) && decide (findI F x.s = g))
def fndN (F : List Fw) (f g : Int) : Nat → List Nd → Bool
 | _, [] => false
 | i, x :: r => fndB F f g i x || fndN F f g (i + 1) r
theorem fnd_is (F : List Fw) (f g : Int) : ∀ (l : List Nd) (i : Nat), fndN F f g i l = true ↔ ∃ j x, l[j]? = some x ∧ fndB F f g (i + j) x = true
 | [], i => ⟨fun h => (by cases h), fun ⟨j, x, h, _⟩ => (by simp at h)⟩
 | y :: r, i => by
  rw [fndN, Bool.or_eq_true, fnd_is F f g r (i + 1)]
  constructor
  ·rintro (h | ⟨j, x, h1, h2⟩)
   ·exact ⟨0, y, rfl, h⟩
   ·exact ⟨j + 1, x, by rw [List.getElem?_cons_succ]; exact h1, by rw [show i + (j + 1) = i + 1 + j by omega]; exact h2⟩
  ·rintro ⟨j, x, h1, h2⟩
   cases j with
   | zero =>
    simp only [List.getElem?_cons_zero, Option.some.injEq] at h1
    subst h1
    exact Or.inl h2
   | succ j =>
    rw [List.getElem?_cons_succ] at h1
    exact Or.inr ⟨j, x, h1, by rw [show i + 1 + j = i + (j + 1) by omega]; exact h2⟩
/-- What the reference's Calls answers. -/
def callsR (L : List Nd) (F : List Fw) (f : Int) : List Int := upto (fun g => fndN F f (g : Int) 0 L) F.length
theorem calN_mem {F : List Fw} : ∀ (r : List Nd) (x : Int), x ∈ calN F r ↔ ∃ y ∈ r, y.k = 11 ∧ 0 ≤ findI F y.s ∧ findI F y.s = x
 | [], x => ⟨fun h => (by cases h), fun ⟨y, h, _⟩ => (by cases h)⟩
 | y :: r, x => by
  rw [calN]
  split
  ·rename_i hy
   rw [List.mem_cons, calN_mem r x]
   constructor
   ·rintro (h | ⟨z, h1, h2⟩)
    ·exact ⟨y, List.mem_cons_self .., hy.1, hy.2, h.symm⟩
    ·exact ⟨z, List.mem_cons_of_mem _ h1, h2⟩
   ·rintro ⟨z, h1, h2, h3, h4⟩
    rcases List.mem_cons.1 h1 with h | h
    ·rw [h] at h4
     exact Or.inl h4.symm
    ·exact Or.inr ⟨z, h, h2, h3, h4⟩
  ·rename_i hy
   rw [calN_mem r x]
   constructor
   ·rintro ⟨z, h1, h2⟩
    exact ⟨z, List.mem_cons_of_mem _ h1, h2⟩
   ·rintro ⟨z, h1, h2, h3, h4⟩
    rcases List.mem_cons.1 h1 with h | h
    ·rw [h] at h2 h3
     exact absurd ⟨h2, h3⟩ hy
    ·exact ⟨z, h, h2, h3, h4⟩
theorem calls_same {L : List Nd} {F : List Fw} (hA : Asc L.length 0 F) {q : Nat} (hq : q < F.length) : callsR L F (q : Int) = callsL L F q := by
 obtain ⟨f, hf⟩ : ∃ f, F[q]? = some f := ⟨_, List.getElem?_eq_getElem hq⟩
 have hbd := lowOf_ok hA q hq
 have hfq : F[q] = f := by rw [List.getElem?_eq_getElem hq] at hf; exact Option.some.inj hf
 rw [hfq] at hbd
 have hcl : callsL L F q = csI (calN F ((L.drop (lowOf F q)).take (f.body.toNat + 1 - lowOf F q))) := by unfold callsL; rw [hf]
 rw [hcl]
 refine asc_ext (upto_asc _ _) (csI_is _).1 fun x => ?_
 rw [callsR, upto_mem, (csI_is _).2 x, calN_mem]
 constructor
 ·rintro ⟨g, h1, rfl, h3⟩
  obtain ⟨j, y, k1, k2⟩ := (fnd_is F _ _ L 0).1 h3
  rw [fndB, Bool.and_eq_true, Bool.and_eq_true, decide_eq_true_eq, decide_eq_true_eq, decide_eq_true_eq, Nat.zero_add] at k2
  obtain ⟨m1, m2, m3⟩ := k2
  have hjl : j < L.length := (List.getElem?_eq_some_iff.1 k1).1
  obtain ⟨q', f', e1, e2, e3, e4⟩ := own_ex F 0 0 j hA (Nat.zero_le _) hjl
  rw [m1, Nat.zero_add] at e2
  obtain rfl : q = q' := by omega
  rw [hf] at e1
  obtain rfl := Option.some.inj e1
  rw [lw_zero] at e3
  refine ⟨y, ?_, m2, by rw [m3]; omega, m3⟩
  refine List.mem_of_getElem? (i := j - lowOf F q) ?_
  rw [List.getElem?_take, if_pos (by omega), List.getElem?_drop, show lowOf F q + (j - lowOf F q) = j by omega]
  exact k1
 ·rintro ⟨y, h1, h2, h3, h4⟩
  obtain ⟨t, ht⟩ := List.getElem?_of_mem h1
  rw [List.getElem?_take] at ht
  split at ht
  ·rename_i htl
   rw [List.getElem?_drop] at ht
   have hl := find_lt F y.s
   refine ⟨x.toNat, by omega, by omega, (fnd_is F _ _ L 0).2 ⟨lowOf F q + t, y, ht, ?_⟩⟩
   rw [fndB, Bool.and_eq_true, Bool.and_eq_true, decide_eq_true_eq, decide_eq_true_eq, decide_eq_true_eq, Nat.zero_add]
   refine ⟨?_, h2, by omega⟩
   rw [own_un F 0 0 q (lowOf F q + t) f hA hf (by rw [lw_zero]; omega) (by omega), Nat.zero_add]
  ·cases ht
/-- What the reference's Reachable answers. -/
def reachR (L : List Nd) (F : List Fw) : List Int := upto (fun g => decide ((roundsR (fun f => callsL L F f) F.length F.length ((List.replicate F.length false).set (findI F mainT).toNat true))[g]? = some true)) F.length
theorem reachR_same {L : List Nd} {F : List Fw} (h : (resG L F).er = 0) : reachE (resG L F) L F = reachR L F := by
 obtain ⟨-, -, -, hc, hd, hm⟩ := res_ok h
 obtain ⟨h1, h2⟩ := main_in hm
 obtain ⟨hnd, hbd, -, -⟩ := reach_is h
 unfold reachE at hnd hbd ⊢
 rw [if_neg (by simpa using h)] at hnd hbd ⊢
 have hC : ∀ f, ∀ x ∈ callC L F f, 0 ≤ x ∧ x < (F.length : Int) := fun f x hx => callsL_in hx
 have hpw := sortI_pw (reachG (callC L F) F.length 0 [findI F mainT])
 have hsame := fun g => reach_same (C := callC L F) hC (m := (findI F mainT).toNat) (by omega) g
 have hCe : (fun f : Nat => callC L F (f : Int)) = fun f => callsL L F f := by
  funext f
  unfold callC
  rw [Int.toNat_natCast]
 rw [hCe, Int.toNat_of_nonneg h1] at hsame
 refine asc_ext ?_ (upto_asc _ _) fun x => ?_
 ·refine (hpw.and hnd).imp fun ⟨a, b⟩ => ?_
  omega
 ·rw [reachR, upto_mem]
  constructor
  ·intro hx
   have hb := hbd x hx
   rw [List.mem_mergeSort] at hx
   refine ⟨x.toNat, by omega, by omega, ?_⟩
   rw [decide_eq_true_eq]
   exact (hsame x.toNat).2 (by rw [Int.toNat_of_nonneg hb.1]; exact hx)
  ·rintro ⟨g, h3, rfl, h5⟩
   rw [decide_eq_true_eq] at h5
   rw [List.mem_mergeSort]
   exact (hsame g).1 h5
end Syn
end Go.Proofs.YtcapkeaedpabjaaGreatDoor

/-
 Layer 9, the reference: Owner; the law's comparison of texts.
-/
namespace Go.Proofs.YtcapkeaedpabjaaGreatDoor
open Go.RowKit Go.ChangeShapes Go.WideShapes
namespace Syn
set_option maxRecDepth 100000 in
set_option maxHeartbeats 4000000 in
theorem rowner_any (no fo : Option Addr) (n nc k fc : Nat) (F : List Fw) (i : Nat) (hk : k ≤ 100000) (w : World) (hF : FArg w fo k F) :
  Calls Tryz.prog 62 #[.agg #[.slice no n nc, .slice fo k fc], .int .i64 (i : Int)] w fun e w' => e = .returned (.int .i64 (ownF (i : Int) 0 F)) ∧ Bel w w' := by
 obtain ⟨V, hV⟩ : ∃ V, w.alloc (.cells #[.slice no n nc, .slice fo k fc] 25) = V := ⟨_, rfl⟩
 have BV : Bel w V := by rw [← hV]; exact Bel.alloc (Bel.refl w) _
 have v1 : V.cell? ⟨w.heap.size, 1, none⟩ = some (.slice fo k fc) := by rw [← hV]; exact World.cell?_alloc_new ..
 obtain ⟨X, hX⟩ : ∃ X, ownF (i : Int) 0 F = X := ⟨_, rfl⟩
 rw [hX]
 have HX := Lib.hid (show ownF (i : Int) 0 (F.drop 0) = X from hX)
 have HV := Lib.hid hV
 have HB := Lib.hid BV
 have HL := Lib.hid hF.1
 have HF := Lib.hid (hF.on BV)
 clear hF hX hV BV
 go_enter Tryz.func62, Tryz.ntmps62
 go_wp2_with fail
 go_loopw [5] (fun iv wr => ∃ j : Nat, iv = .int .i64 (j : Int) ∧ j ≤ k ∧ Hid (ownF (i : Int) j (F.drop j) = X) ∧ wr = V) (fun iv _ => k - (intOf iv).toNat)
 case atStart => exact ⟨0, rfl, Nat.zero_le _, HX, HV.out⟩
 case round =>
  obtain ⟨j, rfl, hj, HM, rfl⟩ := hrel
  rcases Nat.lt_or_ge j k with hjn | hjn
  ·have q1 : j < F.length := by rw [HL.out]; exact hjn
   obtain ⟨b, off, rfl, hc⟩ := HF.out.2 (by omega)
   obtain ⟨v, hv, hcell⟩ := hc j q1
   have c2 : wr.cell? ⟨b, off + j * 3 + 2, none⟩ = some (.int .i64 F[j].body) := by have := hcell 2 _ rfl; rw [hv.j] at this; simpa using this
   have hM := HM.out
   rw [List.drop_eq_getElem_cons q1, ownF] at hM
   generalize F[j].body = bd at *
   have hj1 : (j : Int) < (k : Int) := by omega
   have hj0 : (0 : Int) ≤ (j : Int) := by omega
   clear hc hv hcell
   by_cases hib : (i : Int) ≤ bd
   ·rw [if_pos hib] at hM
    have hz := Lib.hid hM
    clear hM HM
    go_wp2_with fail
    go_ret
    exact ⟨by rw [← hz.out]; rfl, HB.out⟩
   ·rw [if_neg hib] at hM
    have hM2 := Lib.hid hM
    clear hM HM
    go_wp2_with fail
    go_round
    case rel => exact ⟨j + 1, by go_num, by omega, hM2, trivial⟩
    case measure => first | (simp [intOf]; done) | (simp [intOf]; omega)
  ·have hz := Lib.hid (show (j : Int) - 1 = X by
    have := HM.out
    rw [List.drop_eq_nil_of_le (by rw [HL.out]; exact hjn), ownF] at this
    exact this)
   obtain rfl : j = k := by omega
   have hw : IntKind.i64.wrap ((j : Int) - 1) = (j : Int) - 1 := by rw [IntKind.wrap_i64]; omega
   go_wp2_with fail
   go_ret
   exact ⟨by rw [← hz.out]; rfl, HB.out⟩
end Syn
end Go.Proofs.YtcapkeaedpabjaaGreatDoor
