/-
  Layer 4's reference: Unpack.
-/
import Derived.Test.YtkecellbbfhpoaaFrmD
namespace Go.Proofs.Ytkecellbbfhpoaa
open Go.RowKit Go.ChangeShapes Go.WideShapes
namespace Frm
open Hsh

def unpL (l : List UInt8) : List (List UInt8) := match unp l with | .ok fs => fs | .error _ => []
def unpE (l : List UInt8) : Int := match unp l with | .ok _ => 0 | .error b => badE b
theorem unp_bad {l : List UInt8} {b : Bad} (h : unp l = .error b) : unpL l = [] ∧ unpE l = badE b := by
  unfold unpL unpE
  rw [h]
  exact ⟨rfl, rfl⟩
theorem unp_good {l : List UInt8} {fs : List (List UInt8)} (h : unp l = .ok fs) : unpL l = fs ∧ unpE l = 0 := by
  unfold unpL unpE
  rw [h]
  exact ⟨rfl, rfl⟩
/-- So many fields more, behind those of D. -/
def more (D : List (List UInt8)) : Except Bad (List (List UInt8) × List UInt8) → Except Bad (List (List UInt8) × List UInt8)
  | .ok (fs, t) => .ok (D ++ fs, t)
  | .error b => .error b
theorem more_step (D : List (List UInt8)) (j : Nat) (a b : UInt8) (r : List UInt8) (h1 : val2 a b ≤ 4000) (h2 : val2 a b ≤ r.length) :
    more D (unpF (j + 1) (a :: b :: r)) = more (D ++ [r.take (val2 a b)]) (unpF j (r.drop (val2 a b))) := by
  rw [unpF_eq, if_neg (by omega), if_neg (by omega)]
  cases unpF j (r.drop (val2 a b)) with
  | error e => rfl
  | ok x => obtain ⟨fs, t⟩ := x; simp [more]
theorem drop2 {s : ByteArray} {p : Nat} (h : p + 2 ≤ s.size) : s.toList.drop p = s[p] :: s[p + 1] :: s.toList.drop (p + 2) := by
  rw [List.drop_eq_getElem_cons (by rw [toL_len]; omega), List.drop_eq_getElem_cons (by rw [toL_len]; omega), toL_get s p (by omega), toL_get s (p + 1) (by omega)]
/-- A field's three ways. -/
theorem uf_big {s : ByteArray} {p cnt k j v : Nat} {X : Except Bad (List (List UInt8) × List UInt8)} {D : List (List UInt8)} (h2 : p + 2 ≤ s.size) (hv : val2 s[p] s[p + 1] = v) (hj : cnt - k = j + 1)
    (h : X = more D (unpF (cnt - k) (s.toList.drop p))) (hb : 4000 < v) : X = .error .corrupt := by
  rw [h, hj, drop2 h2, unpF_eq, if_pos (by rw [hv]; exact hb)]
  rfl
theorem uf_short {s : ByteArray} {p cnt k j v : Nat} {X : Except Bad (List (List UInt8) × List UInt8)} {D : List (List UInt8)} (h2 : p + 2 ≤ s.size) (hv : val2 s[p] s[p + 1] = v) (hj : cnt - k = j + 1)
    (h : X = more D (unpF (cnt - k) (s.toList.drop p))) (hb : v ≤ 4000) (hs : s.size - p - 2 < v) : X = .error .trunc := by
  rw [h, hj, drop2 h2, unpF_eq, if_neg (by omega), if_pos (by rw [hv, List.length_drop, toL_len]; omega)]
  rfl
theorem uf_step {s : ByteArray} {p cnt k j v : Nat} {X : Except Bad (List (List UInt8) × List UInt8)} {D : List (List UInt8)} (h2 : p + 2 ≤ s.size) (hv : val2 s[p] s[p + 1] = v) (hj : cnt - k = j + 1)
    (h : X = more D (unpF (cnt - k) (s.toList.drop p))) (hb : v ≤ 4000) (hs : p + 2 + v ≤ s.size) : X = more (D ++ [(s.toList.drop (p + 2)).take v]) (unpF j (s.toList.drop (p + 2 + v))) := by
  rw [h, hj, drop2 h2, more_step _ _ _ _ _ (by omega) (by rw [List.length_drop, toL_len]; omega), hv, List.drop_drop]
theorem unp_split {s : ByteArray} (h : 1 ≤ s.size) (h64 : s[0].toNat ≤ 64) : unp s.toList = match unpF s[0].toNat (s.toList.drop 1) with
    | .error e => .error e
    | .ok (fs, []) => .ok fs
    | .ok (_, _ :: _) => .error .corrupt := by
  have e : s.toList = s[0] :: s.toList.drop 1 := by
    conv => lhs; rw [← List.drop_zero (l := s.toList), List.drop_eq_getElem_cons (by rw [toL_len]; omega), toL_get s 0 (by omega)]
  conv => lhs; rw [e]
  rw [unp_eq, if_neg (by omega)]
  rfl
theorem unp_many {s : ByteArray} (h : 1 ≤ s.size) (h64 : 64 < s[0].toNat) : unp s.toList = .error .corrupt := by
  have e : s.toList = s[0] :: s.toList.drop 1 := by
    conv => lhs; rw [← List.drop_zero (l := s.toList), List.drop_eq_getElem_cons (by rw [toL_len]; omega), toL_get s 0 (by omega)]
  conv => lhs; rw [e]
  rw [unp_eq, if_pos h64]
theorem unp_of_bad {s : ByteArray} {b : Bad} (h : 1 ≤ s.size) (h64 : s[0].toNat ≤ 64) (hb : unpF s[0].toNat (s.toList.drop 1) = .error b) : unp s.toList = .error b := by rw [unp_split h h64, hb]
theorem unp_of_ok {s : ByteArray} {D : List (List UInt8)} (h : 1 ≤ s.size) (h64 : s[0].toNat ≤ 64) (hb : unpF s[0].toNat (s.toList.drop 1) = .ok (D, [])) : unp s.toList = .ok D := by rw [unp_split h h64, hb]
theorem unp_of_rest {s : ByteArray} {D : List (List UInt8)} {t : List UInt8} (h : 1 ≤ s.size) (h64 : s[0].toNat ≤ 64) (ht : t ≠ []) (hb : unpF s[0].toNat (s.toList.drop 1) = .ok (D, t)) : unp s.toList = .error .corrupt := by
  rw [unp_split h h64, hb]
  cases t with
  | nil => exact absurd rfl ht
  | cons _ _ => rfl
set_option maxHeartbeats 8000000 in
theorem runpack_any (s : ByteArray) (hs : s.size ≤ 300000) (w : World) :
    Calls Try.prog 14 #[.string s] w fun e w' => (∃ o k c D, SlArg w' o k D ∧ D.map ByteArray.toList = unpL s.toList ∧ e = .returned (.tuple #[.slice o k c, .int .i64 (unpE s.toList)])) ∧ Bel w w' := by
  obtain ⟨i0, hi, hz0, hz1, hz2⟩ := info_parts info_str
  by_cases h1 : s.size < 1
  · have hz := Lib.hid (unp_bad (show unp s.toList = .error .trunc by
      have : s.toList = [] := List.length_eq_zero_iff.1 (by rw [toL_len]; omega)
      rw [this]; rfl))
    go_enter Try.func14, Try.ntmps14
    go_wp2
    go_ret2
    exact ⟨⟨none, 0, 0, [], SlArg.nil _, by rw [hz.out.1]; rfl, by rw [hz.out.2]; rfl⟩, Bel.refl _⟩
  · have h1' : 1 ≤ s.size := by omega
    have x0 := fun w => idx_str s .i64 0 0 rfl (by omega) w
    have hc := s[0].toNat_lt
    by_cases h64 : 64 < s[0].toNat
    · have hz := Lib.hid (unp_bad (unp_many h1' h64))
      generalize s[0].toNat = cnt at *
      go_enter Try.func14, Try.ntmps14
      go_wp2
      go_ret2
      exact ⟨⟨none, 0, 0, [], SlArg.nil _, by rw [hz.out.1]; rfl, by rw [hz.out.2]; rfl⟩, Bel.refl _⟩
    · have h64' : s[0].toNat ≤ 64 := by omega
      have ub := Lib.hid (fun b => unp_of_bad (s := s) (b := b) h1' h64')
      have uo := Lib.hid (fun D => unp_of_ok (s := s) (D := D) h1' h64')
      have ur := Lib.hid (fun D t => unp_of_rest (s := s) (D := D) (t := t) h1' h64')
      generalize s[0].toNat = cnt at *
      clear h1 h64
      go_enter Try.func14, Try.ntmps14
      go_wp2
      go_loopw [4, 5, 16] (fun v a i wr => ∃ (k c : Nat) (o : Option Addr) (D : List ByteArray) (p : Nat), v = .slice o k c ∧ a = .int .i64 (p : Int) ∧ i = .int .i64 (k : Int) ∧ k ≤ cnt ∧ p ≤ s.size ∧ Hid (wr.ownsRow w.heap.size 9 1 (.slice o k c) k (encS D)) ∧
        Hid (unpF cnt (s.toList.drop 1) = more (D.map ByteArray.toList) (unpF (cnt - k) (s.toList.drop p))) ∧ Hid (Bel w wr)) (fun _ _ i _ => cnt - (intOf i).toNat)
      case atStart => exact ⟨0, 0, none, [], 1, rfl, rfl, rfl, Nat.zero_le _, h1', Lib.hid (World.ownsRow_nil _ _ _ _), Lib.hid (by
        rw [Nat.sub_zero]
        cases unpF cnt (s.toList.drop 1) with
        | error e => rfl
        | ok x => obtain ⟨fs, t⟩ := x; rfl), Lib.hid (Bel.refl _)⟩
      case round =>
        obtain ⟨k, c, o, D, p, rfl, rfl, rfl, hk, hp, hown, hsp, hb⟩ := hrel
        rename World => W0
        clear x0
        by_cases hkc : k < cnt
        · have hj : cnt - k = (cnt - (k + 1)) + 1 := by omega
          by_cases h2 : s.size < p + 2
          · have hz := Lib.hid (unp_bad (ub.out .trunc (by rw [hsp.out, hj, unpF_short (by rw [List.length_drop, toL_len]; omega)]; rfl)))
            clear hsp ub uo ur
            go_wp2
            go_ret2
            exact ⟨⟨none, 0, 0, [], SlArg.nil _, by rw [hz.out.1]; rfl, by rw [hz.out.2]; rfl⟩, hb.out⟩
          · have h2' : p + 2 ≤ s.size := by omega
            have y0 := fun w => idx_str s .i64 (p : Int) p rfl (by omega) w
            have y1 := fun w => idx_str s .i64 ((p : Int) + 1) (p + 1) (by omega) (by omega) w
            have hd := drop2 h2'
            obtain ⟨v, hv⟩ : ∃ v, val2 (s[p]'(by omega)) (s[p + 1]'(by omega)) = v := ⟨_, rfl⟩
            have q0 := s[p].toNat_lt
            have q1 := s[p + 1].toNat_lt
            have HV := Lib.hid hv
            unfold val2 at hv
            have HD := Lib.hid hd
            clear hd
            generalize s[p].toNat = b0 at *
            generalize s[p + 1].toNat = b1 at *
            have m0 : IntKind.i64.wrap ((b0 : Int) * 256) = (b0 : Int) * 256 := by rw [IntKind.wrap_i64]; omega
            have m1 : IntKind.i64.wrap ((b0 : Int) * 256 + (b1 : Int)) = (v : Int) := by rw [show (b0 : Int) * 256 + (b1 : Int) = (v : Int) by omega, IntKind.wrap_i64]; omega
            have m2 : IntKind.i64.wrap ((p : Int) + 1) = (p : Int) + 1 := by rw [IntKind.wrap_i64]; omega
            clear hv HD
            go_upto_region 11 with (fail)
            go_quiet (fail)
            clear y0 y1 m0 m1 m2 q0 q1
            have G := Lib.hid (Bel.drewN hb.out nq)
            by_cases hbig : 4000 < v
            · have hz := Lib.hid (unp_bad (ub.out .corrupt (uf_big h2' HV.out hj hsp.out hbig)))
              clear hsp ub uo ur HV
              go_wp2
              go_ret2
              exact ⟨⟨none, 0, 0, [], SlArg.nil _, by rw [hz.out.1]; rfl, by rw [hz.out.2]; rfl⟩, G.out⟩
            · by_cases hsh : s.size - p - 2 < v
              · have hz := Lib.hid (unp_bad (ub.out .trunc (uf_short h2' HV.out hj hsp.out (by omega) hsh)))
                clear hsp ub uo ur HV
                go_wp2
                go_ret2
                exact ⟨⟨none, 0, 0, [], SlArg.nil _, by rw [hz.out.1]; rfl, by rw [hz.out.2]; rfl⟩, G.out⟩
              · have hpv : p + 2 + v ≤ s.size := by omega
                have hst := uf_step h2' HV.out hj hsp.out (by omega) hpv
                have sl := fun w => cutS s (p + 2) (p + 2 + v) ((p : Int) + 2) ((p : Int) + 2 + (v : Int)) (by omega) (by omega) (by omega) hpv w
                rw [show p + 2 + v - (p + 2) = v by omega] at sl
                obtain ⟨T, hT⟩ : ∃ T : ByteArray, ⟨((s.toList.drop (p + 2)).take v).toArray⟩ = T := ⟨_, rfl⟩
                have hTl : T.toList = (s.toList.drop (p + 2)).take v := by rw [← hT, tl']
                rw [hT] at sl
                have hnew : Hid (unpF cnt (s.toList.drop 1) = more ((D ++ [T]).map ByteArray.toList) (unpF (cnt - (k + 1)) (s.toList.drop (p + 2 + v)))) := Lib.hid (by
                  rw [hst]
                  simp [hTl])
                have hownA := Lib.hid (own_on hown.out ((Bel.refl W0).drewN nq))
                clear hst hT hTl hsp hown HV ub uo ur
                generalize W0.drewN nq = W1 at *
                have m3 : IntKind.i64.wrap ((p : Int) + 2) = (p : Int) + 2 := by rw [IntKind.wrap_i64]; omega
                have m4 : IntKind.i64.wrap ((p : Int) + 2 + (v : Int)) = (p : Int) + 2 + (v : Int) := by rw [IntKind.wrap_i64]; omega
                have GS := G.out.size
                have q1 := Lib.hid (cell_new1 W1 (.string T) 9)
                have q2 : Hid (∀ u ∈ [Value.string T], u.oneCell' = true) := Lib.hid (fun u hu => by simp at hu; subst hu; rfl)
                have q3 : Hid (k + 1 ≤ maxLen) := Lib.hid (by unfold maxLen; omega)
                have q4 : Hid ((k + 1) * 16 ≤ 140737488355328) := Lib.hid (by omega)
                have q5 : Hid (w.heap.size ≤ (W1.alloc (.cells #[.string T] 9)).heap.size) := Lib.hid (Nat.le_trans GS (Nat.le_of_lt (alloc_lt _ _)))
                go_wp2_with (at_builtin; refine wpList_append_own _ rfl _ _ 22 rfl w.heap.size 9 i0 (.string ByteArray.empty) 1 16 Try.underlying22 hi hz0 hz1 hz2 rfl (by decide) _ _ _ rfl (hownA.out.alloc _) ⟨W1.heap.size, 0, none⟩ 1 1 [.string T] rfl rfl q1.out q2.out q3.out q4.out q5.out ?_; intro v' w3 hown' hgrow3 hnil3; refine Hid.out ?_)
                refine Lib.hid ?_
                obtain ⟨o2, c2, rfl⟩ := own_shape hown'
                have hg3 : (W1.alloc (.cells #[.string T] 9)).grownBy w3 (Value.slice o k c).ownBlock := hgrow3
                have b3 := Lib.hid (own_bel (hownA.out.alloc _) (G.out.alloc (.cells #[.string T] 9)) hg3)
                have o3 : Hid (w3.ownsRow w.heap.size 9 1 (.slice o2 (k + 1) c2) (k + 1) (encS (D ++ [T]))) := Lib.hid (by
                  have e : encS (D ++ [T]) = encS D ++ [Value.string T] := by simp [encS]
                  rw [e]
                  exact hown')
                clear hnil3 hgrow3 hg3 hown' q1 q2 q3 q4 q5 hownA
                go_wp2
                go_round
                case rel => exact ⟨k + 1, c2, o2, D ++ [T], p + 2 + v, rfl, by go_num, by go_num, by omega, hpv, o3, hnew, b3⟩
                case measure => simp [intOf]; omega
        · obtain rfl : k = cnt := by omega
          have hfin : unpF k (s.toList.drop 1) = .ok (D.map ByteArray.toList, s.toList.drop p) := by
            rw [hsp.out, Nat.sub_self]
            simp [unpF, more]
          clear hsp
          by_cases hend : p < s.size
          · have hz := Lib.hid (unp_bad (ur.out _ _ (by intro e; have := congrArg List.length e; rw [List.length_drop, toL_len] at this; simp at this; omega) hfin))
            clear hfin ub uo ur
            go_wp2
            go_ret2
            exact ⟨⟨none, 0, 0, [], SlArg.nil _, by rw [hz.out.1]; rfl, by rw [hz.out.2]; rfl⟩, hb.out⟩
          · have hdn : s.toList.drop p = [] := List.drop_eq_nil_of_le (by rw [toL_len]; omega)
            rw [hdn] at hfin
            clear hdn
            have hz := Lib.hid (unp_good (uo.out _ hfin))
            clear hfin ub uo ur
            go_wp2
            go_ret2
            exact ⟨⟨o, k, c, D, own_sarg hown.out, by rw [hz.out.1], by rw [hz.out.2]; rfl⟩, hb.out⟩
end Frm
end Go.Proofs.Ytkecellbbfhpoaa
