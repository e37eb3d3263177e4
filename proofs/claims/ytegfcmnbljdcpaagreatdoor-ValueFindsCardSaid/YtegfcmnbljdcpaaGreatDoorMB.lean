/-
  Layer 6, texts merged: the reference's Next and what it leans on. For every argument within the bounds that each theorem names.
-/
import Derived.Test.YtegfcmnbljdcpaaGreatDoorMA
import Derived.Deep.DeepCutAuto
import Derived.Deep.QuietTactic
import Derived.BigQuiet
import Derived.Sort.Walk0
import Derived.Laws.Cover1
import Derived.Lib.Strings

/-
  Layer 6, the reference: Next, elements, pairs.
-/
namespace Go.Proofs.YtegfcmnbljdcpaaGreatDoor
open Go.RowKit
namespace Val

/-- Where what is left begins. -/
def ix (l r : List Cel) : Int := ((l.length - r.length : Nat) : Int)
/-- The index behind the value that begins at an index, or -1; behind several; behind several pairs. -/
def nx (l : List Cel) (f i : Nat) : Int := match rd f (l.drop i) with
  | some (_, r) => ix l r
  | none => -1
def el (l : List Cel) (f i m : Nat) : Int := match rdL (rd f) m (l.drop i) with
  | some (_, r) => ix l r
  | none => -1
def pr (l : List Cel) (f i m : Nat) (q : Option Txt) : Int := match rdM (rd f) m q (l.drop i) with
  | some (_, r) => ix l r
  | none => -1
theorem rest_of {l x r : List Cel} {i : Nat} (h : l.drop i = x ++ r) (hx : 1 ≤ x.length) : ∃ j : Nat, ix l r = (j : Int) ∧ i < j ∧ j ≤ l.length ∧ r = l.drop j ∧ j = i + x.length := by
  have hl := congrArg List.length h
  rw [List.length_drop, List.length_append] at hl
  have hi : i ≤ l.length := by omega
  refine ⟨l.length - r.length, rfl, by omega, by omega, ?_, by omega⟩
  have e : l.length - r.length = i + x.length := by omega
  rw [e, ← List.drop_drop, h, List.drop_left]
theorem nx_cases (l : List Cel) (f i : Nat) : (rd f (l.drop i) = none ∧ nx l f i = -1) ∨ ∃ (v : V) (j : Nat), rd f (l.drop i) = some (v, l.drop j) ∧ nx l f i = (j : Int) ∧ i < j ∧ j ≤ l.length := by
  unfold nx
  cases h : rd f (l.drop i) with
  | none => exact Or.inl ⟨rfl, rfl⟩
  | some x =>
    obtain ⟨v, r⟩ := x
    obtain ⟨_, h2⟩ := rd_sound h
    obtain ⟨j, e1, e2, e3, e4, _⟩ := rest_of h2 (flat_pos v)
    exact Or.inr ⟨v, j, by rw [← e4], e1, e2, e3⟩
theorem el_zero (l : List Cel) (f i : Nat) (hi : i ≤ l.length) : el l f i 0 = (i : Int) := by
  unfold el rdL ix
  simp only
  rw [List.length_drop]
  omega
theorem el_step (l : List Cel) (f i m : Nat) : el l f i (m + 1) = if nx l f i = -1 then -1 else el l f (nx l f i).toNat m := by
  rcases nx_cases l f i with ⟨h1, h2⟩ | ⟨v, j, h1, h2, _, _⟩
  · rw [if_pos h2]
    unfold el
    rw [rdL, h1]
  · rw [if_neg (by omega), h2]
    unfold el
    rw [rdL, h1]
    simp only [Int.toNat_natCast]
    cases rdL (rd f) m (l.drop j) with
    | none => rfl
    | some x => rfl
theorem pr_zero (l : List Cel) (f i : Nat) (q : Option Txt) (hi : i ≤ l.length) : pr l f i 0 q = (i : Int) := by
  unfold pr rdM ix
  simp only
  rw [List.length_drop]
  omega
theorem pr_end (l : List Cel) (f i m : Nat) (q : Option Txt) (hi : l.length ≤ i) : pr l f i (m + 1) q = -1 := by
  unfold pr
  rw [List.drop_of_length_le hi]
  rfl
theorem pr_step (l : List Cel) (f i m : Nat) (q : Option Txt) (h : i < l.length) : pr l f i (m + 1) q = if (keyC l[i] && above q l[i].s) = false then -1 else if nx l f (i + 1) = -1 then -1 else pr l f (nx l f (i + 1)).toNat m (some l[i].s) := by
  have e := List.drop_eq_getElem_cons h
  conv => lhs; unfold pr
  rw [e]
  conv => lhs; unfold rdM
  simp only
  cases hk : (keyC l[i] && above q l[i].s) with
  | false => rw [if_neg (by decide), if_pos rfl]
  | true =>
    rw [if_pos rfl, if_neg (by decide)]
    rcases nx_cases l f (i + 1) with ⟨h1, h2⟩ | ⟨v, j, h1, h2, _, _⟩
    · rw [if_pos h2, h1]
    · rw [if_neg (by omega), h2, h1]
      simp only [Int.toNat_natCast]
      unfold pr
      cases rdM (rd f) m (some l[i].s) (l.drop j) with
      | none => rfl
      | some x => rfl
/-- What Next says, where at most so many cells are left. -/
def NextI (l : List Cel) (f : Nat) : Prop := ∀ (o : Option Addr) (n c i : Nat), l.length - i ≤ f → i ≤ 2000000 → n ≤ 1000000 → ∀ w : World, CArg w o n l →
  Calls Tryz.prog 34 #[.slice o n c, .int .i64 (i : Int)] w fun e w' => e = .returned (.int .i64 (nx l f i)) ∧ Bel w w'
set_option maxHeartbeats 1000000 in
theorem elements_any {l : List Cel} {f : Nat} (H : Hid (NextI l f)) (o : Option Addr) (n c i : Nat) (m : Int) (hi : l.length - i ≤ f) (hi2 : i ≤ 1000000) (hn : n ≤ 1000000) (hm : m ≤ 9223372036854775807) (w : World) (hA : CArg w o n l) :
    Calls Tryz.prog 56 #[.slice o n c, .int .i64 (i : Int), .int .i64 m] w fun e w' => e = .returned (.int .i64 (if m.toNat = 0 then (i : Int) else el l f i m.toNat)) ∧ Bel w w' := by
  have HA := Lib.hid hA
  have hl := hA.1
  clear hA
  obtain ⟨E, hE⟩ : ∃ E, (if m.toNat = 0 then (i : Int) else el l f i m.toNat) = E := ⟨_, rfl⟩
  rw [hE]
  go_enter Tryz.func56, Tryz.ntmps56
  go_wp2
  go_loopw [1, 7] (fun i' k' wr => ∃ (k j : Nat), k' = .int .i64 (k : Int) ∧ i' = .int .i64 (j : Int) ∧ k ≤ m.toNat ∧ j ≤ 1000000 ∧ l.length - j ≤ f ∧ Hid ((if m.toNat - k = 0 then (j : Int) else el l f j (m.toNat - k)) = E) ∧ Hid (Bel w wr)) (fun _ k' _ => m.toNat - (intOf k').toNat)
  case atStart => exact ⟨0, i, rfl, rfl, Nat.zero_le _, hi2, hi, Lib.hid (by rw [Nat.sub_zero]; exact hE), Lib.hid (Bel.refl _)⟩
  case round =>
    obtain ⟨k, j, rfl, rfl, hk, hj, hf, hr, hb⟩ := hrel
    rename World => W0
    clear hE
    by_cases hlt : (k : Int) < m
    · have hN := H.out o n c j hf (by omega) hn W0 (HA.out.on hb.out)
      have hE2 := hr.out
      obtain ⟨q, hq⟩ : ∃ q, m.toNat - k = q + 1 := ⟨m.toNat - k - 1, by omega⟩
      rw [hq, if_neg (by omega), el_step] at hE2
      rcases nx_cases l f j with ⟨_, h2⟩ | ⟨v, j2, _, h2, h3, h4⟩
      · rw [if_pos h2] at hE2
        have hz := Lib.hid hE2
        rw [h2] at hN
        have HN := Lib.hid hN
        clear hN hE2 h2 hr hq
        go_wp2_with fail
        refine HN.out.mono ?_
        rintro e w1 ⟨rfl, g1⟩
        go_wp2_with fail
        go_ret
        exact ⟨by rw [← hz.out]; rfl, Bel.trans hb.out g1⟩
      · rw [if_neg (by omega), h2, Int.toNat_natCast] at hE2
        have hq2 : m.toNat - (k + 1) = q := by omega
        have hz : Hid ((if m.toNat - (k + 1) = 0 then (j2 : Int) else el l f j2 (m.toNat - (k + 1))) = E) := Lib.hid (by
          rw [hq2]
          split
          · rename_i h0
            rw [h0, el_zero l f j2 h4] at hE2
            exact hE2
          · exact hE2)
        rw [h2] at hN
        have HN := Lib.hid hN
        clear hN hE2 h2 hr hq hq2
        go_wp2_with fail
        refine HN.out.mono ?_
        rintro e w1 ⟨rfl, g1⟩
        go_wp2_with fail
        go_round
        case rel => exact ⟨k + 1, j2, by go_num, rfl, by omega, by omega, by omega, hz, Lib.hid (Bel.trans hb.out g1)⟩
        case measure => simp [intOf]; omega
    · have hq : m.toNat - k = 0 := by omega
      have hE2 := hr.out
      rw [if_pos hq] at hE2
      have hz := Lib.hid hE2
      clear hE2 hr hq
      go_wp2
      go_ret
      exact ⟨by rw [← hz.out]; rfl, hb.out⟩
theorem leq_no {x y : Txt} (h : y < x) : Op.bytesLess x y = false ∧ (x == y) = false := by
  rw [bytesLess_eq]
  have h1 : ¬ x < y := fun k => List.lt_irrefl _ (List.lt_trans h k)
  have h2 : ¬ x = y := fun e => by subst e; exact List.lt_irrefl _ h
  exact ⟨decide_eq_false h1, by simpa using h2⟩
theorem leq_yes {x y : Txt} (h : ¬ y < x) : Op.bytesLess x y = true ∨ (Op.bytesLess x y = false ∧ (x == y) = true) := by
  rw [bytesLess_eq]
  by_cases h1 : x < y
  · exact Or.inl (decide_eq_true h1)
  · have e : x = y := List.le_antisymm (List.not_lt.1 h) (List.not_lt.1 h1)
    exact Or.inr ⟨decide_eq_false h1, by simpa using e⟩
set_option maxHeartbeats 2000000 in
theorem pairs_any {l : List Cel} {f : Nat} (H : Hid (NextI l f)) (o : Option Addr) (n c i : Nat) (m : Int) (hi : l.length - i ≤ f) (hi2 : i ≤ 1000000) (hn : n ≤ 1000000) (hm : m ≤ 9223372036854775807) (w : World) (hA : CArg w o n l) :
    Calls Tryz.prog 57 #[.slice o n c, .int .i64 (i : Int), .int .i64 m] w fun e w' => e = .returned (.int .i64 (if m.toNat = 0 then (i : Int) else pr l f i m.toNat none)) ∧ Bel w w' := by
  have HA := Lib.hid hA
  have hl := hA.1
  clear hA
  obtain ⟨E, hE⟩ : ∃ E, (if m.toNat = 0 then (i : Int) else pr l f i m.toNat none) = E := ⟨_, rfl⟩
  rw [hE]
  go_enter Tryz.func57, Tryz.ntmps57
  go_wp2
  go_loopw [1, 7, 8] (fun i' s' k' wr => ∃ (k j : Nat) (S : ByteArray), k' = .int .i64 (k : Int) ∧ i' = .int .i64 (j : Int) ∧ s' = .string S ∧ k ≤ m.toNat ∧ j ≤ 1000000 ∧ l.length - j ≤ f ∧
    Hid ((if m.toNat - k = 0 then (j : Int) else pr l f j (m.toNat - k) (if k = 0 then none else some S.toList)) = E) ∧ Hid (Bel w wr)) (fun _ _ k' _ => m.toNat - (intOf k').toNat)
  case atStart => exact ⟨0, i, _, rfl, rfl, rfl, Nat.zero_le _, hi2, hi, Lib.hid (by rw [Nat.sub_zero, if_pos (rfl : (0 : Nat) = 0)]; exact hE), Lib.hid (Bel.refl _)⟩
  case round =>
    obtain ⟨k, j, S, rfl, rfl, rfl, hk, hj, hf, hr, hb⟩ := hrel
    rename World => W0
    clear hE
    by_cases hlt : (k : Int) < m
    · have hE2 := hr.out
      obtain ⟨q, hq⟩ : ∃ q, m.toNat - k = q + 1 := ⟨m.toNat - k - 1, by omega⟩
      have hq2 : m.toNat - (k + 1) = q := by omega
      rw [hq, if_neg (by omega)] at hE2
      by_cases hjn : j < n
      · have hjl : j < l.length := by omega
        rw [pr_step l f j q _ hjl] at hE2
        obtain ⟨b, off, rfl, hcs⟩ := HA.out.2.2 (by omega)
        obtain ⟨c1, c2, c3, c4⟩ := (hcs j hjl).on hb.out
        have hfit := HA.out.2.1 l[j] (List.getElem_mem hjl)
        have hN := H.out (some ⟨b, off, none⟩) n c (j + 1) (by omega) (by omega) hn
        obtain ⟨x, hx⟩ : ∃ x, l[j] = x := ⟨_, rfl⟩
        rw [hx] at hE2 c1 c2 c3 c4 hfit
        obtain ⟨xk, xi, xs, xn⟩ := x
        simp only at hE2 c1 c2 c3 c4
        obtain ⟨X, hX⟩ : ∃ X : ByteArray, ⟨xs.toArray⟩ = X := ⟨_, rfl⟩
        have hXl : X.toList = xs := by rw [← hX, tl]
        have hXs : X.size ≤ maxLen := by
          have := hfit.2.2.2
          simp only at this
          rw [← toL_len, hXl]
          unfold maxLen
          omega
        rw [hX] at c3
        have hK := key_any xk xi xn X hXs
        rw [hXl] at hK
        clear hcs hx hfit hX hr
        cases hkey : keyC ⟨xk, xi, xs, xn⟩ with
        | false =>
          rw [hkey] at hE2 hK
          rw [Bool.false_and, if_pos rfl] at hE2
          have hz := Lib.hid hE2
          have HK := Lib.hid hK
          clear hE2 hK hkey hN hq hq2 hXl hXs
          go_wp2_with (go_at_call 55; ((with_reducible refine (HK.out _).mono ?_); rintro e w1 ⟨rfl, g1⟩))
          go_ret
          exact ⟨by rw [← hz.out]; rfl, Bel.trans hb.out g1⟩
        | true =>
          rw [hkey] at hE2 hK
          rw [Bool.true_and] at hE2
          have HK := Lib.hid hK
          clear hK hkey
          have hab : (k = 0 ∧ above (if k = 0 then none else some S.toList) xs = true) ∨ (0 < k ∧ above (if k = 0 then none else some S.toList) xs = decide (S.toList < xs)) := by
            rcases Nat.eq_zero_or_pos k with h0 | h0
            · left
              rw [if_pos h0]
              exact ⟨h0, rfl⟩
            · right
              rw [if_neg (by omega)]
              exact ⟨h0, rfl⟩
          by_cases hbad : 0 < k ∧ ¬ S.toList < xs
          · rcases hab with ⟨h0, _⟩ | ⟨h0, h1⟩
            · omega
            · rw [h1, decide_eq_false hbad.2, if_pos rfl] at hE2
              have hT := leq_yes (x := X.toList) (y := S.toList) (by rw [hXl]; exact hbad.2)
              have hz := Lib.hid hE2
              have hk0 : (0 : Int) < (k : Int) := by omega
              clear hE2 hN hq hq2 hXl hXs hbad h1
              rcases hT with hT | ⟨hT, hT2⟩
              all_goals
               go_wp2_with (go_at_call 55; ((with_reducible refine (HK.out _).mono ?_); rintro e w1 ⟨rfl, g1⟩; have d1 := g1.cell' c1; have d2 := g1.cell' c2; have d3 := g1.cell' c3; have d4 := g1.cell' c4))
               go_ret
               exact ⟨by rw [← hz.out]; rfl, Bel.trans hb.out g1⟩
          · have hok : above (if k = 0 then none else some S.toList) xs = true := by
              rcases hab with ⟨_, h1⟩ | ⟨h0, h1⟩
              · exact h1
              · rw [h1]
                rcases Classical.em (S.toList < xs) with h2 | h2
                · exact decide_eq_true h2
                · exact absurd ⟨h0, h2⟩ hbad
            rw [hok, if_neg (by decide)] at hE2
            have hT : 0 < k → Op.bytesLess X.toList S.toList = false ∧ (X.toList == S.toList) = false := fun h0 => by
              rcases Classical.em (S.toList < xs) with h2 | h2
              · exact leq_no (by rw [hXl]; exact h2)
              · exact absurd ⟨h0, h2⟩ hbad
            clear hab hok hbad
            rcases nx_cases l f (j + 1) with ⟨_, h2⟩ | ⟨v, j2, _, h2, h3, h4⟩
            · rw [if_pos h2] at hE2
              have hz := Lib.hid hE2
              rw [h2] at hN
              have HN := Lib.hid hN
              clear hE2 hN hq hq2 hXl hXs h2
              rcases Nat.eq_zero_or_pos k with rfl | hk0
              all_goals
                first
                  | (obtain ⟨hT1, hT2⟩ := hT hk0; have hk1 : (0 : Int) < (k : Int) := by omega)
                  | skip
                clear hT
                go_wp2_with (first | (go_at_call 55; ((with_reducible refine (HK.out _).mono ?_); rintro e w1 ⟨rfl, g1⟩; have d1 := g1.cell' c1; have d2 := g1.cell' c2; have d3 := g1.cell' c3; have d4 := g1.cell' c4)) | (go_at_call 34; refine (HN.out _ (HA.out.on (Bel.trans hb.out g1))).mono ?_; rintro e w2 ⟨rfl, g2⟩))
                go_ret
                exact ⟨by rw [← hz.out]; rfl, Bel.trans hb.out (Bel.trans g1 g2)⟩
            · rw [if_neg (by omega), h2, Int.toNat_natCast] at hE2
              have hz : Hid ((if m.toNat - (k + 1) = 0 then (j2 : Int) else pr l f j2 (m.toNat - (k + 1)) (if k + 1 = 0 then none else some X.toList)) = E) := Lib.hid (by
                rw [hq2, hXl, if_neg (by omega : ¬ k + 1 = 0)]
                split
                · rename_i h0
                  rw [h0, pr_zero l f j2 _ h4] at hE2
                  exact hE2
                · exact hE2)
              rw [h2] at hN
              have HN := Lib.hid hN
              clear hE2 hN hq hq2 hXl hXs h2
              rcases Nat.eq_zero_or_pos k with rfl | hk0
              all_goals
                first
                  | (obtain ⟨hT1, hT2⟩ := hT hk0; have hk1 : (0 : Int) < (k : Int) := by omega)
                  | skip
                clear hT
                go_wp2_with (first | (go_at_call 55; ((with_reducible refine (HK.out _).mono ?_); rintro e w1 ⟨rfl, g1⟩; have d1 := g1.cell' c1; have d2 := g1.cell' c2; have d3 := g1.cell' c3; have d4 := g1.cell' c4)) | (go_at_call 34; refine (HN.out _ (HA.out.on (Bel.trans hb.out g1))).mono ?_; rintro e w2 ⟨rfl, g2⟩))
                go_round
                case rel => exact ⟨_, j2, X, by go_num, rfl, rfl, by omega, by omega, by omega, hz, Lib.hid (Bel.trans hb.out (Bel.trans g1 g2))⟩
                case measure => simp [intOf]; omega
      · obtain ⟨q', rfl⟩ : ∃ q', q = q' := ⟨q, rfl⟩
        rw [pr_end l f j q _ (by omega)] at hE2
        have hz := Lib.hid hE2
        clear hE2 hr hq hq2
        go_wp2
        go_ret
        exact ⟨by rw [← hz.out]; rfl, hb.out⟩
    · have hq : m.toNat - k = 0 := by omega
      have hE2 := hr.out
      rw [if_pos hq] at hE2
      have hz := Lib.hid hE2
      clear hE2 hr hq
      go_wp2
      go_ret
      exact ⟨by rw [← hz.out]; rfl, hb.out⟩
end Val
end Go.Proofs.YtegfcmnbljdcpaaGreatDoor

/-
  Layer 6, the reference: Next, a cell of each kind.
-/
namespace Go.Proofs.YtegfcmnbljdcpaaGreatDoor
open Go.RowKit
namespace Val

theorem str_no {X : ByteArray} (h : X.toList ≠ []) : X.toList.isEmpty = false ∧ (X.toList = []) = False := ⟨by simpa using h, eq_false h⟩
theorem str_empty {X : ByteArray} (h : X.toList = []) : X = ⟨#[]⟩ := by
  rw [← str_back X, h]
theorem nx_head {l : List Cel} {f i : Nat} (h : i < l.length) : nx l (f + 1) i = (if headC 5 l[i] then el l f (i + 1) l[i].n.toNat else if headC 6 l[i] then pr l f (i + 1) l[i].n.toNat none else if (rd1 l[i]).isSome then ((i + 1 : Nat) : Int) else -1) := by
  have e := List.drop_eq_getElem_cons h
  have key : rd (f + 1) (l.drop i) = if headC 5 l[i] then (match rdL (rd f) l[i].n.toNat (l.drop (i + 1)) with
      | none => none
      | some (t, r') => some (.list t, r')) else if headC 6 l[i] then (match rdM (rd f) l[i].n.toNat none (l.drop (i + 1)) with
      | none => none
      | some (t, r') => some (.map t, r')) else match rd1 l[i] with
      | none => none
      | some v => some (v, l.drop (i + 1)) := by
    rw [e, rd]
    rfl
  unfold nx el pr
  rw [key]
  cases h5 : headC 5 l[i] with
  | true =>
    simp only [if_true]
    cases rdL (rd f) l[i].n.toNat (l.drop (i + 1)) with
    | none => rfl
    | some x => rfl
  | false =>
    simp only [Bool.false_eq_true, if_false]
    cases h6 : headC 6 l[i] with
    | true =>
      simp only [if_true]
      cases rdM (rd f) l[i].n.toNat none (l.drop (i + 1)) with
      | none => rfl
      | some x => rfl
    | false =>
      simp only [Bool.false_eq_true, if_false]
      cases rd1 l[i] with
      | none => rfl
      | some v =>
        show ix l (l.drop (i + 1)) = _
        unfold ix
        rw [List.length_drop]
        simp
        omega
theorem nx_end {l : List Cel} {f i : Nat} (h : l.length ≤ i) : nx l f i = -1 := by
  unfold nx
  rw [List.drop_of_length_le h]
  cases f <;> rfl
/-- The tests on one cell, each as the program makes it. -/
theorem one_null (z n : Int) (s : Txt) : (rd1 ⟨1, z, s, n⟩).isSome = (z == 0 && (s == [] && n == 0)) := by
  unfold rd1
  simp only
  rw [if_pos trivial]
  split
  · rename_i h; obtain ⟨rfl, rfl, rfl⟩ := h; rfl
  · rename_i h
    symm
    show _ = false
    rw [Bool.eq_false_iff]
    intro k
    simp only [Bool.and_eq_true, beq_iff_eq] at k
    exact h ⟨k.1, k.2.1, k.2.2⟩
theorem one_bool (z n : Int) (s : Txt) : (rd1 ⟨2, z, s, n⟩).isSome = ((z == 0 || z == 1) && (s == [] && n == 0)) := by
  unfold rd1
  simp only
  rw [if_neg (by decide), if_pos trivial]
  split
  · rename_i h; obtain ⟨rfl | rfl, rfl, rfl⟩ := h <;> rfl
  · rename_i h
    symm
    show _ = false
    rw [Bool.eq_false_iff]
    intro k
    simp only [Bool.and_eq_true, Bool.or_eq_true, beq_iff_eq] at k
    exact h ⟨k.1, k.2.1, k.2.2⟩
theorem one_int (z n : Int) (s : Txt) : (rd1 ⟨3, z, s, n⟩).isSome = (s == [] && n == 0) := by
  unfold rd1
  simp only
  rw [if_neg (by decide), if_neg (by decide), if_pos trivial]
  split
  · rename_i h; obtain ⟨rfl, rfl⟩ := h; rfl
  · rename_i h
    symm
    show _ = false
    rw [Bool.eq_false_iff]
    intro k
    simp only [Bool.and_eq_true, beq_iff_eq] at k
    exact h k
theorem one_str (z n : Int) (s : Txt) : (rd1 ⟨4, z, s, n⟩).isSome = keyC ⟨4, z, s, n⟩ := by
  unfold rd1
  simp only
  rw [if_neg (by decide), if_neg (by decide), if_neg (by decide), if_pos trivial]
  cases h : keyC ⟨4, z, s, n⟩ with
  | true => rfl
  | false => rfl
theorem one_else {k z n : Int} {s : Txt} (h1 : k ≠ 1) (h2 : k ≠ 2) (h3 : k ≠ 3) (h4 : k ≠ 4) : rd1 ⟨k, z, s, n⟩ = none := by
  unfold rd1
  simp only
  rw [if_neg h1, if_neg h2, if_neg h3, if_neg h4]
theorem no_head {k k' z n : Int} {s : Txt} (h : k ≠ k') : headC k' ⟨k, z, s, n⟩ = false := by
  unfold headC
  have : (k == k') = false := by simpa using h
  simp [this]
set_option maxRecDepth 100000 in
set_option maxHeartbeats 1000000 in
theorem five_yes (b off n c0 i : Nat) (xi xn E : Int) (X : ByteArray) (hin : i < n) (hn : n ≤ 1000000) (w : World) (c1 : w.cell? ⟨b, off + i * 4, none⟩ = some (.int .i64 5)) (c2 : w.cell? ⟨b, off + i * 4 + 1, none⟩ = some (.int .i64 xi)) (c3 : w.cell? ⟨b, off + i * 4 + 2, none⟩ = some (.string X)) (c4 : w.cell? ⟨b, off + i * 4 + 3, none⟩ = some (.int .i64 xn)) (h1 : xi = 0) (h2 : X.toList = []) (h3 : 0 ≤ xn)
    (HE : Hid (∀ W, Bel w W → Calls Tryz.prog 56 #[.slice (some ⟨b, off, none⟩) n c0, .int .i64 ((i + 1 : Nat) : Int), .int .i64 xn] W fun e w' => e = .returned (.int .i64 E) ∧ Bel W w')) :
    Calls Tryz.prog 34 #[.slice (some ⟨b, off, none⟩) n c0, .int .i64 (i : Int)] w fun e w' => e = .returned (.int .i64 E) ∧ Bel w w' := by
  subst h1
  obtain rfl := str_empty h2
  clear h2
  have hcast : ((i + 1 : Nat) : Int) = (i : Int) + 1 := by omega
  rw [hcast] at HE
  clear hcast
  go_enter Tryz.func34, Tryz.ntmps34
  go_wp2_with (go_at_call 56; ((with_reducible refine (HE.out _ (Bel.alloc (Bel.refl _) _)).mono ?_); rintro e w1 ⟨rfl, g1⟩))
  go_ret
  exact ⟨rfl, Bel.trans (Bel.alloc (Bel.refl _) _) g1⟩
set_option maxRecDepth 100000 in
set_option maxHeartbeats 1000000 in
theorem five_no (b off n c0 i : Nat) (xi xn : Int) (X : ByteArray) (hin : i < n) (w : World) (c1 : w.cell? ⟨b, off + i * 4, none⟩ = some (.int .i64 5)) (c2 : w.cell? ⟨b, off + i * 4 + 1, none⟩ = some (.int .i64 xi)) (c3 : w.cell? ⟨b, off + i * 4 + 2, none⟩ = some (.string X)) (c4 : w.cell? ⟨b, off + i * 4 + 3, none⟩ = some (.int .i64 xn)) (h : ¬ (xi = 0 ∧ X.toList = [] ∧ 0 ≤ xn)) :
    Calls Tryz.prog 34 #[.slice (some ⟨b, off, none⟩) n c0, .int .i64 (i : Int)] w fun e w' => e = .returned (.int .i64 (-1)) ∧ Bel w w' := by
  by_cases z1 : xi = 0
  · subst z1
    by_cases z2 : X.toList = []
    · have z3 : ¬ 0 ≤ xn := fun z3 => h ⟨rfl, z2, z3⟩
      obtain rfl := str_empty z2
      clear z2 h
      go_enter Tryz.func34, Tryz.ntmps34
      go_wp2
      go_ret
      exact ⟨rfl, Bel.alloc (Bel.refl _) _⟩
    · obtain ⟨y1, y2⟩ := str_no z2
      clear z2 h
      go_enter Tryz.func34, Tryz.ntmps34
      go_wp2
      go_ret
      exact ⟨rfl, Bel.alloc (Bel.refl _) _⟩
  · clear h
    go_enter Tryz.func34, Tryz.ntmps34
    go_wp2
    go_ret
    exact ⟨rfl, Bel.alloc (Bel.refl _) _⟩
set_option maxRecDepth 100000 in
set_option maxHeartbeats 1000000 in
theorem six_yes (b off n c0 i : Nat) (xi xn E : Int) (X : ByteArray) (hin : i < n) (hn : n ≤ 1000000) (w : World) (c1 : w.cell? ⟨b, off + i * 4, none⟩ = some (.int .i64 6)) (c2 : w.cell? ⟨b, off + i * 4 + 1, none⟩ = some (.int .i64 xi)) (c3 : w.cell? ⟨b, off + i * 4 + 2, none⟩ = some (.string X)) (c4 : w.cell? ⟨b, off + i * 4 + 3, none⟩ = some (.int .i64 xn)) (h1 : xi = 0) (h2 : X.toList = []) (h3 : 0 ≤ xn)
    (HE : Hid (∀ W, Bel w W → Calls Tryz.prog 57 #[.slice (some ⟨b, off, none⟩) n c0, .int .i64 ((i + 1 : Nat) : Int), .int .i64 xn] W fun e w' => e = .returned (.int .i64 E) ∧ Bel W w')) :
    Calls Tryz.prog 34 #[.slice (some ⟨b, off, none⟩) n c0, .int .i64 (i : Int)] w fun e w' => e = .returned (.int .i64 E) ∧ Bel w w' := by
  subst h1
  obtain rfl := str_empty h2
  clear h2
  have hcast : ((i + 1 : Nat) : Int) = (i : Int) + 1 := by omega
  rw [hcast] at HE
  clear hcast
  go_enter Tryz.func34, Tryz.ntmps34
  go_wp2_with (go_at_call 57; ((with_reducible refine (HE.out _ (Bel.alloc (Bel.refl _) _)).mono ?_); rintro e w1 ⟨rfl, g1⟩))
  go_ret
  exact ⟨rfl, Bel.trans (Bel.alloc (Bel.refl _) _) g1⟩
set_option maxRecDepth 100000 in
set_option maxHeartbeats 1000000 in
theorem six_no (b off n c0 i : Nat) (xi xn : Int) (X : ByteArray) (hin : i < n) (w : World) (c1 : w.cell? ⟨b, off + i * 4, none⟩ = some (.int .i64 6)) (c2 : w.cell? ⟨b, off + i * 4 + 1, none⟩ = some (.int .i64 xi)) (c3 : w.cell? ⟨b, off + i * 4 + 2, none⟩ = some (.string X)) (c4 : w.cell? ⟨b, off + i * 4 + 3, none⟩ = some (.int .i64 xn)) (h : ¬ (xi = 0 ∧ X.toList = [] ∧ 0 ≤ xn)) :
    Calls Tryz.prog 34 #[.slice (some ⟨b, off, none⟩) n c0, .int .i64 (i : Int)] w fun e w' => e = .returned (.int .i64 (-1)) ∧ Bel w w' := by
  by_cases z1 : xi = 0
  · subst z1
    by_cases z2 : X.toList = []
    · have z3 : ¬ 0 ≤ xn := fun z3 => h ⟨rfl, z2, z3⟩
      obtain rfl := str_empty z2
      clear z2 h
      go_enter Tryz.func34, Tryz.ntmps34
      go_wp2
      go_ret
      exact ⟨rfl, Bel.alloc (Bel.refl _) _⟩
    · obtain ⟨y1, y2⟩ := str_no z2
      clear z2 h
      go_enter Tryz.func34, Tryz.ntmps34
      go_wp2
      go_ret
      exact ⟨rfl, Bel.alloc (Bel.refl _) _⟩
  · clear h
    go_enter Tryz.func34, Tryz.ntmps34
    go_wp2
    go_ret
    exact ⟨rfl, Bel.alloc (Bel.refl _) _⟩
set_option maxRecDepth 100000 in
set_option maxHeartbeats 1000000 in
theorem else_no (b off n c0 i : Nat) (k xi xn : Int) (X : ByteArray) (hin : i < n) (w : World) (c1 : w.cell? ⟨b, off + i * 4, none⟩ = some (.int .i64 k)) (c2 : w.cell? ⟨b, off + i * 4 + 1, none⟩ = some (.int .i64 xi)) (c3 : w.cell? ⟨b, off + i * 4 + 2, none⟩ = some (.string X)) (c4 : w.cell? ⟨b, off + i * 4 + 3, none⟩ = some (.int .i64 xn)) (k1 : ¬ k = 1) (k2 : ¬ k = 2) (k3 : ¬ k = 3) (k4 : ¬ k = 4) (k5 : ¬ k = 5) (k6 : ¬ k = 6) :
    Calls Tryz.prog 34 #[.slice (some ⟨b, off, none⟩) n c0, .int .i64 (i : Int)] w fun e w' => e = .returned (.int .i64 (-1)) ∧ Bel w w' := by
  go_enter Tryz.func34, Tryz.ntmps34
  go_wp2
  go_ret
  exact ⟨rfl, Bel.alloc (Bel.refl _) _⟩
theorem head_yes {k z n : Int} {s : Txt} : headC k ⟨k, z, s, n⟩ = true ↔ z = 0 ∧ s = [] ∧ 0 ≤ n := by
  unfold headC
  simp [and_assoc]
end Val
end Go.Proofs.YtegfcmnbljdcpaaGreatDoor

/-
  Layer 6, the reference: Next, for all cells.
-/
namespace Go.Proofs.YtegfcmnbljdcpaaGreatDoor
open Go.RowKit
namespace Val

set_option maxRecDepth 100000 in
set_option maxHeartbeats 4000000 in
theorem next_step {l : List Cel} {f : Nat} (H : Hid (NextI l f)) : NextI l (f + 1) := by
  intro o n c0 i hi hi2 hn w hA
  have hl := hA.1
  by_cases hin : i < n
  · have hil : i < l.length := by omega
    rw [nx_head hil]
    obtain ⟨b, off, rfl, hcs⟩ := hA.2.2 (by omega)
    obtain ⟨c1, c2, c3, c4⟩ := hcs i hil
    have hfit := hA.2.1 l[i] (List.getElem_mem hil)
    have hE := fun m hm => Lib.hid (elements_any H (some ⟨b, off, none⟩) n c0 (i + 1) m (by omega) (by omega) hn hm)
    have hP := fun m hm => Lib.hid (pairs_any H (some ⟨b, off, none⟩) n c0 (i + 1) m (by omega) (by omega) hn hm)
    have HA := Lib.hid hA
    have e0 := el_zero l f (i + 1) (by omega)
    have p0 := pr_zero l f (i + 1) none (by omega)
    generalize l[i] = x at *
    obtain ⟨xk, xi, xs, xn⟩ := x
    simp only at c1 c2 c3 c4 hfit ⊢
    obtain ⟨X, hX⟩ : ∃ X : ByteArray, ⟨xs.toArray⟩ = X := ⟨_, rfl⟩
    have hXl : X.toList = xs := by rw [← hX, tl]
    have hXs : X.size ≤ maxLen := by
      have := hfit.2.2.2
      simp only at this
      rw [← toL_len, hXl]
      unfold maxLen
      omega
    rw [hX] at c3
    have hK := key_any xk xi xn X hXs
    rw [hXl] at hK
    have hb2 := hfit.2.2.1
    simp only at hb2
    clear hcs hA hX hfit hl
    have HK := Lib.hid hK
    clear hK
    obtain ⟨E, hEE⟩ : ∃ E, (if headC 5 ⟨xk, xi, xs, xn⟩ then el l f (i + 1) xn.toNat else if headC 6 ⟨xk, xi, xs, xn⟩ then pr l f (i + 1) xn.toNat none else if (rd1 ⟨xk, xi, xs, xn⟩).isSome then ((i + 1 : Nat) : Int) else -1) = E := ⟨_, rfl⟩
    rw [hEE]
    by_cases k1 : xk = 1
    · subst k1
      rw [no_head (by decide), no_head (by decide), if_neg (by decide), if_neg (by decide), one_null, ← hXl] at hEE
      clear hXl hE hP e0 p0
      by_cases z1 : xi = 0
      · subst z1
        by_cases z2 : X.toList = []
        · rw [z2] at hEE
          obtain rfl := str_empty z2
          clear z2
          by_cases z3 : xn = 0
          · subst z3
            have hz := Lib.hid (hEE.symm.trans (if_pos (by decide)))
            clear hEE
            go_enter Tryz.func34, Tryz.ntmps34
            go_wp2_with (first | (go_at_call 54; refine (after_any _ _ (by omega) (by omega) _).mono ?_; rintro e w' ⟨rfl, rfl⟩))
            go_ret
            exact ⟨by rw [hz.out]; rfl, Bel.alloc (Bel.refl _) _⟩
          · have hb : (xn == 0) = false := by simpa using z3
            have hz := Lib.hid (hEE.symm.trans (if_neg (by rw [hb]; simp)))
            clear hEE
            go_enter Tryz.func34, Tryz.ntmps34
            go_wp2_with (first | (go_at_call 54; refine (after_any _ _ (by omega) (by omega) _).mono ?_; rintro e w' ⟨rfl, rfl⟩))
            go_ret
            exact ⟨by rw [hz.out]; rfl, Bel.alloc (Bel.refl _) _⟩
        · obtain ⟨y1, y2⟩ := str_no z2
          have hb : (X.toList == []) = false := by simpa using z2
          have hz := Lib.hid (hEE.symm.trans (if_neg (by rw [hb]; simp)))
          clear hEE z2 hb
          go_enter Tryz.func34, Tryz.ntmps34
          go_wp2_with (first | (go_at_call 54; refine (after_any _ _ (by omega) (by omega) _).mono ?_; rintro e w' ⟨rfl, rfl⟩))
          go_ret
          exact ⟨by rw [hz.out]; rfl, Bel.alloc (Bel.refl _) _⟩
      · have hb : (xi == 0) = false := by simpa using z1
        have hz := Lib.hid (hEE.symm.trans (if_neg (by rw [hb]; simp)))
        clear hEE
        go_enter Tryz.func34, Tryz.ntmps34
        go_wp2_with (first | (go_at_call 54; refine (after_any _ _ (by omega) (by omega) _).mono ?_; rintro e w' ⟨rfl, rfl⟩))
        go_ret
        exact ⟨by rw [hz.out]; rfl, Bel.alloc (Bel.refl _) _⟩
    by_cases k2 : xk = 2
    · subst k2
      rw [no_head (by decide), no_head (by decide), if_neg (by decide), if_neg (by decide), one_bool, ← hXl] at hEE
      clear hXl hE hP e0 p0
      by_cases z0 : xi = 0 ∨ xi = 1
      · rcases z0 with rfl | rfl
        all_goals
          by_cases z2 : X.toList = []
          · rw [z2] at hEE
            obtain rfl := str_empty z2
            clear z2
            by_cases z3 : xn = 0
            · subst z3
              have hz := Lib.hid (hEE.symm.trans (if_pos (by decide)))
              clear hEE
              go_enter Tryz.func34, Tryz.ntmps34
              go_wp2_with (first | (go_at_call 54; refine (after_any _ _ (by omega) (by omega) _).mono ?_; rintro e w' ⟨rfl, rfl⟩))
              go_ret
              exact ⟨by rw [hz.out]; rfl, Bel.alloc (Bel.refl _) _⟩
            · have hb : (xn == 0) = false := by simpa using z3
              have hz := Lib.hid (hEE.symm.trans (if_neg (by rw [hb]; simp)))
              clear hEE
              go_enter Tryz.func34, Tryz.ntmps34
              go_wp2_with (first | (go_at_call 54; refine (after_any _ _ (by omega) (by omega) _).mono ?_; rintro e w' ⟨rfl, rfl⟩))
              go_ret
              exact ⟨by rw [hz.out]; rfl, Bel.alloc (Bel.refl _) _⟩
          · obtain ⟨y1, y2⟩ := str_no z2
            have hb : (X.toList == []) = false := by simpa using z2
            have hz := Lib.hid (hEE.symm.trans (if_neg (by rw [hb]; simp)))
            clear hEE z2 hb
            go_enter Tryz.func34, Tryz.ntmps34
            go_wp2_with (first | (go_at_call 54; refine (after_any _ _ (by omega) (by omega) _).mono ?_; rintro e w' ⟨rfl, rfl⟩))
            go_ret
            exact ⟨by rw [hz.out]; rfl, Bel.alloc (Bel.refl _) _⟩
      · have hb : (xi == 0 || xi == 1) = false := by rw [Bool.eq_false_iff]; simpa using z0
        have hz := Lib.hid (hEE.symm.trans (if_neg (by rw [hb]; simp)))
        have z1 : ¬ xi = 0 := fun h => z0 (Or.inl h)
        have z4 : ¬ xi = 1 := fun h => z0 (Or.inr h)
        clear hEE z0 hb
        go_enter Tryz.func34, Tryz.ntmps34
        go_wp2_with (first | (go_at_call 54; refine (after_any _ _ (by omega) (by omega) _).mono ?_; rintro e w' ⟨rfl, rfl⟩))
        go_ret
        exact ⟨by rw [hz.out]; rfl, Bel.alloc (Bel.refl _) _⟩
    by_cases k3 : xk = 3
    · subst k3
      rw [no_head (by decide), no_head (by decide), if_neg (by decide), if_neg (by decide), one_int, ← hXl] at hEE
      clear hXl hE hP e0 p0
      by_cases z2 : X.toList = []
      · rw [z2] at hEE
        obtain rfl := str_empty z2
        clear z2
        by_cases z3 : xn = 0
        · subst z3
          have hz := Lib.hid (hEE.symm.trans (if_pos (by decide)))
          clear hEE
          go_enter Tryz.func34, Tryz.ntmps34
          go_wp2_with (first | (go_at_call 54; refine (after_any _ _ (by omega) (by omega) _).mono ?_; rintro e w' ⟨rfl, rfl⟩))
          go_ret
          exact ⟨by rw [hz.out]; rfl, Bel.alloc (Bel.refl _) _⟩
        · have hb : (xn == 0) = false := by simpa using z3
          have hz := Lib.hid (hEE.symm.trans (if_neg (by rw [hb]; simp)))
          clear hEE
          go_enter Tryz.func34, Tryz.ntmps34
          go_wp2_with (first | (go_at_call 54; refine (after_any _ _ (by omega) (by omega) _).mono ?_; rintro e w' ⟨rfl, rfl⟩))
          go_ret
          exact ⟨by rw [hz.out]; rfl, Bel.alloc (Bel.refl _) _⟩
      · obtain ⟨y1, y2⟩ := str_no z2
        have hb : (X.toList == []) = false := by simpa using z2
        have hz := Lib.hid (hEE.symm.trans (if_neg (by rw [hb]; simp)))
        clear hEE z2 hb
        go_enter Tryz.func34, Tryz.ntmps34
        go_wp2_with (first | (go_at_call 54; refine (after_any _ _ (by omega) (by omega) _).mono ?_; rintro e w' ⟨rfl, rfl⟩))
        go_ret
        exact ⟨by rw [hz.out]; rfl, Bel.alloc (Bel.refl _) _⟩
    by_cases k4 : xk = 4
    · subst k4
      rw [no_head (by decide), no_head (by decide), if_neg (by decide), if_neg (by decide), one_str] at hEE
      clear hXl hE hP e0 p0
      cases hk : keyC ⟨4, xi, xs, xn⟩ with
      | false =>
        rw [hk] at hEE HK
        have hz := Lib.hid (hEE.symm.trans (if_neg (by decide)))
        clear hEE hk
        go_enter Tryz.func34, Tryz.ntmps34
        go_wp2_with (first | (go_at_call 54; refine (after_any _ _ (by omega) (by omega) _).mono ?_; rintro e w' ⟨rfl, rfl⟩) | (go_at_call 55; ((with_reducible refine (HK.out _).mono ?_); rintro e w1 ⟨rfl, g1⟩)))
        go_ret
        exact ⟨by rw [hz.out]; rfl, Bel.trans (Bel.alloc (Bel.refl _) _) g1⟩
      | true =>
        rw [hk] at hEE HK
        have hz := Lib.hid (hEE.symm.trans (if_pos rfl))
        clear hEE hk
        go_enter Tryz.func34, Tryz.ntmps34
        go_wp2_with (first | (go_at_call 54; refine (after_any _ _ (by omega) (by omega) _).mono ?_; rintro e w' ⟨rfl, rfl⟩) | (go_at_call 55; ((with_reducible refine (HK.out _).mono ?_); rintro e w1 ⟨rfl, g1⟩)))
        go_ret
        exact ⟨by rw [hz.out]; rfl, Bel.trans (Bel.alloc (Bel.refl _) _) g1⟩
    by_cases k5 : xk = 5
    · subst k5
      clear hXs HK
      by_cases hh : headC 5 ⟨5, xi, xs, xn⟩ = true
      · rw [if_pos hh] at hEE
        obtain ⟨h1, h2, h3⟩ := head_yes.1 hh
        have hE2 := hE xn hb2.2
        refine five_yes b off n c0 i xi xn E X hin hn w c1 c2 c3 c4 h1 (by rw [hXl]; exact h2) h3 (Lib.hid fun W hW => ?_)
        have := hE2.out W (HA.out.on hW)
        have e2 : (if xn.toNat = 0 then ((i + 1 : Nat) : Int) else el l f (i + 1) xn.toNat) = E := by
          split
          · rename_i h0
            rw [h0, e0] at hEE
            exact hEE
          · exact hEE
        rw [e2] at this
        exact this
      · rw [if_neg hh, no_head (by decide), if_neg (by decide), one_else (by decide) (by decide) (by decide) (by decide), Option.isSome_none, if_neg (by decide)] at hEE
        subst hEE
        exact five_no b off n c0 i xi xn X hin w c1 c2 c3 c4 (fun h => hh (head_yes.2 ⟨h.1, by rw [← hXl]; exact h.2.1, h.2.2⟩))
    by_cases k6 : xk = 6
    · subst k6
      clear hXs HK
      rw [no_head (by decide), if_neg (by decide)] at hEE
      by_cases hh : headC 6 ⟨6, xi, xs, xn⟩ = true
      · rw [if_pos hh] at hEE
        obtain ⟨h1, h2, h3⟩ := head_yes.1 hh
        have hE2 := hP xn hb2.2
        refine six_yes b off n c0 i xi xn E X hin hn w c1 c2 c3 c4 h1 (by rw [hXl]; exact h2) h3 (Lib.hid fun W hW => ?_)
        have := hE2.out W (HA.out.on hW)
        have e2 : (if xn.toNat = 0 then ((i + 1 : Nat) : Int) else pr l f (i + 1) xn.toNat none) = E := by
          split
          · rename_i h0
            rw [h0, p0] at hEE
            exact hEE
          · exact hEE
        rw [e2] at this
        exact this
      · rw [if_neg hh, one_else (by decide) (by decide) (by decide) (by decide), Option.isSome_none, if_neg (by decide)] at hEE
        subst hEE
        exact six_no b off n c0 i xi xn X hin w c1 c2 c3 c4 (fun h => hh (head_yes.2 ⟨h.1, by rw [← hXl]; exact h.2.1, h.2.2⟩))
    rw [no_head k5, no_head k6, if_neg (by decide), if_neg (by decide), one_else k1 k2 k3 k4, Option.isSome_none, if_neg (by decide)] at hEE
    subst hEE
    exact else_no b off n c0 i xk xi xn X hin w c1 c2 c3 c4 k1 k2 k3 k4 k5 k6
  · rw [nx_end (by omega)]
    go_enter Tryz.func34, Tryz.ntmps34
    go_wp2
    go_ret
    exact ⟨rfl, Bel.refl _⟩
end Val
end Go.Proofs.YtegfcmnbljdcpaaGreatDoor

/-
  Layer 6, the reference: formed, levels.
-/
namespace Go.Proofs.YtegfcmnbljdcpaaGreatDoor
open Go.RowKit
namespace Val

def allL (P : V → Prop) : L → Prop
  | .nil => True
  | .cons v r => P v ∧ allL P r
def allM (P : V → Prop) : M → Prop
  | .nil => True
  | .cons _ v r => P v ∧ allM P r
mutual
theorem V_ind {P : V → Prop} (h0 : P .null) (h1 : ∀ b, P (.bool b)) (h2 : ∀ n, P (.int n)) (h3 : ∀ s, P (.str s)) (hl : ∀ x, allL P x → P (.list x)) (hm : ∀ x, allM P x → P (.map x)) : ∀ t, P t
  | .null => h0
  | .bool b => h1 b
  | .int n => h2 n
  | .str s => h3 s
  | .list x => hl x (L_ind h0 h1 h2 h3 hl hm x)
  | .map x => hm x (M_ind h0 h1 h2 h3 hl hm x)
theorem L_ind {P : V → Prop} (h0 : P .null) (h1 : ∀ b, P (.bool b)) (h2 : ∀ n, P (.int n)) (h3 : ∀ s, P (.str s)) (hl : ∀ x, allL P x → P (.list x)) (hm : ∀ x, allM P x → P (.map x)) : ∀ x, allL P x
  | .nil => trivial
  | .cons v r => ⟨V_ind h0 h1 h2 h3 hl hm v, L_ind h0 h1 h2 h3 hl hm r⟩
theorem M_ind {P : V → Prop} (h0 : P .null) (h1 : ∀ b, P (.bool b)) (h2 : ∀ n, P (.int n)) (h3 : ∀ s, P (.str s)) (hl : ∀ x, allL P x → P (.list x)) (hm : ∀ x, allM P x → P (.map x)) : ∀ x, allM P x
  | .nil => trivial
  | .cons _ v r => ⟨V_ind h0 h1 h2 h3 hl hm v, M_ind h0 h1 h2 h3 hl hm r⟩
end
set_option maxRecDepth 100000 in
theorem next_zero (l : List Cel) : NextI l 0 := by
  intro o n c0 i hi hi2 hn w hA
  have hl := hA.1
  rw [nx_end (by omega)]
  have hin : ¬ i < n := by omega
  clear hA hl
  go_enter Tryz.func34, Tryz.ntmps34
  go_wp2
  go_ret
  exact ⟨rfl, Bel.refl _⟩
theorem next_all (l : List Cel) (f : Nat) : NextI l f := by
  induction f with
  | zero => exact next_zero l
  | succ f ih => exact next_step (Lib.hid ih)
/-- Next, where a value stands. -/
theorem nx_flat {l r : List Cel} {i : Nat} {t : V} (h : l.drop i = flat t ++ r) (hw : wf t = true) : nx l l.length i = ((i + (flat t).length : Nat) : Int) ∧ l.drop (i + (flat t).length) = r ∧ i + (flat t).length ≤ l.length := by
  have hl := congrArg List.length h
  rw [List.length_drop, List.length_append] at hl
  have hp := flat_pos t
  refine ⟨?_, by rw [← List.drop_drop, h, List.drop_left], by omega⟩
  unfold nx
  rw [h, rd_full t l.length r hw (by omega)]
  show ix l r = _
  unfold ix
  congr 1
  omega
/-- The cell at a place. -/
theorem cell_of {l r : List Cel} {i : Nat} {c : Cel} (h : l.drop i = c :: r) : ∃ hi : i < l.length, l[i] = c ∧ l.drop (i + 1) = r := by
  have hl := congrArg List.length h
  rw [List.length_drop, List.length_cons] at hl
  have hi : i < l.length := by omega
  have e := List.drop_eq_getElem_cons hi
  rw [h] at e
  injection e with e1 e2
  exact ⟨hi, e1.symm, e2.symm⟩
theorem lvlL_le : ∀ x, allL (fun t => lvl t ≤ (flat t).length) x → lvlL x ≤ (flatL x).length
  | .nil, _ => Nat.zero_le _
  | .cons v r, h => by
    have := lvlL_le r h.2
    have := h.1
    simp only [lvlL, flatL, List.length_append]
    omega
theorem lvlM_le : ∀ x, allM (fun t => lvl t ≤ (flat t).length) x → lvlM x ≤ (flatM x).length
  | .nil, _ => Nat.zero_le _
  | .cons k v r, h => by
    have := lvlM_le r h.2
    have := h.1
    simp only [lvlM, flatM, List.length_append, List.length_cons]
    omega
theorem lvl_le : ∀ t, lvl t ≤ (flat t).length := by
  refine V_ind (by simp [lvl, flat]) (fun b => by simp [lvl, flat]) (fun b => by simp [lvl, flat]) (fun b => by simp [lvl, flat]) (fun x hx => ?_) (fun x hx => ?_)
  · have := lvlL_le x hx
    simp only [lvl, flat, List.length_cons]
    omega
  · have := lvlM_le x hx
    simp only [lvl, flat, List.length_cons]
    omega
/-- What formed says. -/
def formB (l : List Cel) : Bool := (par l).isSome
theorem form_nx (l : List Cel) : formB l = (decide (0 < l.length) && nx l l.length 0 == (l.length : Int)) := by
  unfold formB par
  cases l with
  | nil => rfl
  | cons c r =>
    have e : nx (c :: r) (c :: r).length 0 = match rd (c :: r).length (c :: r) with
      | some (_, q) => ix (c :: r) q
      | none => -1 := rfl
    rw [e]
    cases h : rd (c :: r).length (c :: r) with
    | none =>
      simp
      omega
    | some x =>
      obtain ⟨v, q⟩ := x
      obtain ⟨h1, h2⟩ := rd_sound h
      have hp := flat_pos v
      have hl := congrArg List.length h2
      rw [List.length_append] at hl
      cases q with
      | nil => simp [ix]
      | cons d q =>
        simp only [List.length_cons] at hl
        have : (ix (c :: r) (d :: q) == ((c :: r).length : Int)) = false := by
          rw [beq_eq_false_iff_ne]
          unfold ix
          simp only [List.length_cons]
          omega
        rw [this, Bool.and_false]
        rfl
theorem formed_any (l : List Cel) (o : Option Addr) (n c : Nat) (hn : n ≤ 1000000) (w : World) (hA : CArg w o n l) :
    Calls Tryz.prog 51 #[.slice o n c] w fun e w' => e = .returned (.bool (formB l)) ∧ Bel w w' := by
  have hl := hA.1
  have HN := Lib.hid (next_all l l.length o n c 0 (by omega) (by omega) hn w hA)
  have hz := Lib.hid (form_nx l)
  rw [hl] at hz
  rw [show (((0 : Nat) : Int)) = 0 from rfl] at HN
  generalize formB l = B at hz ⊢
  rw [hl] at HN
  generalize nx l n 0 = N at hz HN
  clear hA
  by_cases h0 : 0 < n
  · have hz2 := Lib.hid (hz.out.trans (by rw [decide_eq_true h0, Bool.true_and]) : B = (N == (n : Int)))
    go_enter Tryz.func51, Tryz.ntmps51
    go_wp2_with fail
    refine HN.out.mono ?_
    rintro e w1 ⟨rfl, g1⟩
    go_wp2_with fail
    go_ret
    exact ⟨by rw [hz2.out]; rfl, g1⟩
  · have hz2 := Lib.hid (hz.out.trans (by rw [decide_eq_false h0, Bool.false_and]) : B = false)
    go_enter Tryz.func51, Tryz.ntmps51
    go_wp2_with fail
    go_ret
    exact ⟨by rw [hz2.out]; rfl, Bel.refl _⟩
end Val
end Go.Proofs.YtegfcmnbljdcpaaGreatDoor

/-
  Layer 6, the reference: levels.
-/
namespace Go.Proofs.YtegfcmnbljdcpaaGreatDoor
open Go.RowKit
namespace Val

theorem lenL_le : ∀ x, lenL x ≤ (flatL x).length
  | .nil => Nat.zero_le _
  | .cons v r => by
    have := lenL_le r
    have := flat_pos v
    simp only [lenL, flatL, List.length_append]
    omega
theorem lenM_le : ∀ x, lenM x ≤ (flatM x).length
  | .nil => Nat.zero_le _
  | .cons k v r => by
    have := lenM_le r
    have := flat_pos v
    simp only [lenM, flatM, List.length_append, List.length_cons]
    omega
/-- Well-formed pairs, whatever stood before. -/
def wfMX (m : M) : Prop := ∃ q, wfM q m = true
def wfLX (x : L) : Prop := wfL x = true
def LevI (l : List Cel) (t : V) : Prop := ∀ (o : Option Addr) (n c i : Nat) (r : List Cel), l.drop i = flat t ++ r → wf t = true → n ≤ 1000000 → ∀ w : World, CArg w o n l →
  Calls Tryz.prog 52 #[.slice o n c, .int .i64 (i : Int)] w fun e w' => e = .returned (.int .i64 (lvl t : Int)) ∧ Bel w w'
set_option maxHeartbeats 400000 in
theorem lev_one (l : List Cel) (t : V) (cc : Cel) (hf : flat t = [cc]) (h5 : ¬ cc.k = 5) (h6 : ¬ cc.k = 6) (hv : lvl t = 1) : LevI l t := by
  intro o n c i r hd hw hn w hA
  have hl := hA.1
  rw [hf] at hd
  obtain ⟨hi, hc, hd2⟩ := cell_of hd
  obtain ⟨b, off, rfl, hcs⟩ := hA.2.2 (by omega)
  obtain ⟨c1, c2, c3, c4⟩ := hcs i hi
  rw [hc] at c1 c2 c3 c4
  obtain ⟨k, z, s, m⟩ := cc
  simp only at c1 c2 c3 c4 h5 h6
  obtain ⟨X, hX⟩ : ∃ X : ByteArray, ⟨s.toArray⟩ = X := ⟨_, rfl⟩
  rw [hX] at c3
  rw [hv]
  have h5' : (k != 5) = true := by simpa using h5
  have h6' : (k != 6) = true := by simpa using h6
  clear hcs hA hd hd2 hc hX hf hw hv h5 h6
  go_enter Tryz.func52, Tryz.ntmps52
  go_wp2
  go_ret
  exact ⟨rfl, Bel.alloc (Bel.refl _) _⟩
set_option maxHeartbeats 4000000 in
theorem lev_list (l : List Cel) (x : L) (hx : allL (LevI l) x) : LevI l (.list x) := by
  intro o n c i r hd hw hn w hA
  have hl := hA.1
  have HA := Lib.hid hA
  rw [flat, List.cons_append] at hd
  obtain ⟨hi, hc, hd2⟩ := cell_of hd
  obtain ⟨b, off, rfl, hcs⟩ := hA.2.2 (by omega)
  obtain ⟨c1, c2, c3, c4⟩ := hcs i hi
  rw [hc] at c1 c2 c3 c4
  simp only at c1 c2 c3 c4
  rw [wf] at hw
  have hN : lenL x ≤ n := by
    have h1 := lenL_le x
    have h2 := congrArg List.length hd2
    rw [List.length_drop, List.length_append] at h2
    omega
  have hll : lvlL x ≤ 1000000 := by
    have h1 := lvl_le (.list x)
    rw [lvl, flat, List.length_cons] at h1
    have h2 := congrArg List.length hd2
    rw [List.length_drop, List.length_append] at h2
    omega
  rw [lvl]
  obtain ⟨N, hNx⟩ : ∃ N, lenL x = N := ⟨_, rfl⟩
  obtain ⟨G, hG⟩ : ∃ G, lvlL x = G := ⟨_, rfl⟩
  rw [hNx] at c4 hN
  rw [hG] at hll ⊢
  have HX := Lib.hid hx
  have HD := Lib.hid hd2
  have HNx := Lib.hid hNx
  have HG := Lib.hid hG
  have HW := Lib.hid hw
  clear hcs hA hd hd2 hc hx hNx hG hw
  go_enter Tryz.func52, Tryz.ntmps52
  go_wp2
  go_loopw [6, 7, 8] (fun m' a' k' wr => ∃ (q : L) (j k m : Nat), m' = .int .i64 (m : Int) ∧ a' = .int .i64 (j : Int) ∧ k' = .int .i64 (k : Int) ∧ k ≤ N ∧ j ≤ n ∧ m ≤ 1000000 ∧ Hid (k + lenL q = N) ∧ Hid (allL (LevI l) q) ∧ Hid (wfLX q) ∧ Hid (l.drop j = flatL q ++ r) ∧ Hid (max m (lvlL q) = G) ∧ Hid (Bel (w.alloc (.cells #[.int .i64 5, .int .i64 0, .string ⟨#[]⟩, .int .i64 (N : Int)] 43)) wr)) (fun _ _ k' _ => N - (intOf k').toNat)
  case atStart => exact ⟨x, i + 1, 0, 0, rfl, by go_num, rfl, Nat.zero_le _, by omega, by omega, Lib.hid (by rw [HNx.out]; omega), HX, HW, HD, Lib.hid (by rw [HG.out]; omega), Lib.hid (Bel.refl _)⟩
  case round =>
    obtain ⟨q, j, k, m, rfl, rfl, rfl, hk, hj, hm, hkq, hq, hwq, hdq, hmq, hb⟩ := hrel
    rename World => W0
    have d1 := hb.out.cell' (World.cell?_alloc_new w #[.int .i64 5, .int .i64 0, .string ⟨#[]⟩, .int .i64 (N : Int)] 43 0)
    have d4 := hb.out.cell' (World.cell?_alloc_new w #[.int .i64 5, .int .i64 0, .string ⟨#[]⟩, .int .i64 (N : Int)] 43 3)
    have hW := Below.trans (Bel.alloc (Bel.refl w) (.cells #[.int .i64 5, .int .i64 0, .string ⟨#[]⟩, .int .i64 (N : Int)] 43)) (Below.mono hb.out (alloc_lt w _ |> Nat.le_of_lt))
    cases q with
    | nil =>
      have hkn := hkq.out
      rw [lenL, Nat.add_zero] at hkn
      subst hkn
      have hmm := hmq.out
      rw [lvlL, Nat.max_zero] at hmm
      subst hmm
      clear hkq hq hwq hdq hmq HNx HG HD HX HW
      go_wp2
      go_ret
      exact ⟨by congr 2, hW⟩
    | cons v q =>
      have hd2 := hdq.out
      rw [flatL, List.append_assoc] at hd2
      have hw2 := hwq.out
      unfold wfLX at hw2
      rw [wfL, Bool.and_eq_true] at hw2
      obtain ⟨e1, e2, e3⟩ := nx_flat hd2 hw2.1
      have HL := Lib.hid (hq.out.1 (some ⟨b, off, none⟩) n c j _ hd2 hw2.1 hn W0 (HA.out.on hW))
      have HNx2 := next_all l l.length (some ⟨b, off, none⟩) n c j (by omega) (by omega) hn
      rw [e1] at HNx2
      have HN := Lib.hid HNx2
      have hq2 := Lib.hid hq.out.2
      have hwq2 : Hid (wfLX q) := Lib.hid hw2.2
      have hdq2 := Lib.hid e2
      have hkq2 : Hid (k + 1 + lenL q = N) := Lib.hid (by have := hkq.out; rw [lenL] at this; omega)
      have hkN : k < N := by have := hkq2.out; omega
      have hmm := hmq.out
      rw [lvlL] at hmm
      have hlv : lvl v ≤ 1000000 := by have := lvl_le v; omega
      obtain ⟨J, hJ⟩ : ∃ J, j + (flat v).length = J := ⟨_, rfl⟩
      rw [hJ] at HN hdq2 e3
      obtain ⟨lv, hlve⟩ : ∃ lv, lvl v = lv := ⟨_, rfl⟩
      rw [hlve] at HL hmm hlv
      by_cases hgt : m < lv
      · have hmq2 : Hid (max lv (lvlL q) = G) := Lib.hid (by omega)
        clear hkq hq hwq hdq hmq HNx HG HD HX HW hd2 hw2 e1 e2 HNx2 hmm hJ hlve
        go_wp2_with fail
        refine HL.out.mono ?_
        rintro e w1 ⟨rfl, g1⟩
        go_wp2_with fail
        refine (HN.out w1 (HA.out.on (Bel.trans hW g1))).mono ?_
        rintro e w2 ⟨rfl, g2⟩
        go_wp2_with fail
        go_round
        case rel => exact ⟨q, J, k + 1, lv, rfl, rfl, by go_num, by omega, by omega, hlv, hkq2, hq2, hwq2, hdq2, hmq2, Lib.hid (Bel.trans hb.out (Bel.trans g1 g2))⟩
        case measure => simp [intOf]; omega
      · have hmq2 : Hid (max m (lvlL q) = G) := Lib.hid (by omega)
        clear hkq hq hwq hdq hmq HNx HG HD HX HW hd2 hw2 e1 e2 HNx2 hmm hJ hlve
        go_wp2_with fail
        refine HL.out.mono ?_
        rintro e w1 ⟨rfl, g1⟩
        go_wp2_with fail
        refine (HN.out w1 (HA.out.on (Bel.trans hW g1))).mono ?_
        rintro e w2 ⟨rfl, g2⟩
        go_wp2_with fail
        go_round
        case rel => exact ⟨q, J, k + 1, m, rfl, rfl, by go_num, by omega, by omega, hm, hkq2, hq2, hwq2, hdq2, hmq2, Lib.hid (Bel.trans hb.out (Bel.trans g1 g2))⟩
        case measure => simp [intOf]; omega
set_option maxHeartbeats 4000000 in
theorem lev_map (l : List Cel) (x : M) (hx : allM (LevI l) x) : LevI l (.map x) := by
  intro o n c i r hd hw hn w hA
  have hl := hA.1
  have HA := Lib.hid hA
  rw [flat, List.cons_append] at hd
  obtain ⟨hi, hc, hd2⟩ := cell_of hd
  obtain ⟨b, off, rfl, hcs⟩ := hA.2.2 (by omega)
  obtain ⟨c1, c2, c3, c4⟩ := hcs i hi
  rw [hc] at c1 c2 c3 c4
  simp only at c1 c2 c3 c4
  rw [wf] at hw
  have hN : lenM x ≤ n := by
    have h1 := lenM_le x
    have h2 := congrArg List.length hd2
    rw [List.length_drop, List.length_append] at h2
    omega
  have hll : lvlM x ≤ 1000000 := by
    have h1 := lvl_le (.map x)
    rw [lvl, flat, List.length_cons] at h1
    have h2 := congrArg List.length hd2
    rw [List.length_drop, List.length_append] at h2
    omega
  rw [lvl]
  obtain ⟨N, hNx⟩ : ∃ N, lenM x = N := ⟨_, rfl⟩
  obtain ⟨G, hG⟩ : ∃ G, lvlM x = G := ⟨_, rfl⟩
  rw [hNx] at c4 hN
  rw [hG] at hll ⊢
  have HX := Lib.hid hx
  have HD := Lib.hid hd2
  have HNx := Lib.hid hNx
  have HG := Lib.hid hG
  have HW := Lib.hid hw
  clear hcs hA hd hd2 hc hx hNx hG hw
  go_enter Tryz.func52, Tryz.ntmps52
  go_wp2
  go_loopw [6, 7, 8] (fun m' a' k' wr => ∃ (q : M) (j k m : Nat), m' = .int .i64 (m : Int) ∧ a' = .int .i64 (j : Int) ∧ k' = .int .i64 (k : Int) ∧ k ≤ N ∧ j ≤ n ∧ m ≤ 1000000 ∧ Hid (k + lenM q = N) ∧ Hid (allM (LevI l) q) ∧ Hid (wfMX q) ∧ Hid (l.drop j = flatM q ++ r) ∧ Hid (max m (lvlM q) = G) ∧ Hid (Bel (w.alloc (.cells #[.int .i64 6, .int .i64 0, .string ⟨#[]⟩, .int .i64 (N : Int)] 43)) wr)) (fun _ _ k' _ => N - (intOf k').toNat)
  case atStart => exact ⟨x, i + 1, 0, 0, rfl, by go_num, rfl, Nat.zero_le _, by omega, by omega, Lib.hid (by rw [HNx.out]; omega), HX, Lib.hid ⟨_, HW.out⟩, HD, Lib.hid (by rw [HG.out]; omega), Lib.hid (Bel.refl _)⟩
  case round =>
    obtain ⟨q, j, k, m, rfl, rfl, rfl, hk, hj, hm, hkq, hq, hwq, hdq, hmq, hb⟩ := hrel
    rename World => W0
    have d1 := hb.out.cell' (World.cell?_alloc_new w #[.int .i64 6, .int .i64 0, .string ⟨#[]⟩, .int .i64 (N : Int)] 43 0)
    have d4 := hb.out.cell' (World.cell?_alloc_new w #[.int .i64 6, .int .i64 0, .string ⟨#[]⟩, .int .i64 (N : Int)] 43 3)
    have hW := Below.trans (Bel.alloc (Bel.refl w) (.cells #[.int .i64 6, .int .i64 0, .string ⟨#[]⟩, .int .i64 (N : Int)] 43)) (Below.mono hb.out (alloc_lt w _ |> Nat.le_of_lt))
    cases q with
    | nil =>
      have hkn := hkq.out
      rw [lenM, Nat.add_zero] at hkn
      subst hkn
      have hmm := hmq.out
      rw [lvlM, Nat.max_zero] at hmm
      subst hmm
      clear hkq hq hwq hdq hmq HNx HG HD HX HW
      go_wp2
      go_ret
      exact ⟨by congr 2, hW⟩
    | cons ky v q =>
      have hd1 := hdq.out
      rw [flatM, List.cons_append, List.append_assoc] at hd1
      obtain ⟨hj1, -, hd2⟩ := cell_of hd1
      obtain ⟨q0, hw1⟩ := hwq.out
      rw [wfM] at hw1
      simp only [Bool.and_eq_true] at hw1
      have hw2 : wf v = true ∧ wfM (some ky) q = true := ⟨hw1.1.2, hw1.2⟩
      clear hd1 hw1
      obtain ⟨e1, e2, e3⟩ := nx_flat hd2 hw2.1
      have HL := Lib.hid (hq.out.1 (some ⟨b, off, none⟩) n c (j + 1) _ hd2 hw2.1 hn W0 (HA.out.on hW))
      have HNx2 := next_all l l.length (some ⟨b, off, none⟩) n c (j + 1) (by omega) (by omega) hn
      rw [e1] at HNx2
      have HN := Lib.hid HNx2
      have hq2 := Lib.hid hq.out.2
      have hwq2 : Hid (wfMX q) := Lib.hid ⟨_, hw2.2⟩
      have hdq2 := Lib.hid e2
      have hkq2 : Hid (k + 1 + lenM q = N) := Lib.hid (by have := hkq.out; rw [lenM] at this; omega)
      have hkN : k < N := by have := hkq2.out; omega
      have hmm := hmq.out
      rw [lvlM] at hmm
      have hlv : lvl v ≤ 1000000 := by have := lvl_le v; omega
      obtain ⟨J, hJ⟩ : ∃ J, j + 1 + (flat v).length = J := ⟨_, rfl⟩
      rw [hJ] at HN hdq2 e3
      rw [show ((j + 1 : Nat) : Int) = (j : Int) + 1 by omega] at HL HN
      obtain ⟨lv, hlve⟩ : ∃ lv, lvl v = lv := ⟨_, rfl⟩
      rw [hlve] at HL hmm hlv
      by_cases hgt : m < lv
      · have hmq2 : Hid (max lv (lvlM q) = G) := Lib.hid (by omega)
        clear hkq hq hwq hdq hmq HNx HG HD HX HW hd2 hw2 e1 e2 HNx2 hmm hJ hlve
        go_wp2_with fail
        refine HL.out.mono ?_
        rintro e w1 ⟨rfl, g1⟩
        go_wp2_with fail
        refine (HN.out w1 (HA.out.on (Bel.trans hW g1))).mono ?_
        rintro e w2 ⟨rfl, g2⟩
        go_wp2_with fail
        go_round
        case rel => exact ⟨q, J, k + 1, lv, rfl, rfl, by go_num, by omega, by omega, hlv, hkq2, hq2, hwq2, hdq2, hmq2, Lib.hid (Bel.trans hb.out (Bel.trans g1 g2))⟩
        case measure => simp [intOf]; omega
      · have hmq2 : Hid (max m (lvlM q) = G) := Lib.hid (by omega)
        clear hkq hq hwq hdq hmq HNx HG HD HX HW hd2 hw2 e1 e2 HNx2 hmm hJ hlve
        go_wp2_with fail
        refine HL.out.mono ?_
        rintro e w1 ⟨rfl, g1⟩
        go_wp2_with fail
        refine (HN.out w1 (HA.out.on (Bel.trans hW g1))).mono ?_
        rintro e w2 ⟨rfl, g2⟩
        go_wp2_with fail
        go_round
        case rel => exact ⟨q, J, k + 1, m, rfl, rfl, by go_num, by omega, by omega, hm, hkq2, hq2, hwq2, hdq2, hmq2, Lib.hid (Bel.trans hb.out (Bel.trans g1 g2))⟩
        case measure => simp [intOf]; omega
theorem lev_all (l : List Cel) : ∀ t, LevI l t :=
  V_ind (lev_one l _ _ rfl (by simp) (by simp) rfl) (fun b => lev_one l _ _ rfl (by simp) (by simp) rfl) (fun n => lev_one l _ _ rfl (by simp) (by simp) rfl) (fun s => lev_one l _ _ rfl (by simp) (by simp) rfl) (lev_list l) (lev_map l)
end Val
end Go.Proofs.YtegfcmnbljdcpaaGreatDoor

/-
  Layer 6, the reference: quoted.
-/
namespace Go.Proofs.YtegfcmnbljdcpaaGreatDoor
open Go.RowKit
namespace Val

theorem esc_snoc (l : Txt) (c : UInt8) : esc (l ++ [c]) = esc l ++ (if c = 34 ∨ c = 92 then [92, c] else [c]) := by
  induction l with
  | nil =>
    simp only [List.nil_append, esc]
  | cons x l ih =>
    rw [List.cons_append, esc, esc, ih]
    split <;> simp
theorem esc_len (l : Txt) : (esc l).length ≤ 2 * l.length := by
  induction l with
  | nil => exact Nat.le_refl _
  | cons x l ih =>
    rw [esc]
    split
    · simp only [List.length_cons]; omega
    · simp only [List.length_cons]; omega
/-- One byte of a string. -/
theorem cut1 (s : ByteArray) (i : Nat) (zi zj : Int) (hi : zi = (i : Int)) (hj : zj = (i : Int) + 1) (h : i < s.size) (w : World) :
    (Instr.slice 9 (.string s) (some (.int .i64 zi)) (some (.int .i64 zj)) none).run Tryz.prog w = .ok (.string ⟨#[s[i]]⟩) w := by
  subst hi hj
  rw [run_slice_string_if w 9 s .i64 .i64 (i : Int) ((i : Int) + 1) Tryz.underlying9, if_pos ⟨by omega, by omega⟩, if_pos ⟨by omega, by omega⟩, Lib.extract_eq]
  have e1 : ((i : Int) + 1).toNat = i + 1 := by omega
  have e2 : s.data.toList.drop i = s[i] :: s.data.toList.drop (i + 1) := by
    have hl : i < s.toList.length := by rw [toL_len]; exact h
    have := List.drop_eq_getElem_cons hl
    rw [toL_get s i h, toL] at this
    exact this
  rw [e1, Int.toNat_natCast, e2, show i + 1 - i = 1 by omega]
  rfl
theorem b34 (c : UInt8) : ((c.toNat : Int) == 34) = decide (c = 34) := by
  rw [Bool.eq_iff_iff, beq_iff_eq, decide_eq_true_eq]
  constructor
  · intro h; apply UInt8.toNat_inj.1; have : (34 : UInt8).toNat = 34 := rfl; omega
  · rintro rfl; rfl
theorem b92 (c : UInt8) : ((c.toNat : Int) == 92) = decide (c = 92) := by
  rw [Bool.eq_iff_iff, beq_iff_eq, decide_eq_true_eq]
  constructor
  · intro h; apply UInt8.toNat_inj.1; have : (92 : UInt8).toNat = 92 := rfl; omega
  · rintro rfl; rfl
theorem size_lit (c : UInt8) : (⟨#[c]⟩ : ByteArray).size = 1 := rfl
theorem app_list (X : ByteArray) (c : UInt8) : (X ++ (⟨#[c]⟩ : ByteArray)).toList = X.toList ++ [c] := by
  rw [toL, toL]
  simp [ByteArray.data_append]
set_option maxHeartbeats 1000000 in
theorem quoted_any (s : ByteArray) (hs : s.size ≤ 1099511627776) (w : World) :
    Calls Tryz.prog 81 #[.string s] w fun e w' => e = .returned (.string ⟨(quo s.toList).toArray⟩) ∧ w = w' := by
  go_enter Tryz.func81, Tryz.ntmps81
  go_wp2
  go_loop [3, 4] (fun o i => ∃ (k : Nat) (O : ByteArray), o = .string O ∧ i = .int .i64 (k : Int) ∧ k ≤ s.size ∧ O.size ≤ 1 + 2 * k ∧ Hid (O.toList = 34 :: esc (s.toList.take k))) (fun _ i => s.size - (intOf i).toNat)
  case atStart => exact ⟨0, ⟨#[34]⟩, rfl, rfl, Nat.zero_le _, Nat.le_refl _, Lib.hid (by rw [toL]; rfl)⟩
  case round =>
    obtain ⟨k, O, rfl, rfl, hk, hO, hr⟩ := hrel
    by_cases hlt : k < s.size
    · have sl := fun w => cut1 s k (k : Int) ((k : Int) + 1) rfl rfl hlt w
      have tk : s.toList.take (k + 1) = s.toList.take k ++ [s[k]] := by
        rw [List.take_succ_eq_append_getElem (by rw [toL_len]; exact hlt), toL_get s k hlt]
      have h34 := b34 s[k]
      have h92 := b92 s[k]
      have e1 := size_lit s[k]
      have e2 := size_lit 92
      by_cases hq : s[k] = 34 ∨ s[k] = 92
      · have hn : Hid (((O ++ (⟨#[92]⟩ : ByteArray)) ++ (⟨#[s[k]]⟩ : ByteArray)).toList = 34 :: esc (s.toList.take (k + 1))) := Lib.hid (by
          rw [app_list, app_list, hr.out, tk, esc_snoc, if_pos hq]
          simp)
        rcases hq with hq | hq
        · rw [decide_eq_true hq] at h34
          clear h92 hr tk hq
          go_wp2
          go_round
          case rel => exact ⟨k + 1, _, rfl, by go_num, by omega, by simp only [ByteArray.size_append, e1, e2]; omega, hn⟩
          case measure => simp [intOf]; omega
        · rw [decide_eq_true hq] at h92
          rw [decide_eq_false (by rw [hq]; decide)] at h34
          clear hr tk hq
          go_wp2
          go_round
          case rel => exact ⟨k + 1, _, rfl, by go_num, by omega, by simp only [ByteArray.size_append, e1, e2]; omega, hn⟩
          case measure => simp [intOf]; omega
      · have hn : Hid ((O ++ (⟨#[s[k]]⟩ : ByteArray)).toList = 34 :: esc (s.toList.take (k + 1))) := Lib.hid (by
          rw [app_list, hr.out, tk, esc_snoc, if_neg hq]
          simp)
        rw [decide_eq_false (fun h => hq (Or.inl h))] at h34
        rw [decide_eq_false (fun h => hq (Or.inr h))] at h92
        clear hr tk hq
        go_wp2
        go_round
        case rel => exact ⟨k + 1, _, rfl, by go_num, by omega, by simp only [ByteArray.size_append, e1]; omega, hn⟩
        case measure => simp [intOf]; omega
    · obtain rfl : k = s.size := by omega
      have e := hr.out
      rw [List.take_of_length_le (by rw [toL_len]; omega)] at e
      have hz : Hid (O ++ (⟨#[34]⟩ : ByteArray) = ⟨(quo s.toList).toArray⟩) := Lib.hid (by
        rw [← str_back (O ++ (⟨#[34]⟩ : ByteArray)), app_list, e]
        rfl)
      clear hr e
      go_wp2
      go_ret
      exact ⟨by rw [← hz.out]; rfl, rfl⟩
end Val
end Go.Proofs.YtegfcmnbljdcpaaGreatDoor
