/-
  Layer 5, the code: a text cut at a byte; isVersionText, Ref, ParseRef.
-/
import Derived.Test.YtgchjfdldbadlaaIdnG
import Derived.Test.YtgchjfdldbadlaaShelf
namespace Go.Proofs.Ytgchjfdldbadlaa
open Go.RowKit
namespace Idn

theorem first_index (c : UInt8) : ∀ l, Lib.indexByte l c = if firstAt c l < l.length then (firstAt c l : Int) else -1
  | [] => rfl
  | x :: r => by
    have ih := first_index c r
    unfold Lib.indexByte firstAt
    by_cases h : x = c
    · simp [h]
    · have hb : (x == c) = false := by simpa using h
      rw [hb, if_neg h, ih]
      by_cases h2 : firstAt c r < r.length
      · have e : ((firstAt c r : Int) == -1) = false := by simp
        simp only [h2, if_true, List.length_cons, Nat.add_lt_add_iff_right, e, Bool.false_eq_true, if_false]
        omega
      · simp [h2]
/-- Cut at the first such byte. -/
def cutL (c : UInt8) (l : List UInt8) : List UInt8 := if firstAt c l < l.length then l.take (firstAt c l) else l
def cutR (c : UInt8) (l : List UInt8) : List UInt8 := if firstAt c l < l.length then l.drop (firstAt c l + 1) else []
theorem size1 (c : UInt8) : (⟨#[c]⟩ : ByteArray).size = 1 := rfl
theorem scut (s A B : ByteArray) (c : UInt8) (o : Nat) (w : World) (hs : s.size ≤ maxLen) (ho : o < s.size) (hi : Hid (Lib.indexByte s.data.toList c = (o : Int))) (hA : Hid (⟨(s.toList.take o).toArray⟩ = A)) (hB : Hid (⟨(s.toList.drop (o + 1)).toArray⟩ = B)) :
    Calls Try.prog 59 #[.string s, .string ⟨#[c]⟩] w fun e w' => (∃ b, e = .returned (.tuple #[.string A, .string B, .bool b])) ∧ Bel w w' := by
  unfold maxLen at hs
  have sl := fun w => cutH s o (o : Int) rfl (by omega) w
  have sr := fun w => cutE s (o + 1) ((o : Int) + 1) (by omega) (by omega) w
  rw [hA.out] at sl
  rw [hB.out] at sr
  have h1 := size1 c
  go_enter Try.func59, Try.ntmps59
  go_wp2_with fail
  refine (Try.stringslite_Index_one s c _).mono ?_
  rintro e w1 ⟨rfl, rfl⟩
  rw [hi.out]
  go_wp2_with fail
  have a1 : IntKind.i64.wrap ((o : Int) + 1) = (o : Int) + 1 := by rw [IntKind.wrap_i64]; omega
  go_quiet (fail)
  go_wp2_with fail
  go_ret3
  exact ⟨⟨_, rfl⟩, (Bel.refl w1).drewN _⟩
theorem scut_no (s : ByteArray) (c : UInt8) (w : World) (hi : Hid (Lib.indexByte s.data.toList c = -1)) :
    Calls Try.prog 59 #[.string s, .string ⟨#[c]⟩] w fun e w' => (∃ b, e = .returned (.tuple #[.string s, .string ⟨#[]⟩, .bool b])) ∧ Bel w w' := by
  go_enter Try.func59, Try.ntmps59
  go_wp2_with fail
  refine (Try.stringslite_Index_one s c _).mono ?_
  rintro e w1 ⟨rfl, rfl⟩
  rw [hi.out]
  go_wp2_with fail
  go_ret3
  exact ⟨⟨_, rfl⟩, Bel.refl _⟩
theorem cut_up (s A B : ByteArray) (c : UInt8) (w : World) (h : Hid (∀ W, Calls Try.prog 59 #[.string s, .string ⟨#[c]⟩] W fun e w' => (∃ b, e = .returned (.tuple #[.string A, .string B, .bool b])) ∧ Bel W w')) :
    Calls Try.prog 43 #[.string s, .string ⟨#[c]⟩] w fun e w' => (∃ b, e = .returned (.tuple #[.string A, .string B, .bool b])) ∧ Bel w w' := by
  go_enter Try.func43, Try.ntmps43
  go_wp2_with fail
  refine (h.out _).mono ?_
  rintro e w1 ⟨⟨b, rfl⟩, g1⟩
  go_wp2_with fail
  go_ret3
  exact ⟨⟨_, rfl⟩, g1⟩
theorem cut_any (s A B : ByteArray) (c : UInt8) (hs : s.size ≤ maxLen) (hA : A.toList = cutL c s.toList) (hB : B.toList = cutR c s.toList) (w : World) :
    Calls Try.prog 43 #[.string s, .string ⟨#[c]⟩] w fun e w' => (∃ b, e = .returned (.tuple #[.string A, .string B, .bool b])) ∧ Bel w w' := by
  have hi := first_index c s.data.toList
  have eA : (⟨A.toList.toArray⟩ : ByteArray) = A := by rw [toL]
  have eB : (⟨B.toList.toArray⟩ : ByteArray) = B := by rw [toL]
  have eS : (⟨s.toList.toArray⟩ : ByteArray) = s := by rw [toL]
  rw [← toL, toL_len] at hi
  unfold cutL at hA
  unfold cutR at hB
  rw [toL_len] at hA hB
  refine cut_up s A B c w (Lib.hid fun W => ?_)
  by_cases h : firstAt c s.toList < s.size
  · rw [if_pos h] at hi hA hB
    exact scut s A B c _ W hs h (Lib.hid (by rw [← toL]; exact hi)) (Lib.hid (by rw [← hA, eA])) (Lib.hid (by rw [← hB, eB]))
  · rw [if_neg h] at hi hA hB
    obtain rfl : A = s := by rw [← eA, hA, eS]
    obtain rfl : B = ⟨#[]⟩ := by rw [← eB, hB]
    exact scut_no A c W (Lib.hid (by rw [← toL]; exact hi))
theorem isVersion_any (s : ByteArray) (hs : s.size ≤ maxLen) (w : World) :
    Calls Try.prog 41 #[.string s] w fun e w' => e = .returned (.bool (verB s.toList)) ∧ w = w' := by
  have HP := Lib.hid (Num.parse_any s hs)
  have hz := Lib.hid (show verB s.toList = (Num.parE s.toList == 0 && decide (1 ≤ Num.parV s.toList) && decide (Num.parV s.toList ≤ 32)) from rfl)
  generalize Num.parV s.toList = V at HP hz
  generalize Num.parE s.toList = E at HP hz
  unfold Num.pair at HP
  by_cases hE : E = 0
  · subst hE
    by_cases hV : 1 ≤ V
    all_goals
      go_enter Try.func41, Try.ntmps41
      go_wp2_with (go_at_call 49; ((with_reducible refine (HP.out _).mono ?_); rintro e w' ⟨rfl, rfl⟩))
      go_ret
      exact ⟨by rw [hz.out]; simp <;> omega, rfl⟩
  · have hE' : (E == 0) = false := by simpa using hE
    have hz2 := Lib.hid (hz.out.trans (by rw [hE']; rfl) : verB s.toList = false)
    clear hE
    go_enter Try.func41, Try.ntmps41
    go_wp2_with (go_at_call 49; ((with_reducible refine (HP.out _).mono ?_); rintro e w' ⟨rfl, rfl⟩))
    go_ret
    exact ⟨by rw [hz2.out]; rfl, rfl⟩
set_option maxHeartbeats 400000 in
theorem ref_any (t f q : ByteArray) (ht : t.size ≤ 140737488355328) (hf : f.size ≤ 140737488355328) (hq : q.size ≤ 140737488355328) (w : World) :
    Calls Try.prog 17 #[.string t, .string f, .string q] w fun e w' => e = .returned (.tuple #[.string ⟨(refT t.toList f.toList q.toList).toArray⟩, .int .i64 (refE t.toList f.toList q.toList)]) ∧ Bel w w' := by
  have HT := Lib.hid (name_any t)
  have HF := Lib.hid (name_any f)
  have HQ := Lib.hid (name_any q)
  have HV := Lib.hid (isVersion_any q (by unfold maxLen; omega))
  have hz := Lib.hid (show refB verB t.toList f.toList q.toList = (nameB t.toList && nameB f.toList && (nameB q.toList || verB q.toList)) from rfl)
  have hT := Lib.hid (show refT t.toList f.toList q.toList = if refB verB t.toList f.toList q.toList then refL t.toList f.toList q.toList else [] from rfl)
  have hE := Lib.hid (show refE t.toList f.toList q.toList = if refB verB t.toList f.toList q.toList then 0 else 4 from rfl)
  have hC := Lib.hid (ref_cat t f q)
  generalize refT t.toList f.toList q.toList = RT at hT ⊢
  generalize refE t.toList f.toList q.toList = RE at hE ⊢
  generalize refL t.toList f.toList q.toList = RL at hT hC
  generalize refB verB t.toList f.toList q.toList = RB at hT hE hz
  generalize nameB t.toList = bt at HT hz
  generalize nameB f.toList = bf at HF hz
  generalize nameB q.toList = bq at HQ hz
  generalize verB q.toList = bv at HV hz
  have G := Bel.refl w
  cases bt <;> cases bf <;> cases bq <;> cases bv
  all_goals
    have hz2 := hz.out
    simp at hz2
    subst hz2
    have gT := hT.out
    have gE := hE.out
    simp only [if_true, if_false, Bool.false_eq_true] at gT gE
    have hT2 := Lib.hid gT
    have hE2 := Lib.hid gE
    clear hz hT hE gT gE
    go_enter Try.func17, Try.ntmps17
    go_wp2_with (first | (go_at_call 10; first | ((with_reducible refine (HT.out _).mono ?_); rintro e w' ⟨rfl, g⟩; replace G := Bel.trans G g; clear g) | ((with_reducible refine (HF.out _).mono ?_); rintro e w' ⟨rfl, g⟩; replace G := Bel.trans G g; clear g) | ((with_reducible refine (HQ.out _).mono ?_); rintro e w' ⟨rfl, g⟩; replace G := Bel.trans G g; clear g)) | (go_at_call 41; ((with_reducible refine (HV.out _).mono ?_); rintro e w' ⟨rfl, rfl⟩)))
    go_ret2
    exact ⟨by rw [hT2.out, hE2.out]; first | (rw [← hC.out]; rfl) | rfl, G⟩
theorem cut_app {c : UInt8} {a : List UInt8} (r : List UInt8) (h : c ∉ a) : cutL c (a ++ c :: r) = a ∧ cutR c (a ++ c :: r) = r := by
  unfold cutL cutR
  rw [firstAt_app r h, if_pos (by simp), if_pos (by simp)]
  constructor
  · simp
  · rw [show a ++ c :: r = (a ++ [c]) ++ r by simp, List.drop_left' (by simp)]
theorem cut_split {c : UInt8} {l : List UInt8} (h : firstAt c l < l.length) : l = cutL c l ++ c :: cutR c l := by
  unfold cutL cutR
  rw [if_pos h, if_pos h]
  exact firstAt_get h
theorem cut_miss {c : UInt8} {l : List UInt8} (h : ¬ firstAt c l < l.length) : cutR c l = [] := by
  unfold cutR
  rw [if_neg h]
/-- What the two cuts give is a reference exactly if the text is one, and then these are its parts. -/
theorem prs_code (l : List UInt8) : prs verB l = if refB verB (cutL 47 l) (cutL 58 (cutR 47 l)) (cutR 58 (cutR 47 l)) then some (cutL 47 l, cutL 58 (cutR 47 l), cutR 58 (cutR 47 l)) else none := by
  split
  · rename_i h
    have h' := h
    simp only [refB, Bool.and_eq_true, Bool.or_eq_true] at h'
    have g1 : firstAt 47 l < l.length := by
      rcases Nat.lt_or_ge (firstAt 47 l) l.length with k | k
      · exact k
      · rw [cut_miss (Nat.not_lt.2 k)] at h'
        exact absurd h'.1.2 (by decide)
    have g2 : firstAt 58 (cutR 47 l) < (cutR 47 l).length := by
      rcases Nat.lt_or_ge (firstAt 58 (cutR 47 l)) (cutR 47 l).length with k | k
      · exact k
      · rw [cut_miss (Nat.not_lt.2 k)] at h'
        rcases h'.2 with e | e
        · exact absurd e (by decide)
        · rw [ver_nil] at e; cases e
    have e : l = refL (cutL 47 l) (cutL 58 (cutR 47 l)) (cutR 58 (cutR 47 l)) := by
      unfold refL
      rw [← cut_split g2]
      exact cut_split g1
    have k := prs_ref h
    rw [← e] at k
    exact k
  · rename_i h
    cases hp : prs verB l with
    | none => rfl
    | some x =>
      obtain ⟨t, f, q⟩ := x
      obtain ⟨r1, r2⟩ := ref_prs hp
      exfalso
      apply h
      have r1' := r1
      simp only [refB, Bool.and_eq_true] at r1'
      have c1 := cut_app (c := 47) (a := t) (f ++ 58 :: q) (name_not r1'.1.1 (Or.inl rfl))
      have c2 := cut_app (c := 58) (a := f) q (name_not r1'.1.2 (Or.inr rfl))
      have e : l = t ++ 47 :: (f ++ 58 :: q) := r2.symm
      rw [e, c1.1, c1.2, c2.1, c2.2]
      exact r1
set_option maxHeartbeats 400000 in
theorem parseRef_any (s : ByteArray) (hs : s.size ≤ 140737488355328) (w : World) :
    Calls Try.prog 19 #[.string s] w fun e w' => e = quad (prT s.toList) (prF s.toList) (prQ s.toList) (prE s.toList) ∧ Bel w w' := by
  unfold quad
  have hp := prs_code s.toList
  obtain ⟨T, hT⟩ : ∃ T : ByteArray, T.toList = cutL 47 s.toList := ⟨⟨(cutL 47 s.toList).toArray⟩, tl _⟩
  obtain ⟨R, hR⟩ : ∃ R : ByteArray, R.toList = cutR 47 s.toList := ⟨⟨(cutR 47 s.toList).toArray⟩, tl _⟩
  obtain ⟨F, hF⟩ : ∃ F : ByteArray, F.toList = cutL 58 R.toList := ⟨⟨(cutL 58 R.toList).toArray⟩, tl _⟩
  obtain ⟨Q, hQ⟩ : ∃ Q : ByteArray, Q.toList = cutR 58 R.toList := ⟨⟨(cutR 58 R.toList).toArray⟩, tl _⟩
  rw [← hT, ← hR, ← hF, ← hQ] at hp
  have zL : ∀ (c : UInt8) (l : List UInt8), (cutL c l).length ≤ l.length := fun c l => by
    unfold cutL; split
    · rw [List.length_take]; omega
    · omega
  have zR : ∀ (c : UInt8) (l : List UInt8), (cutR c l).length ≤ l.length := fun c l => by
    unfold cutR; split
    · rw [List.length_drop]; omega
    · exact Nat.zero_le _
  have zT : T.size ≤ s.size := by have := zL 47 s.toList; rw [← hT, toL_len, toL_len] at this; exact this
  have zS : R.size ≤ s.size := by have := zR 47 s.toList; rw [← hR, toL_len, toL_len] at this; exact this
  have zF : F.size ≤ R.size := by have := zL 58 R.toList; rw [← hF, toL_len, toL_len] at this; exact this
  have zQ : Q.size ≤ R.size := by have := zR 58 R.toList; rw [← hQ, toL_len, toL_len] at this; exact this
  have C1 := Lib.hid (cut_any s T R 47 (by unfold maxLen; omega) hT hR)
  have C2 := Lib.hid (cut_any R F Q 58 (by unfold maxLen; omega) hF hQ)
  have RR := ref_any T F Q (by omega) (by omega) (by omega)
  clear zL zR hT hR hF hQ
  cases hB : refB verB T.toList F.toList Q.toList with
  | true =>
    rw [hB, if_pos rfl] at hp
    obtain ⟨g1, g2, g3, g4⟩ := pr_some hp
    have hz := Lib.hid (show refE T.toList F.toList Q.toList = 0 by unfold refE; rw [hB]; rfl)
    generalize refT T.toList F.toList Q.toList = RT at RR
    rw [hz.out] at RR
    have HR := Lib.hid RR
    have G := Lib.hid (And.intro g1 (And.intro g2 (And.intro g3 g4)))
    have eT : (⟨T.toList.toArray⟩ : ByteArray) = T := by rw [toL]
    have eF : (⟨F.toList.toArray⟩ : ByteArray) = F := by rw [toL]
    have eQ : (⟨Q.toList.toArray⟩ : ByteArray) = Q := by rw [toL]
    have EQS := Lib.hid (And.intro eT (And.intro eF eQ))
    clear hB hp g1 g2 g3 g4 hz RR eT eF eQ
    go_enter Try.func19, Try.ntmps19
    go_wp2_with fail
    refine (C1.out _).mono ?_
    rintro e w1 ⟨⟨b1, rfl⟩, k1⟩
    go_wp2_with fail
    refine (C2.out _).mono ?_
    rintro e w2 ⟨⟨b2, rfl⟩, k2⟩
    go_wp2_with fail
    refine (HR.out _).mono ?_
    rintro e w3 ⟨rfl, k3⟩
    go_wp2_with fail
    refine bodyPost_ret (results_tmp4 rfl _ _ _) rfl ?_
    exact ⟨by rw [G.out.1, G.out.2.1, G.out.2.2.1, G.out.2.2.2, EQS.out.1, EQS.out.2.1, EQS.out.2.2]; rfl, Bel.trans k1 (Bel.trans k2 k3)⟩
  | false =>
    rw [hB, if_neg (by decide)] at hp
    have hz := Lib.hid (pr_none hp)
    have hz2 := Lib.hid (show refE T.toList F.toList Q.toList = 4 by unfold refE; rw [hB]; rfl)
    generalize refT T.toList F.toList Q.toList = RT at RR
    rw [hz2.out] at RR
    have HR := Lib.hid RR
    clear hB hp hz2 RR
    go_enter Try.func19, Try.ntmps19
    go_wp2_with fail
    refine (C1.out _).mono ?_
    rintro e w1 ⟨⟨b1, rfl⟩, k1⟩
    go_wp2_with fail
    refine (C2.out _).mono ?_
    rintro e w2 ⟨⟨b2, rfl⟩, k2⟩
    go_wp2_with fail
    refine (HR.out _).mono ?_
    rintro e w3 ⟨rfl, k3⟩
    go_wp2_with fail
    refine bodyPost_ret (results_tmp4 rfl _ _ _) rfl ?_
    exact ⟨by rw [hz.out.1, hz.out.2.1, hz.out.2.2.1, hz.out.2.2.2]; rfl, Bel.trans k1 (Bel.trans k2 k3)⟩
end Idn
end Go.Proofs.Ytgchjfdldbadlaa
