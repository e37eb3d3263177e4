/-
  Layer 5, the reference: find, version, Ref, ParseRef.
-/
import Derived.Test.YtgchjfdldbadlaaIdnF
import Derived.Test.YtgchjfdldbadlaaIdnB
import Derived.Test.YtgchjfdldbadlaaNumK
namespace Go.Proofs.Ytgchjfdldbadlaa
open Go.RowKit
namespace Idn

theorem firstAt_hit {c : UInt8} {s : ByteArray} {k : Nat} (h : k < s.size) (e : s[k] = c) : firstAt c (s.toList.drop k) = 0 := by
  rw [List.drop_eq_getElem_cons (by rw [toL_len]; exact h), toL_get s k h, firstAt, if_pos e]
theorem firstAt_miss {c : UInt8} {s : ByteArray} {k : Nat} (h : k < s.size) (e : ¬ s[k] = c) : firstAt c (s.toList.drop k) = firstAt c (s.toList.drop (k + 1)) + 1 := by
  rw [List.drop_eq_getElem_cons (by rw [toL_len]; exact h), toL_get s k h, firstAt, if_neg e]
theorem byte_ne (c d : UInt8) (z : Int) (hz : z = (d.toNat : Int)) : ((c.toNat : Int) != z) = !decide (c = d) := by
  subst hz
  by_cases h : c = d
  · subst h; simp
  · have : ¬ (c.toNat : Int) = (d.toNat : Int) := fun e => h (UInt8.toNat_inj.1 (by omega))
    simp [h, this]
theorem rfind_any (s : ByteArray) (c : UInt8) (z : Int) (hz : Hid (z = (c.toNat : Int))) (hs : s.size ≤ maxLen) (w : World) :
    Calls Try.prog 44 #[.string s, .int .u8 z] w fun e w' => e = .returned (.int .i64 (firstAt c s.toList : Int)) ∧ w = w' := by
  unfold maxLen at hs
  go_enter Try.func44, Try.ntmps44
  go_wp2
  go_loop [5] (fun i => ∃ k : Nat, i = .int .i64 (k : Int) ∧ k ≤ s.size ∧ Hid (firstAt c s.toList = k + firstAt c (s.toList.drop k))) (fun i => s.size - (intOf i).toNat)
  case atStart => exact ⟨0, rfl, Nat.zero_le _, Lib.hid (by simp)⟩
  case round =>
    obtain ⟨k, rfl, hk, hr⟩ := hrel
    by_cases hp : k < s.size
    · have hb := byte_ne s[k] c z hz.out
      by_cases e : s[k] = c
      · have hn := Lib.hid (hr.out.trans (by rw [firstAt_hit hp e, Nat.add_zero]) : firstAt c s.toList = k)
        rw [decide_eq_true e, Bool.not_true] at hb
        clear e hr
        go_wp2
        go_ret
        exact ⟨by rw [hn.out]; rfl, rfl⟩
      · have hn := Lib.hid (hr.out.trans (by rw [firstAt_miss hp e]; omega) : firstAt c s.toList = (k + 1) + firstAt c (s.toList.drop (k + 1)))
        rw [decide_eq_false e, Bool.not_false] at hb
        clear e hr
        go_wp2
        go_round
        case rel => exact ⟨k + 1, by go_num, by omega, hn⟩
        case measure => simp [intOf]; omega
    · obtain rfl : k = s.size := by omega
      have hn := Lib.hid (hr.out.trans (by rw [List.drop_of_length_le (by rw [toL_len]; omega)]; rfl) : firstAt c s.toList = s.size)
      clear hr
      go_wp2
      go_ret
      exact ⟨by rw [hn.out]; rfl, rfl⟩
/-- A version text. -/
def verB (l : List UInt8) : Bool := Num.parE l == 0 && decide (1 ≤ Num.parV l) && decide (Num.parV l ≤ 32)
theorem ver_nil : verB [] = false := by decide
theorem rversion_any (s : ByteArray) (hs : s.size ≤ maxLen) (w : World) :
    Calls Try.prog 42 #[.string s] w fun e w' => e = .returned (.bool (verB s.toList)) ∧ w = w' := by
  have HP := Lib.hid (Num.rparse_any s hs)
  have hz := Lib.hid (show verB s.toList = (Num.parE s.toList == 0 && decide (1 ≤ Num.parV s.toList) && decide (Num.parV s.toList ≤ 32)) from rfl)
  generalize Num.parV s.toList = V at HP hz
  generalize Num.parE s.toList = E at HP hz
  unfold Num.pair at HP
  by_cases hE : E = 0
  · subst hE
    by_cases hV : 1 ≤ V
    all_goals
      go_enter Try.func42, Try.ntmps42
      go_wp2_with (go_at_call 50; ((with_reducible refine (HP.out _).mono ?_); rintro e w' ⟨rfl, rfl⟩))
      go_ret
      exact ⟨by rw [hz.out]; simp <;> omega, rfl⟩
  · have hE' : (E == 0) = false := by simpa using hE
    have hz2 := Lib.hid (hz.out.trans (by rw [hE']; rfl) : verB s.toList = false)
    clear hE
    go_enter Try.func42, Try.ntmps42
    go_wp2_with (go_at_call 50; ((with_reducible refine (HP.out _).mono ?_); rintro e w' ⟨rfl, rfl⟩))
    go_ret
    exact ⟨by rw [hz2.out]; rfl, rfl⟩
theorem results_tmp4 {fn : Func} {t u v x : Tmp} (h : fn.results = #[.tmp t, .tmp u, .tmp v, .tmp x]) (tmps : Array Value) (P : Program) (w : World) :
    (results fn tmps).run P w = .ok (.tuple #[tmps.getD t Go.undef, tmps.getD u Go.undef, tmps.getD v Go.undef, tmps.getD x Go.undef]) w := by
  simp [results, h]
/-- The text and the error of a reference's parts. -/
def refT (t f q : List UInt8) : List UInt8 := if refB verB t f q then refL t f q else []
def refE (t f q : List UInt8) : Int := if refB verB t f q then 0 else 4
theorem ref_cat (t f q : ByteArray) : (((t ++ (⟨#[47]⟩ : ByteArray)) ++ f) ++ (⟨#[58]⟩ : ByteArray)) ++ q = ⟨(refL t.toList f.toList q.toList).toArray⟩ := by
  apply ByteArray.ext
  apply Array.toList_inj.1
  simp [ByteArray.data_append, refL, toL]
set_option maxHeartbeats 400000 in
theorem rref_any (t f q : ByteArray) (ht : t.size ≤ 140737488355328) (hf : f.size ≤ 140737488355328) (hq : q.size ≤ 140737488355328) (w : World) :
    Calls Try.prog 18 #[.string t, .string f, .string q] w fun e w' => e = .returned (.tuple #[.string ⟨(refT t.toList f.toList q.toList).toArray⟩, .int .i64 (refE t.toList f.toList q.toList)]) ∧ w = w' := by
  have HT := Lib.hid (rname_any t (by unfold maxLen; omega))
  have HF := Lib.hid (rname_any f (by unfold maxLen; omega))
  have HQ := Lib.hid (rname_any q (by unfold maxLen; omega))
  have HV := Lib.hid (rversion_any q (by unfold maxLen; omega))
  have hz := Lib.hid (show refB verB t.toList f.toList q.toList = (nameB t.toList && nameB f.toList && (nameB q.toList || verB q.toList)) from rfl)
  have hT := Lib.hid (show refT t.toList f.toList q.toList = if refB verB t.toList f.toList q.toList then refL t.toList f.toList q.toList else [] from rfl)
  have hE := Lib.hid (show refE t.toList f.toList q.toList = if refB verB t.toList f.toList q.toList then 0 else 4 from rfl)
  have hC := Lib.hid (ref_cat t f q)
  generalize refT t.toList f.toList q.toList = RT at hT ⊢
  generalize refE t.toList f.toList q.toList = RE at hE ⊢
  generalize refL t.toList f.toList q.toList = RL at hT hC
  generalize refB verB t.toList f.toList q.toList = RB at hT hE hz
  generalize nameB t.toList = bt at HT hz
  generalize nameB f.toList = bf at HF hz
  generalize nameB q.toList = bq at HQ hz
  generalize verB q.toList = bv at HV hz
  cases bt <;> cases bf <;> cases bq <;> cases bv
  all_goals
    have hz2 := hz.out
    simp at hz2
    subst hz2
    have gT := hT.out
    have gE := hE.out
    simp only [if_true, if_false, Bool.false_eq_true] at gT gE
    have hT2 := Lib.hid gT
    have hE2 := Lib.hid gE
    clear hz hT hE gT gE
    go_enter Try.func18, Try.ntmps18
    go_wp2_with (first | (go_at_call 11; first | ((with_reducible refine (HT.out _).mono ?_); rintro e w' ⟨rfl, rfl⟩) | ((with_reducible refine (HF.out _).mono ?_); rintro e w' ⟨rfl, rfl⟩) | ((with_reducible refine (HQ.out _).mono ?_); rintro e w' ⟨rfl, rfl⟩)) | (go_at_call 42; ((with_reducible refine (HV.out _).mono ?_); rintro e w' ⟨rfl, rfl⟩)))
    go_ret2
    exact ⟨by rw [hT2.out, hE2.out]; first | (rw [← hC.out]; rfl) | rfl, rfl⟩
/-- The parts of a reference, and the error. -/
def prT (l : List UInt8) : List UInt8 := match prs verB l with | some (t, _, _) => t | none => []
def prF (l : List UInt8) : List UInt8 := match prs verB l with | some (_, f, _) => f | none => []
def prQ (l : List UInt8) : List UInt8 := match prs verB l with | some (_, _, q) => q | none => []
def prE (l : List UInt8) : Int := match prs verB l with | some _ => 0 | none => 1
theorem pr_none {l : List UInt8} (h : prs verB l = none) : prT l = [] ∧ prF l = [] ∧ prQ l = [] ∧ prE l = 1 := by
  unfold prT prF prQ prE
  rw [h]
  exact ⟨rfl, rfl, rfl, rfl⟩
theorem pr_some {l t f q : List UInt8} (h : prs verB l = some (t, f, q)) : prT l = t ∧ prF l = f ∧ prQ l = q ∧ prE l = 0 := by
  unfold prT prF prQ prE
  rw [h]
  exact ⟨rfl, rfl, rfl, rfl⟩
/-- Four results: three texts and an error. -/
def quad (t f q : List UInt8) (e : Int) : Ending := .returned (.tuple #[.string ⟨t.toArray⟩, .string ⟨f.toArray⟩, .string ⟨q.toArray⟩, .int .i64 e])
theorem prs_no {l : List UInt8} (h : ¬ (firstAt 47 l < l.length ∧ firstAt 58 l < l.length ∧ firstAt 47 l ≤ firstAt 58 l)) : prs verB l = none := by
  unfold prs
  rw [if_neg h]
theorem first_ne {l : List UInt8} (h1 : firstAt 47 l < l.length) (h2 : firstAt 58 l < l.length) : firstAt 47 l ≠ firstAt 58 l := fun e => by
  have g1 := firstAt_get h1
  have g2 := firstAt_get h2
  rw [e] at g1
  have h3 := congrArg (fun x => x[firstAt 58 l]?) (g1.symm.trans g2)
  simp only [List.getElem?_append_right (show (l.take (firstAt 58 l)).length ≤ firstAt 58 l by rw [List.length_take]; omega), List.length_take, show firstAt 58 l - min (firstAt 58 l) l.length = 0 by omega, List.getElem?_cons_zero] at h3
  exact absurd h3 (by decide)
set_option maxHeartbeats 400000 in
theorem rparseRef_any (s : ByteArray) (hs : s.size ≤ 140737488355328) (w : World) :
    Calls Try.prog 20 #[.string s] w fun e w' => e = quad (prT s.toList) (prF s.toList) (prQ s.toList) (prE s.toList) ∧ w = w' := by
  unfold quad
  have hl := toL_len s
  have F1 := Lib.hid (rfind_any s 47 47 (Lib.hid rfl) (by unfold maxLen; omega))
  have F2 := Lib.hid (rfind_any s 58 58 (Lib.hid rfl) (by unfold maxLen; omega))
  by_cases hc : firstAt 47 s.toList < s.toList.length ∧ firstAt 58 s.toList < s.toList.length ∧ firstAt 47 s.toList ≤ firstAt 58 s.toList
  · have hne := first_ne hc.1 hc.2.1
    have hp : prs verB s.toList = (if refB verB (s.toList.take (firstAt 47 s.toList)) ((s.toList.take (firstAt 58 s.toList)).drop (firstAt 47 s.toList + 1)) (s.toList.drop (firstAt 58 s.toList + 1)) then
      some (s.toList.take (firstAt 47 s.toList), (s.toList.take (firstAt 58 s.toList)).drop (firstAt 47 s.toList + 1), s.toList.drop (firstAt 58 s.toList + 1)) else none) := by
      conv => lhs; unfold prs
      rw [if_pos hc]
    obtain ⟨c1, c2, c3⟩ := hc
    rw [hl] at c1 c2
    generalize firstAt 47 s.toList = a at *
    generalize firstAt 58 s.toList = b at *
    have sl1 := fun w => cutH s a (a : Int) rfl (by omega) w
    have sl2 := fun w => cutS s (a + 1) b ((a : Int) + 1) (b : Int) (by omega) rfl (by omega) (by omega) w
    have sl3 := fun w => cutE s (b + 1) ((b : Int) + 1) (by omega) (by omega) w
    have e2 : (s.toList.take b).drop (a + 1) = (s.toList.drop (a + 1)).take (b - (a + 1)) := List.drop_take ..
    rw [e2] at hp
    obtain ⟨T, hT⟩ : ∃ T : ByteArray, ⟨(s.toList.take a).toArray⟩ = T := ⟨_, rfl⟩
    obtain ⟨F, hF⟩ : ∃ F : ByteArray, ⟨((s.toList.drop (a + 1)).take (b - (a + 1))).toArray⟩ = F := ⟨_, rfl⟩
    obtain ⟨Q, hQ⟩ : ∃ Q : ByteArray, ⟨(s.toList.drop (b + 1)).toArray⟩ = Q := ⟨_, rfl⟩
    have tT : T.toList = s.toList.take a := by rw [← hT, tl]
    have tF : F.toList = (s.toList.drop (a + 1)).take (b - (a + 1)) := by rw [← hF, tl]
    have tQ : Q.toList = s.toList.drop (b + 1) := by rw [← hQ, tl]
    have zT : T.size ≤ s.size := by rw [← toL_len, tT, List.length_take, toL_len]; omega
    have zF : F.size ≤ s.size := by rw [← toL_len, tF, List.length_take, List.length_drop, toL_len]; omega
    have zQ : Q.size ≤ s.size := by rw [← toL_len, tQ, List.length_drop, toL_len]; omega
    rw [hT] at sl1
    rw [hF] at sl2
    rw [hQ] at sl3
    rw [← tT, ← tF, ← tQ] at hp
    have R := rref_any T F Q (by omega) (by omega) (by omega)
    cases hB : refB verB T.toList F.toList Q.toList with
    | true =>
      rw [hB, if_pos rfl] at hp
      obtain ⟨g1, g2, g3, g4⟩ := pr_some hp
      have hz := Lib.hid (show refE T.toList F.toList Q.toList = 0 by unfold refE; rw [hB]; rfl)
      generalize refT T.toList F.toList Q.toList = RT at R
      rw [hz.out] at R
      have HR := Lib.hid R
      have G := Lib.hid (And.intro g1 (And.intro g2 (And.intro g3 g4)))
      have eT : (⟨T.toList.toArray⟩ : ByteArray) = T := by rw [toL]
      have eF : (⟨F.toList.toArray⟩ : ByteArray) = F := by rw [toL]
      have eQ : (⟨Q.toList.toArray⟩ : ByteArray) = Q := by rw [toL]
      have EQS := Lib.hid (And.intro eT (And.intro eF eQ))
      clear hB hp g1 g2 g3 g4 hz R eT eF eQ e2 hT hF hQ tT tF tQ hl
      go_enter Try.func20, Try.ntmps20
      go_wp2_with (first | (go_at_call 44; first | ((with_reducible refine (F1.out _).mono ?_); rintro e w' ⟨rfl, rfl⟩) | ((with_reducible refine (F2.out _).mono ?_); rintro e w' ⟨rfl, rfl⟩)) | (go_at_call 18; ((with_reducible refine (HR.out _).mono ?_); rintro e w' ⟨rfl, rfl⟩)))
      refine bodyPost_ret (results_tmp4 rfl _ _ _) rfl ?_
      exact ⟨by rw [G.out.1, G.out.2.1, G.out.2.2.1, G.out.2.2.2, EQS.out.1, EQS.out.2.1, EQS.out.2.2]; rfl, rfl⟩
    | false =>
      rw [hB, if_neg (by decide)] at hp
      have hz := Lib.hid (pr_none hp)
      have hz2 := Lib.hid (show refE T.toList F.toList Q.toList = 4 by unfold refE; rw [hB]; rfl)
      generalize refT T.toList F.toList Q.toList = RT at R
      rw [hz2.out] at R
      have HR := Lib.hid R
      clear hB hp hz2 R e2 hT hF hQ tT tF tQ hl
      go_enter Try.func20, Try.ntmps20
      go_wp2_with (first | (go_at_call 44; first | ((with_reducible refine (F1.out _).mono ?_); rintro e w' ⟨rfl, rfl⟩) | ((with_reducible refine (F2.out _).mono ?_); rintro e w' ⟨rfl, rfl⟩)) | (go_at_call 18; ((with_reducible refine (HR.out _).mono ?_); rintro e w' ⟨rfl, rfl⟩)))
      refine bodyPost_ret (results_tmp4 rfl _ _ _) rfl ?_
      exact ⟨by rw [hz.out.1, hz.out.2.1, hz.out.2.2.1, hz.out.2.2.2]; rfl, rfl⟩
  · have hz := Lib.hid (pr_none (prs_no hc))
    generalize firstAt 47 s.toList = a at *
    generalize firstAt 58 s.toList = b at *
    have h3 : a < s.size → b < s.size → b < a := fun h1 h2 => by
      rcases Nat.lt_or_ge b a with h | h
      · exact h
      · exact absurd ⟨by omega, by omega, h⟩ hc
    clear hc hl
    by_cases h1 : a < s.size
    · by_cases h2 : b < s.size
      · have h4 := h3 h1 h2
        clear h3
        go_enter Try.func20, Try.ntmps20
        go_wp2_with (go_at_call 44; first | ((with_reducible refine (F1.out _).mono ?_); rintro e w' ⟨rfl, rfl⟩) | ((with_reducible refine (F2.out _).mono ?_); rintro e w' ⟨rfl, rfl⟩))
        refine bodyPost_ret (results_tmp4 rfl _ _ _) rfl ?_
        exact ⟨by rw [hz.out.1, hz.out.2.1, hz.out.2.2.1, hz.out.2.2.2]; rfl, rfl⟩
      · clear h3
        go_enter Try.func20, Try.ntmps20
        go_wp2_with (go_at_call 44; first | ((with_reducible refine (F1.out _).mono ?_); rintro e w' ⟨rfl, rfl⟩) | ((with_reducible refine (F2.out _).mono ?_); rintro e w' ⟨rfl, rfl⟩))
        refine bodyPost_ret (results_tmp4 rfl _ _ _) rfl ?_
        exact ⟨by rw [hz.out.1, hz.out.2.1, hz.out.2.2.1, hz.out.2.2.2]; rfl, rfl⟩
    · clear h3
      go_enter Try.func20, Try.ntmps20
      go_wp2_with (go_at_call 44; first | ((with_reducible refine (F1.out _).mono ?_); rintro e w' ⟨rfl, rfl⟩) | ((with_reducible refine (F2.out _).mono ?_); rintro e w' ⟨rfl, rfl⟩))
      refine bodyPost_ret (results_tmp4 rfl _ _ _) rfl ?_
      exact ⟨by rw [hz.out.1, hz.out.2.1, hz.out.2.2.1, hz.out.2.2.2]; rfl, rfl⟩
end Idn
end Go.Proofs.Ytgchjfdldbadlaa
