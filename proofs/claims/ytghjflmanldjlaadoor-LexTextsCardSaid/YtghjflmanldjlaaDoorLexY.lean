/-
  Layer 7: the chapter's examples.
-/
import Derived.Test.YtghjflmanldjlaaDoorLexX
namespace Go.Proofs.YtghjflmanldjlaaDoor
open Go.RowKit Go.ChangeShapes Go.WideShapes
namespace Lex

/-- The tokens, by a bound on the steps. -/
def toksF : Nat → Nat → Nat → Txt → TR
  | 0, _, _, _ => ⟨[], 0, 0⟩
  | f + 1, m, p, l => if l.isEmpty then ⟨[], 0, 0⟩ else if m == 1000 then ⟨[], p, 3⟩ else if (rdT l).e == 0 then addT [⟨(rdT l).k, (rdT l).s, (rdT l).i, p⟩] (toksF f (m + 1) (p + nxt l) (l.drop (nxt l))) else ⟨[], p + (rdT l).n, (rdT l).e⟩
theorem toksF_eq : ∀ (f m p : Nat) (l : Txt), l.length ≤ f → toksF f m p l = toks m p l
  | 0, m, p, l, h => by
    obtain rfl := List.length_eq_zero_iff.1 (Nat.le_zero.1 h)
    rw [toks_nil]; rfl
  | f + 1, m, p, l, h => by
    unfold toksF
    by_cases hl : l = []
    · subst hl; rw [toks_nil]; rfl
    rw [if_neg (by simpa using hl)]
    by_cases hm : m = 1000
    · subst hm; rw [toks_full p hl]; rfl
    rw [if_neg (by simpa using hm)]
    by_cases he : (rdT l).e = 0
    · have hn := nxt_le he
      rw [if_pos (by simpa using he), toks_step hl hm he, toksF_eq f _ _ _ (by rw [List.length_drop]; omega)]
    · rw [if_neg (by simpa using he), toks_bad hl hm he]
theorem tokensF (s : Txt) (n : Nat) (R : TR) (h4 : s.length ≤ 4000) (hn : skipN false s = n) (h : toksF s.length 0 n (s.drop n) = R) : tokens s = R := by
  unfold tokens
  rw [if_neg (by omega), hn, ← h, toksF_eq _ _ _ _ (by rw [List.length_drop]; omega)]
def ex1 : Txt := [108, 101, 116, 32, 97, 49, 61, 49, 50, 59, 32, 47, 47, 32, 120]
def exL : List Tk := [⟨2, [108, 101, 116], 0, 0⟩, ⟨1, [97, 49], 0, 4⟩, ⟨5, [61], 0, 6⟩, ⟨3, [], 12, 7⟩, ⟨5, [59], 0, 9⟩]
theorem ex1_tokens : tokens ex1 = ⟨exL, 0, 0⟩ := tokensF ex1 0 _ (by decide) (by rfl) (by rfl)
theorem ex2_tokens : tokens [48, 55] = ⟨[], 0, 1⟩ := tokensF [48, 55] 0 _ (by decide) (by rfl) (by rfl)
theorem ex3_tokens : tokens [49, 48, 48, 48, 48, 48, 48, 48, 48, 48, 48, 48, 49] = ⟨[], 0, 2⟩ := tokensF [49, 48, 48, 48, 48, 48, 48, 48, 48, 48, 48, 48, 49] 0 _ (by decide) (by rfl) (by rfl)
theorem ex4_text : txtT ⟨4, [97, 34, 98], 0, 0⟩ = [34, 97, 92, 34, 98, 34] ∧ txtE ⟨4, [97, 34, 98], 0, 0⟩ = 0 := ⟨rfl, rfl⟩
theorem ex5_join : joinE exL = 0 ∧ joinT exL = [108, 101, 116, 32, 97, 49, 32, 61, 32, 49, 50, 32, 59] := ⟨rfl, rfl⟩
theorem exL_small : Sml exL := by
  intro t ht
  simp only [exL, List.mem_cons, List.not_mem_nil, or_false] at ht
  rcases ht with rfl | rfl | rfl | rfl | rfl <;> exact ⟨by constructor <;> decide, by decide⟩
set_option maxRecDepth 100000 in
set_option maxHeartbeats 4000000 in
theorem awake_any (w : World) (hm : ML w) : Calls Tryd.prog 9 #[] w fun e w' => e = .returned (.bool true) ∧ Bel w w' := by
  have T1 : Hid (∀ w, Calls Tryd.prog 10 #[.string ⟨#[108, 101, 116, 32, 97, 49, 61, 49, 50, 59, 32, 47, 47, 32, 120]⟩] w fun e w' => TRes w.heap.size w' e ⟨exL, 0, 0⟩ ∧ Bel w w') := Lib.hid (fun w => by
    have h := tokens_any ⟨#[108, 101, 116, 32, 97, 49, 61, 49, 50, 59, 32, 47, 47, 32, 120]⟩ w
    rw [show (⟨#[108, 101, 116, 32, 97, 49, 61, 49, 50, 59, 32, 47, 47, 32, 120]⟩ : ByteArray).toList = ex1 from tl _, ex1_tokens] at h
    exact h)
  have T2 : Hid (∀ w, Calls Tryd.prog 10 #[.string ⟨#[48, 55]⟩] w fun e w' => TRes w.heap.size w' e ⟨[], 0, 1⟩ ∧ Bel w w') := Lib.hid (fun w => by
    have h := tokens_any ⟨#[48, 55]⟩ w
    rw [show (⟨#[48, 55]⟩ : ByteArray).toList = [48, 55] from tl _, ex2_tokens] at h
    exact h)
  have T3 : Hid (∀ w, Calls Tryd.prog 10 #[.string ⟨#[49, 48, 48, 48, 48, 48, 48, 48, 48, 48, 48, 48, 49]⟩] w fun e w' => TRes w.heap.size w' e ⟨[], 0, 2⟩ ∧ Bel w w') := Lib.hid (fun w => by
    have h := tokens_any ⟨#[49, 48, 48, 48, 48, 48, 48, 48, 48, 48, 48, 48, 49]⟩ w
    rw [show (⟨#[49, 48, 48, 48, 48, 48, 48, 48, 48, 48, 48, 48, 49]⟩ : ByteArray).toList = [49, 48, 48, 48, 48, 48, 48, 48, 48, 48, 48, 48, 49] from tl _, ex3_tokens] at h
    exact h)
  have T4 : Hid (∀ w, ML w → Calls Tryd.prog 14 #[.agg #[.int .i64 4, .string ⟨#[97, 34, 98]⟩, .int .i64 0, .int .i64 0]] w fun e w' => e = .returned (.tuple #[.string ⟨#[34, 97, 92, 34, 98, 34]⟩, .int .i64 0]) ∧ Bel w w') := Lib.hid (fun w hm => by
    have h := text_any 4 0 0 ⟨#[97, 34, 98]⟩ (by omega) (by decide) w hm
    rw [show (⟨#[97, 34, 98]⟩ : ByteArray).toList = [97, 34, 98] from tl _, ex4_text.1, ex4_text.2] at h
    exact h)
  have T5 : Hid (∀ w o c, ML w → TArg w o 5 exL → Calls Tryd.prog 16 #[.slice o 5 c] w fun e w' => e = .returned (.tuple #[.string ⟨#[108, 101, 116, 32, 97, 49, 32, 61, 32, 49, 50, 32, 59]⟩, .int .i64 0]) ∧ Bel w w') := Lib.hid (fun w o c hm hA => by
    have h := join_any exL o 5 c (by decide) exL_small w hm hA
    rw [ex5_join.1, ex5_join.2] at h
    exact h)
  have T6 : Hid (∀ w, Calls Tryd.prog 18 #[.string ⟨#[119, 104, 105, 108, 101]⟩] w fun e w' => e = .returned (.bool true) ∧ w = w') := Lib.hid (fun w => by
    have h := keyword_any ⟨#[119, 104, 105, 108, 101]⟩ w
    rw [show (⟨#[119, 104, 105, 108, 101]⟩ : ByteArray).toList = [119, 104, 105, 108, 101] from tl _] at h
    exact h)
  have T7 : Hid (∀ w, Calls Tryd.prog 20 #[.string ⟨#[33, 61]⟩] w fun e w' => e = .returned (.bool true) ∧ w = w') := Lib.hid (fun w => by
    have h := symbol_any ⟨#[33, 61]⟩ w
    rw [show (⟨#[33, 61]⟩ : ByteArray).toList = [33, 61] from tl _] at h
    exact h)
  have HM := Lib.hid hm
  clear hm
  go_enter Tryd.func9, Tryd.ntmps9
  go_wp2_with fail
  refine (T1.out _).mono ?_
  rintro e w1 ⟨⟨o, n, c, rfl, hA, hc, hfr⟩, g1⟩
  obtain rfl : 5 = n := hA.1
  obtain ⟨g, rfl, -⟩ := hfr (by omega)
  have A1 := Lib.hid hA
  have G1 := Lib.hid g1
  clear hA hc hfr g1
  go_wp2_with fail
  refine (T2.out _).mono ?_
  rintro e w2 ⟨⟨o2, n2, c2, rfl, hA, hc, hfr⟩, g1⟩
  obtain rfl : 0 = n2 := hA.1
  have A2 := Lib.hid (A1.out.on g1)
  have G2 := Lib.hid (Bel.trans G1.out g1)
  clear hA hc hfr g1
  go_wp2_with fail
  refine (T3.out _).mono ?_
  rintro e w3 ⟨⟨o3, n3, c3, rfl, hA, hc, hfr⟩, g1⟩
  obtain rfl : 0 = n3 := hA.1
  have A3 := Lib.hid (A2.out.on g1)
  have G3 := Lib.hid (Bel.trans G2.out g1)
  clear hA hc hfr g1
  go_wp2_with fail
  refine (T4.out _ (HM.out.on G3.out)).mono ?_
  rintro e w4 ⟨rfl, g1⟩
  have A4 := Lib.hid (A3.out.on g1)
  have G4 := Lib.hid (Bel.trans G3.out g1)
  clear g1
  go_wp2_with fail
  refine (T5.out _ _ _ (HM.out.on G4.out) A4.out).mono ?_
  rintro e w5 ⟨rfl, g1⟩
  have A5 := Lib.hid (A4.out.on g1)
  have G5 := Lib.hid (Bel.trans G4.out g1)
  clear g1 A1 A2 A3 A4
  obtain ⟨b, off, hbo, hcells⟩ := A5.out.2 (by omega)
  simp only [Option.some.injEq, Addr.mk.injEq, and_true] at hbo
  obtain ⟨rfl, rfl⟩ := hbo
  have k1 : w5.cell? ⟨g, 5, none⟩ = some (.string ⟨#[97, 49]⟩) := (hcells 1 (by decide)).2.1
  have k2 : w5.cell? ⟨g, 7, none⟩ = some (.int .i64 4) := (hcells 1 (by decide)).2.2.2
  have k3 : w5.cell? ⟨g, 14, none⟩ = some (.int .i64 12) := (hcells 3 (by decide)).2.2.1
  have k4 : w5.cell? ⟨g, 19, none⟩ = some (.int .i64 9) := (hcells 4 (by decide)).2.2.2
  clear hcells A5
  go_wp2_with (first | (go_at_call 18; refine (T6.out _).mono ?_; rintro e w' ⟨rfl, rfl⟩) | (go_at_call 20; refine (T7.out _).mono ?_; rintro e w' ⟨rfl, rfl⟩))
  go_ret
  exact ⟨rfl, G5.out⟩
end Lex
end Go.Proofs.YtghjflmanldjlaaDoor
