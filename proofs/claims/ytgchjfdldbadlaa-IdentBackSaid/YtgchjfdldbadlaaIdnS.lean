/-
  The law IdentBack.
-/
import Derived.Test.YtgchjfdldbadlaaIdnP
namespace Go.Proofs.Ytgchjfdldbadlaa
open Go.RowKit
namespace Idn

theorem name_len {l : List UInt8} (h : nameB l = true) : l.length ≤ 24 := by
  unfold nameB at h
  split at h
  · exact Nat.zero_le _
  · simp only [Bool.and_eq_true, decide_eq_true_eq] at h
    simp
    omega
theorem ver_len {l : List UInt8} (h : verB l = true) : l.length ≤ 24 := by
  unfold verB at h
  simp only [Bool.and_eq_true, beq_iff_eq] at h
  have := Num.fmt_len (Num.parV l)
  rw [(Num.fmt_parse l h.1.1).2] at this
  omega
theorem qual_len {q : List UInt8} (h : (nameB q || verB q) = true) : q.length ≤ 24 := by
  rw [Bool.or_eq_true] at h
  rcases h with h | h
  · exact name_len h
  · exact ver_len h
theorem str_back (s : ByteArray) : (⟨s.toList.toArray⟩ : ByteArray) = s := by rw [toL]
theorem fmt_back (n : Int) (h1 : 0 ≤ n) (h2 : n ≤ 1000000000000) : prsN (Num.fmtL n) = some n ∧ (Num.fmtL n).all digit = true := by
  obtain ⟨e1, e2⟩ := Num.parse_fmt n (by omega) (by omega)
  have hv : Num.vld n = true := Num.vld_of (by omega) h2
  rw [hv] at e1 e2
  constructor
  · unfold prsN
    rw [e1, e2]
    rfl
  · unfold Num.fmtL
    rw [if_neg (by omega), List.nil_append]
    have := Num.digs_all (Num.ndF 18 (Num.abz n).toNat) (Num.abz n).toNat
    rw [List.all_eq_true] at this ⊢
    intro x hx
    have hd := Num.dig_bd (this x hx)
    unfold digit
    simp
    omega
/-- Ref, and ParseRef behind it. -/
theorem back1 (t f q : ByteArray) (ht : t.size ≤ 140737488355328) (hf : f.size ≤ 140737488355328) (hq : q.size ≤ 140737488355328) :
    (∃ S : ByteArray, (∀ w, Calls Try.prog 17 #[.string t, .string f, .string q] w fun e w' => e = .returned (.tuple #[.string S, .int .i64 0]) ∧ Bel w w') ∧
      (∀ w, Calls Try.prog 19 #[.string S] w fun e w' => e = .returned (.tuple #[.string t, .string f, .string q, .int .i64 0]) ∧ Bel w w')) ∨
    (∃ S : ByteArray, ∀ w, Calls Try.prog 17 #[.string t, .string f, .string q] w fun e w' => e = .returned (.tuple #[.string S, .int .i64 4]) ∧ Bel w w') := by
  have h := ref_any t f q ht hf hq
  cases hB : refB verB t.toList f.toList q.toList with
  | false =>
    refine Or.inr ⟨⟨(refT t.toList f.toList q.toList).toArray⟩, ?_⟩
    rw [show refE t.toList f.toList q.toList = 4 by unfold refE; rw [hB]; rfl] at h
    exact h
  | true =>
    refine Or.inl ⟨⟨(refL t.toList f.toList q.toList).toArray⟩, ?_, ?_⟩
    · rw [show refE t.toList f.toList q.toList = 0 by unfold refE; rw [hB]; rfl, show refT t.toList f.toList q.toList = refL t.toList f.toList q.toList by unfold refT; rw [hB]; rfl] at h
      exact h
    · have hB2 := hB
      unfold refB at hB2
      simp only [Bool.and_eq_true] at hB2
      have l1 := name_len hB2.1.1
      have l2 := name_len hB2.1.2
      have l3 := qual_len hB2.2
      have hp := parseRef_any ⟨(refL t.toList f.toList q.toList).toArray⟩ (by
        rw [← toL_len, tl]
        unfold refL
        simp
        omega)
      rw [tl (refL t.toList f.toList q.toList)] at hp
      obtain ⟨g1, g2, g3, g4⟩ := pr_some (prs_ref hB)
      rw [g1, g2, g3, g4] at hp
      unfold quad at hp
      rw [str_back, str_back, str_back] at hp
      exact hp
/-- ParseRef, and Ref behind it. -/
theorem back2 (s : ByteArray) (hs : s.size ≤ 140737488355328) :
    (∃ T F Q : ByteArray, (∀ w, Calls Try.prog 19 #[.string s] w fun e w' => e = .returned (.tuple #[.string T, .string F, .string Q, .int .i64 0]) ∧ Bel w w') ∧
      (∀ w, Calls Try.prog 17 #[.string T, .string F, .string Q] w fun e w' => e = .returned (.tuple #[.string s, .int .i64 0]) ∧ Bel w w')) ∨
    (∃ T F Q : ByteArray, ∀ w, Calls Try.prog 19 #[.string s] w fun e w' => e = .returned (.tuple #[.string T, .string F, .string Q, .int .i64 1]) ∧ Bel w w') := by
  have h := parseRef_any s hs
  unfold quad at h
  cases hp : prs verB s.toList with
  | none =>
    rw [(pr_none hp).2.2.2] at h
    exact Or.inr ⟨_, _, _, h⟩
  | some x =>
    obtain ⟨t, f, q⟩ := x
    obtain ⟨g1, g2, g3, g4⟩ := pr_some hp
    obtain ⟨r1, r2⟩ := ref_prs hp
    rw [g1, g2, g3, g4] at h
    refine Or.inl ⟨_, _, _, h, ?_⟩
    have hB2 := r1
    unfold refB at hB2
    simp only [Bool.and_eq_true] at hB2
    have l1 := name_len hB2.1.1
    have l2 := name_len hB2.1.2
    have l3 := qual_len hB2.2
    have hr := ref_any ⟨t.toArray⟩ ⟨f.toArray⟩ ⟨q.toArray⟩ (by rw [← toL_len, tl]; omega) (by rw [← toL_len, tl]; omega) (by rw [← toL_len, tl]; omega)
    rw [tl t, tl f, tl q, show refE t f q = 0 by unfold refE; rw [r1]; rfl, show refT t f q = s.toList by unfold refT; rw [r1, ← r2]; rfl, str_back] at hr
    exact hr
/-- Child, and Parent behind it. -/
theorem back3 (id : ByteArray) (n : Int) :
    (∃ C : ByteArray, (∀ w, Calls Try.prog 21 #[.string id, .int .i64 n] w fun e w' => e = .returned (.tuple #[.string C, .int .i64 0]) ∧ Bel w w') ∧
      (∀ w, Calls Try.prog 23 #[.string C] w fun e w' => e = .returned (.tuple #[.string id, .int .i64 n, .bool true]) ∧ Bel w w') ∧
      (∀ w, Calls Try.prog 12 #[.string C] w fun e w' => e = .returned (.bool true) ∧ Bel w w')) ∨
    (∃ (C : ByteArray) (E : Int), (E == 0) = false ∧ ∀ w, Calls Try.prog 21 #[.string id, .int .i64 n] w fun e w' => e = .returned (.tuple #[.string C, .int .i64 E]) ∧ Bel w w') := by
  have h := child_any id n
  unfold two2 at h
  cases hc : chi Num.fmtL id.toList n with
  | error x =>
    refine Or.inr ⟨_, chiE Num.fmtL id.toList n, ?_, h⟩
    have hx : x = 4 ∨ x = 2 ∨ x = 3 := by
      unfold chi at hc
      split at hc
      · cases hc; exact Or.inl rfl
      · split at hc
        · cases hc; exact Or.inr (Or.inl rfl)
        · split at hc
          · cases hc; exact Or.inr (Or.inr rfl)
          · cases hc
    unfold chiE
    rw [hc]
    rcases hx with rfl | rfl | rfl <;> rfl
  | ok c =>
    obtain ⟨e1, e2⟩ := par_chi fmt_back hc
    obtain ⟨-, -, -, -, e3⟩ := chi_ok hc
    refine Or.inl ⟨⟨c.toArray⟩, ?_, ?_, ?_⟩
    · rw [show chiT Num.fmtL id.toList n = c by unfold chiT; rw [hc], show chiE Num.fmtL id.toList n = 0 by unfold chiE; rw [hc]] at h
      exact h
    · have hp := parent_any ⟨c.toArray⟩ (by rw [← toL_len, tl]; omega)
      unfold trip3 at hp
      obtain ⟨g1, g2, g3⟩ := pa_some e1
      rw [tl c, g1, g2, g3, str_back] at hp
      exact hp
    · have hi := id_any ⟨c.toArray⟩
      rw [tl c, e2] at hi
      exact hi
set_option maxRecDepth 100000 in
set_option maxHeartbeats 4000000 in
theorem law_back (t f q : ByteArray) (n : Int) (ht : t.size ≤ 140737488355328) (hf : f.size ≤ 140737488355328) (hq : q.size ≤ 140737488355328) (w : World) :
    Calls Try.prog 9 #[.string t, .string f, .string q, .int .i64 n] w fun e w' => e = .returned (.bool true) ∧ Bel w w' := by
  have AW := Lib.hid awake_any
  have G := Bel.refl w
  have I1 := Lib.hid True.intro
  have Q1 := Lib.hid True.intro
  have P1 := Lib.hid True.intro
  have R2 := Lib.hid True.intro
  rcases back1 t f q ht hf hq with ⟨S, r1, p1⟩ | ⟨S, r1⟩ <;> rcases back2 t ht with ⟨T, F, Q, p2, r2⟩ | ⟨T, F, Q, p2⟩ <;> rcases back3 q n with ⟨C, c1, q1, i1⟩ | ⟨C, E, hE, c1⟩
  all_goals
    have R1 := Lib.hid r1
    have P2 := Lib.hid p2
    have C1 := Lib.hid c1
    first
      | (replace P1 := Lib.hid p1; clear p1)
      | skip
    first
      | (replace R2 := Lib.hid r2; clear r2)
      | skip
    first
      | (replace Q1 := Lib.hid q1; replace I1 := Lib.hid i1; clear q1 i1)
      | skip
    clear r1 p2 c1
    go_enter Try.func9, Try.ntmps9
    go_wp2_with (first | (go_at_call 17; first | ((with_reducible refine (R1.out _).mono ?_); rintro e w' ⟨rfl, g⟩; replace G := Bel.trans G g; clear g) | ((with_reducible refine (R2.out _).mono ?_); rintro e w' ⟨rfl, g⟩; replace G := Bel.trans G g; clear g)) | (go_at_call 19; first | ((with_reducible refine (P1.out _).mono ?_); rintro e w' ⟨rfl, g⟩; replace G := Bel.trans G g; clear g) | ((with_reducible refine (P2.out _).mono ?_); rintro e w' ⟨rfl, g⟩; replace G := Bel.trans G g; clear g)) | (go_at_call 21; first | ((with_reducible refine (C1.out _).mono ?_); rintro e w' ⟨rfl, g⟩; replace G := Bel.trans G g; clear g)) | (go_at_call 23; first | ((with_reducible refine (Q1.out _).mono ?_); rintro e w' ⟨rfl, g⟩; replace G := Bel.trans G g; clear g)) | (go_at_call 12; first | ((with_reducible refine (I1.out _).mono ?_); rintro e w' ⟨rfl, g⟩; replace G := Bel.trans G g; clear g)) | (go_at_call 16; first | ((with_reducible refine (AW.out _).mono ?_); rintro e w' ⟨rfl, g⟩; replace G := Bel.trans G g; clear g)))
    go_ret
    exact ⟨rfl, G⟩
end Idn
end Go.Proofs.Ytgchjfdldbadlaa
