/-
  Layer 5: Parent, in the reference and in the code.
-/
import Derived.Test.YtgchjfdldbadlaaIdnJ
import Derived.Lib.LastIndexByte
namespace Go.Proofs.Ytgchjfdldbadlaa
open Go.RowKit
namespace Idn
open Num (fmtL)

/-- What Parse makes of a text, as one. -/
def prsN (l : List UInt8) : Option Int := if Num.parE l = 0 then some (Num.parV l) else none
def paP (l : List UInt8) : List UInt8 := match par fmtL prsN l with | some (a, _) => a | none => []
def paN (l : List UInt8) : Int := match par fmtL prsN l with | some (_, n) => n | none => 0
def paB (l : List UInt8) : Bool := match par fmtL prsN l with | some _ => true | none => false
def trip3 (t : List UInt8) (n : Int) (b : Bool) : Ending := .returned (.tuple #[.string ⟨t.toArray⟩, .int .i64 n, .bool b])
theorem pa_none {l : List UInt8} (h : par fmtL prsN l = none) : paP l = [] ∧ paN l = 0 ∧ paB l = false := by
  unfold paP paN paB
  rw [h]
  exact ⟨rfl, rfl, rfl⟩
theorem pa_some {l a : List UInt8} {n : Int} (h : par fmtL prsN l = some (a, n)) : paP l = a ∧ paN l = n ∧ paB l = true := by
  unfold paP paN paB
  rw [h]
  exact ⟨rfl, rfl, rfl⟩
theorem par_cut {l : List UInt8} (h : cutLast 46 l = none) : par fmtL prsN l = none := by
  unfold par
  rw [h]
theorem par_prs {l a r : List UInt8} (h : cutLast 46 l = some (a, r)) (h2 : ¬ Num.parE r = 0) : par fmtL prsN l = none := by
  unfold par prsN
  rw [h]
  simp only [if_neg h2]
theorem par_if {l a r : List UInt8} (h : cutLast 46 l = some (a, r)) (h2 : Num.parE r = 0) : par fmtL prsN l = if chiE fmtL a (Num.parV r) = 0 ∧ chiT fmtL a (Num.parV r) = l then some (a, Num.parV r) else none := by
  conv => lhs; unfold par prsN
  rw [h]
  simp only [if_pos h2]
/-- Where the number is read, the text is what Child makes, unless Child fails. -/
theorem chi_back {l a r : List UInt8} (h : cutLast 46 l = some (a, r)) (h2 : Num.parE r = 0) (h3 : chiE fmtL a (Num.parV r) = 0) : chiT fmtL a (Num.parV r) = l := by
  have hl := (cutLast_some h).1
  have hf := (Num.fmt_parse r h2).2
  unfold chiE at h3
  cases hc : chi fmtL a (Num.parV r) with
  | error x =>
    exfalso
    rw [hc] at h3
    unfold chi at hc
    simp only at h3
    subst h3
    split at hc
    · cases hc
    · split at hc
      · cases hc
      · split at hc
        · cases hc
        · cases hc
  | ok c =>
    obtain ⟨-, -, -, h4, -⟩ := chi_ok hc
    unfold chiT
    rw [hc]
    simp only
    rw [h4, hf, hl]
theorem no_cons {s : ByteArray} {i : Nat} (h : i < s.size) (hc : ¬ s[i] = 46) (hn : 46 ∉ s.toList.drop (i + 1)) : 46 ∉ s.toList.drop i := by
  rw [List.drop_eq_getElem_cons (by rw [toL_len]; exact h), toL_get s i h]
  intro hm
  rcases List.mem_cons.1 hm with e | e
  · exact hc e.symm
  · exact hn e
theorem cut_at {s : ByteArray} {i : Nat} (h : i < s.size) (hc : s[i] = 46) (hn : 46 ∉ s.toList.drop (i + 1)) : cutLast 46 s.toList = some (s.toList.take i, s.toList.drop (i + 1)) := by
  have e : s.toList = s.toList.take i ++ 46 :: s.toList.drop (i + 1) := by
    conv => lhs; rw [← List.take_append_drop i s.toList]
    rw [List.drop_eq_getElem_cons (by rw [toL_len]; exact h), toL_get s i h, hc]
  conv => lhs; rw [e]
  exact cutLast_of _ hn
/-- The pieces around a point, and all that follows from what is read behind it. -/
structure Point (s P R : ByteArray) (i : Nat) : Prop where
  lt : i < s.size
  cut : cutLast 46 s.toList = some (P.toList, R.toList)
  p : ∀ w, (Instr.slice 9 (.string s) none (some (.int .i64 (i : Int))) none).run Try.prog w = .ok (.string P) w
  r : ∀ w, (Instr.slice 9 (.string s) (some (.int .i64 ((i : Int) + 1))) none none).run Try.prog w = .ok (.string R) w
  zp : P.size ≤ s.size
  zr : R.size ≤ s.size
theorem point_of {s : ByteArray} {i : Nat} (h : i < s.size) (hc : s[i] = 46) (hn : 46 ∉ s.toList.drop (i + 1)) : ∃ P R, Point s P R i := by
  refine ⟨⟨(s.toList.take i).toArray⟩, ⟨(s.toList.drop (i + 1)).toArray⟩, h, (cut_at h hc hn).trans (congrArg some (Prod.ext (tl _).symm (tl _).symm)), fun w => cutH s i _ rfl (by omega) w, fun w => cutE s (i + 1) _ (by omega) (by omega) w, ?_, ?_⟩
  · rw [← toL_len, tl, List.length_take, toL_len]; omega
  · rw [← toL_len, tl, List.length_drop, toL_len]; omega
set_option maxHeartbeats 1000000 in
theorem rparent_any (s : ByteArray) (hs : s.size ≤ 140737488355328) (w : World) :
    Calls Try.prog 24 #[.string s] w fun e w' => e = trip3 (paP s.toList) (paN s.toList) (paB s.toList) ∧ w = w' := by
  unfold trip3
  have hl := toL_len s
  go_enter Try.func24, Try.ntmps24
  go_wp2
  go_loop [5] (fun i => ∃ (k : Nat) (z : Int), i = .int .i64 z ∧ k ≤ s.size ∧ Hid (z = (k : Int) - 1) ∧ Hid (46 ∉ s.toList.drop k)) (fun i => (intOf i + 1).toNat)
  case atStart => exact ⟨s.size, _, rfl, Nat.le_refl _, Lib.hid rfl, Lib.hid (by rw [List.drop_of_length_le (by omega)]; simp)⟩
  case round =>
    obtain ⟨k, z, rfl, hk, hz, hn⟩ := hrel
    clear hl
    by_cases h0 : z < 0
    · have h1 := hz.out
      have hN := hn.out
      obtain rfl : k = 0 := by omega
      rw [List.drop_zero] at hN
      have G := Lib.hid (pa_none (par_cut (cutLast_none hN)))
      clear h1 hz hN hn
      go_wp2
      go_ret3
      exact ⟨by rw [G.out.1, G.out.2.1, G.out.2.2]; rfl, rfl⟩
    · obtain ⟨i, rfl⟩ := Int.eq_ofNat_of_zero_le (a := z) (by omega)
      have h1 := hz.out
      obtain rfl : k = i + 1 := by omega
      have x0 := fun w => idx_str s .i64 (i : Int) i rfl (by omega) w
      have hb := byte_ne s[i] 46 46 rfl
      clear h1 hz h0
      by_cases hc : s[i] = 46
      · obtain ⟨P, R, hP⟩ := point_of (by omega) hc hn.out
        rw [decide_eq_true hc, Bool.not_true] at hb
        have sp := hP.p
        have sr := hP.r
        have hlt := hP.lt
        have HR := Lib.hid (Num.rparse_any R (by have := hP.zr; unfold maxLen; omega))
        have HC := Lib.hid (rchild_any P (Num.parV R.toList) (by have := hP.zp; unfold maxLen; omega))
        have hpn := fun h => pa_none (par_prs hP.cut (h : ¬ Num.parE R.toList = 0))
        have hpi := fun h => par_if hP.cut (h : Num.parE R.toList = 0)
        have hcb := fun h h2 => chi_back hP.cut (h : Num.parE R.toList = 0) h2
        clear hP hc hn
        generalize Num.parV R.toList = V at *
        generalize Num.parE R.toList = E at *
        unfold Num.pair at HR
        unfold two2 at HC
        by_cases hE : E = 0
        · subst hE
          have hpi2 := hpi rfl
          have hcb2 := hcb rfl
          clear hpn hpi hcb
          by_cases hc : chiE fmtL P.toList V = 0
          · have e1 := hcb2 hc
            rw [if_pos ⟨hc, e1⟩] at hpi2
            have G := Lib.hid (pa_some hpi2)
            rw [hc, e1, show (⟨s.toList.toArray⟩ : ByteArray) = s by rw [toL]] at HC
            have eP : Hid ((⟨P.toList.toArray⟩ : ByteArray) = P) := Lib.hid (by rw [toL])
            clear hcb2 hc e1 hpi2
            go_wp2_with (first | (go_at_call 50; ((with_reducible refine (HR.out _).mono ?_); rintro e w' ⟨rfl, rfl⟩)) | (go_at_call 22; ((with_reducible refine (HC.out _).mono ?_); rintro e w' ⟨rfl, rfl⟩)))
            go_ret3
            exact ⟨by rw [G.out.1, G.out.2.1, G.out.2.2, eP.out]; rfl, rfl⟩
          · rw [if_neg (fun h => hc h.1)] at hpi2
            have G := Lib.hid (pa_none hpi2)
            have hc2 : (chiE fmtL P.toList V != 0) = true := by simpa using hc
            generalize chiE fmtL P.toList V = CE at *
            generalize chiT fmtL P.toList V = CT at *
            clear hcb2 hc hpi2
            go_wp2_with (first | (go_at_call 50; ((with_reducible refine (HR.out _).mono ?_); rintro e w' ⟨rfl, rfl⟩)) | (go_at_call 22; ((with_reducible refine (HC.out _).mono ?_); rintro e w' ⟨rfl, rfl⟩)))
            go_ret3
            exact ⟨by rw [G.out.1, G.out.2.1, G.out.2.2]; rfl, rfl⟩
        · have G := Lib.hid (hpn hE)
          have hE2 : (E != 0) = true := by simpa using hE
          clear hpn hpi hcb hE
          go_wp2_with (first | (go_at_call 50; ((with_reducible refine (HR.out _).mono ?_); rintro e w' ⟨rfl, rfl⟩)) | (go_at_call 22; ((with_reducible refine (HC.out _).mono ?_); rintro e w' ⟨rfl, rfl⟩)))
          go_ret3
          exact ⟨by rw [G.out.1, G.out.2.1, G.out.2.2]; rfl, rfl⟩
      · rw [decide_eq_false hc, Bool.not_false] at hb
        have hn2 := Lib.hid (no_cons (by omega) hc hn.out)
        clear hc hn
        go_wp2
        go_round
        case rel => exact ⟨i, (i : Int) - 1, rfl, by omega, Lib.hid rfl, hn2⟩
        case measure => simp [intOf]
theorem data_get (s : ByteArray) (j : Nat) (h : j < s.size) : s.data[j]! = s[j] := by
  rw [getElem!_pos s.data j h]
  rfl
/-- Where the last point stands. -/
theorem last_point (s : ByteArray) : (Lib.lastIndexByte s 46 = -1 ∧ 46 ∉ s.toList) ∨ ∃ i, ∃ h : i < s.size, Lib.lastIndexByte s 46 = (i : Int) ∧ s[i] = 46 ∧ 46 ∉ s.toList.drop (i + 1) := by
  have k46 : ∀ c : UInt8, c = 46 → (c.toNat : Int) = 46 := fun c h => by subst h; rfl
  rcases Lib.lastIndexByte_spec s 46 with ⟨h1, h2⟩ | ⟨i, h1, h2, h3, h4⟩
  · refine Or.inl ⟨h1, fun hm => ?_⟩
    obtain ⟨j, hj, e⟩ := List.getElem_of_mem hm
    have hj' : j < s.size := by rw [← toL_len]; exact hj
    rw [toL_get s j hj'] at e
    have := h2 j hj'
    rw [data_get s j hj'] at this
    exact this (k46 _ e)
  · refine Or.inr ⟨i, h1, h2, ?_, fun hm => ?_⟩
    · rw [data_get s i h1] at h3
      apply UInt8.toNat_inj.1
      have e : (46 : UInt8).toNat = 46 := rfl
      omega
    · obtain ⟨j, hj, e⟩ := List.getElem_of_mem hm
      rw [List.length_drop, toL_len] at hj
      rw [List.getElem_drop, toL_get s (i + 1 + j) (by omega)] at e
      have := h4 (i + 1 + j) (by omega) (by omega)
      rw [data_get s (i + 1 + j) (by omega)] at this
      exact this (k46 _ e)
theorem lastIdx_any (s : ByteArray) (hs : s.size ≤ 140737488355328) (z : Int) (hz : Hid (Lib.lastIndexByte s 46 = z)) (w : World) :
    Calls Try.prog 48 #[.string s, .string ⟨#[46]⟩] w fun e w' => e = .returned (.int .i64 z) ∧ w = w' :=
  (Try.strings_LastIndex_one s ⟨#[46]⟩ rfl (by omega) w).mono fun _ _ ⟨he, hw⟩ => ⟨by rw [← hz.out]; exact he, hw.symm⟩
set_option maxHeartbeats 1000000 in
theorem parent_any (s : ByteArray) (hs : s.size ≤ 140737488355328) (w : World) :
    Calls Try.prog 23 #[.string s] w fun e w' => e = trip3 (paP s.toList) (paN s.toList) (paB s.toList) ∧ Bel w w' := by
  unfold trip3
  rcases last_point s with ⟨h1, hN⟩ | ⟨i, hlt, h1, hc, hn⟩
  · have HL := Lib.hid (lastIdx_any s hs (-1) (Lib.hid h1))
    have G := Lib.hid (pa_none (par_cut (cutLast_none hN)))
    clear h1 hN
    go_enter Try.func23, Try.ntmps23
    go_wp2_with (go_at_call 48; ((with_reducible refine (HL.out _).mono ?_); rintro e w' ⟨rfl, rfl⟩))
    go_ret3
    exact ⟨by rw [G.out.1, G.out.2.1, G.out.2.2]; rfl, Bel.refl _⟩
  · have HL := Lib.hid (lastIdx_any s hs (i : Int) (Lib.hid h1))
    obtain ⟨P, R, hP⟩ := point_of hlt hc hn
    have sp := hP.p
    have sr := hP.r
    have HR := Lib.hid (Num.parse_any R (by have := hP.zr; unfold maxLen; omega))
    have HC := Lib.hid (child_any P (Num.parV R.toList))
    have hpn := fun h => pa_none (par_prs hP.cut (h : ¬ Num.parE R.toList = 0))
    have hpi := fun h => par_if hP.cut (h : Num.parE R.toList = 0)
    have hcb := fun h h2 => chi_back hP.cut (h : Num.parE R.toList = 0) h2
    clear hP hc hn h1
    generalize Num.parV R.toList = V at *
    generalize Num.parE R.toList = E at *
    unfold Num.pair at HR
    unfold two2 at HC
    by_cases hE : E = 0
    · subst hE
      have hpi2 := hpi rfl
      have hcb2 := hcb rfl
      clear hpn hpi hcb
      by_cases hc : chiE fmtL P.toList V = 0
      · have e1 := hcb2 hc
        rw [if_pos ⟨hc, e1⟩] at hpi2
        have G := Lib.hid (pa_some hpi2)
        rw [hc, e1, show (⟨s.toList.toArray⟩ : ByteArray) = s by rw [toL]] at HC
        have eP : Hid ((⟨P.toList.toArray⟩ : ByteArray) = P) := Lib.hid (by rw [toL])
        clear hcb2 hc e1 hpi2
        go_enter Try.func23, Try.ntmps23
        go_wp2_with (first | (go_at_call 48; ((with_reducible refine (HL.out _).mono ?_); rintro e w' ⟨rfl, rfl⟩)) | (go_at_call 49; ((with_reducible refine (HR.out _).mono ?_); rintro e w' ⟨rfl, rfl⟩)) | (go_at_call 21; ((with_reducible refine (HC.out _).mono ?_); rintro e w' ⟨rfl, g⟩)))
        go_ret3
        exact ⟨by rw [G.out.1, G.out.2.1, G.out.2.2, eP.out]; rfl, g⟩
      · rw [if_neg (fun h => hc h.1)] at hpi2
        have G := Lib.hid (pa_none hpi2)
        have hc2 : (chiE fmtL P.toList V != 0) = true := by simpa using hc
        generalize chiE fmtL P.toList V = CE at *
        generalize chiT fmtL P.toList V = CT at *
        clear hcb2 hc hpi2
        go_enter Try.func23, Try.ntmps23
        go_wp2_with (first | (go_at_call 48; ((with_reducible refine (HL.out _).mono ?_); rintro e w' ⟨rfl, rfl⟩)) | (go_at_call 49; ((with_reducible refine (HR.out _).mono ?_); rintro e w' ⟨rfl, rfl⟩)) | (go_at_call 21; ((with_reducible refine (HC.out _).mono ?_); rintro e w' ⟨rfl, g⟩)))
        go_ret3
        exact ⟨by rw [G.out.1, G.out.2.1, G.out.2.2]; rfl, g⟩
    · have G := Lib.hid (hpn hE)
      have hE2 : (E != 0) = true := by simpa using hE
      clear hpn hpi hcb hE
      go_enter Try.func23, Try.ntmps23
      go_wp2_with (first | (go_at_call 48; ((with_reducible refine (HL.out _).mono ?_); rintro e w' ⟨rfl, rfl⟩)) | (go_at_call 49; ((with_reducible refine (HR.out _).mono ?_); rintro e w' ⟨rfl, rfl⟩)) | (go_at_call 21; ((with_reducible refine (HC.out _).mono ?_); rintro e w' ⟨rfl, g⟩)))
      go_ret3
      exact ⟨by rw [G.out.1, G.out.2.1, G.out.2.2]; rfl, Bel.refl _⟩
end Idn
end Go.Proofs.Ytgchjfdldbadlaa
