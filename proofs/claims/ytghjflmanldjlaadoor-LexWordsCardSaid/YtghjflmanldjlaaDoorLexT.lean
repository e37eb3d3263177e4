/-
  Layer 7, the code: quote, written.
-/
import Derived.Test.YtghjflmanldjlaaDoorLexS
import Derived.Lib.ReplaceLaws
import Derived.Lib.SplitLaws
import Derived.Lib.IndexBytes
namespace Go.Proofs.YtghjflmanldjlaaDoor
open Go.RowKit Go.ChangeShapes Go.WideShapes
namespace Num
set_option maxHeartbeats 1000000 in
theorem format_bel (n : Int) (h1 : -9223372036854775808 ≤ n) (h2 : n ≤ 9223372036854775807) (w : World) :
    Calls Tryd.prog 44 #[.int .i64 n] w fun e w' => e = .returned (.string ⟨(fmtL n).toArray⟩) ∧ Bel w w' := by
  unfold fmtL
  obtain ⟨N, hN⟩ : ∃ N : Nat, abz n = N := Int.eq_ofNat_of_zero_le (by unfold abz; split <;> omega)
  have hNb : N ≤ 9223372036854775808 := by unfold abz at hN; split at hN <;> omega
  rw [hN]
  have e : ((N : Int)).toNat = N := by omega
  rw [e]
  clear e
  have HN := Lib.hid hN
  clear hN
  have k0 := ndF_pos 18 N
  have k1 := ndF_le 18 N
  generalize hk : ndF 18 N = K at *
  have Hk := Lib.hid hk
  clear hk
  have hmk := fun W => run_make_row' (P := Tryd.prog) 63 5 (.int .u8 0) 1 Tryd.underlying63 info8 rfl .i64 .i64 K (by omega) (by omega) W
  go_enter Tryd.func44, Tryd.ntmps44
  go_wp2_with (first | (go_at_call 56; refine (amount_any _ (by omega) (by omega) _).mono ?_; rintro e w' ⟨rfl, rfl⟩; rw [HN.out]) | (go_at_call 57; refine (countDigits_any _ (by omega) _).mono ?_; rintro e w' ⟨rfl, rfl⟩; rw [Hk.out]))
  go_loopw [3, 13] (fun r c wr => ∃ (i m : Nat), i ≤ K ∧ c = .int .i64 (i : Int) ∧ r = .int .u64 (m : Int) ∧ m ≤ 9223372036854775808 ∧ Hid (m = N / 10 ^ i) ∧ wr.rowIs w.heap.size 5 K (rowF K N i) ∧ Bel w wr) (fun _ c _ => K - (intOf c).toNat)
  case atStart =>
    refine ⟨0, N, Nat.zero_le _, rfl, rfl, hNb, Lib.hid (by simp), ?_, (Bel.refl _).alloc _⟩
    exact (World.rowIs_made w (.int .u8 0) K 5).congr fun j hj => by simp [rowF, hj]
  case round =>
    obtain ⟨i, m, hi, rfl, rfl, hm, HM, hrow, hbel⟩ := hrel
    by_cases g : i < K
    · have hcell := hrow.cell (i := K - 1 - i) (by omega)
      have hfree := hrow.frozen (K - 1 - i)
      have HR := Lib.hid hrow
      have hdig := Lib.hid (digs_get K N i g)
      clear hrow
      go_wp2
      go_roundw
      case rel =>
        refine ⟨i + 1, m / 10, by omega, by go_num, by go_num, by omega, Lib.hid (by rw [HM.out, Nat.pow_succ, Nat.div_div_eq_div_mul]), ?_, hbel.setCell (Nat.le_refl _) _⟩
        refine (HR.out.set (K - 1 - i) _).congr fun j hj => ?_
        have hd := hdig.out
        rw [← HM.out] at hd
        unfold rowF
        by_cases e : j = K - 1 - i
        · subst e
          rw [if_pos rfl, if_neg (by omega), hd]
          simp [dgt]; omega
        · rw [if_neg e]
          by_cases e2 : j < K - i
          · rw [if_pos e2, if_pos (by omega)]
          · rw [if_neg e2, if_neg (by omega)]
      case measure => simp [intOf]; omega
    · obtain rfl : i = K := by omega
      have hl := digs_len i N
      have hstr : ∀ W, W = wr → (convert 63 9 (.slice (some ⟨w.heap.size, 0, none⟩) i i)).run Tryd.prog W = .ok (.string ⟨(digs i N).toArray⟩) W := by
        rintro W rfl
        have := run_convert_bytes_back (P := Tryd.prog) W 63 9 5 ⟨w.heap.size, 0, none⟩ i (digs i N) Tryd.underlying63 Tryd.underlying5 Tryd.underlying9 (fun j hj => by
          have hc := hrow.cell (i := j) (by omega)
          have : (⟨w.heap.size, 0, none⟩ : Addr).add j = ⟨w.heap.size, j, none⟩ := by simp [Addr.add]; omega
          rw [this, hc]
          have hj' : j < (digs i N).length := hj
          simp [rowF, List.getD_eq_getElem?_getD, List.getElem?_eq_getElem hj'])
        rw [hl] at this
        exact this
      have hs := hstr wr rfl
      have hlb : (digs i N).length ≤ 19 := by omega
      clear hstr hl hrow
      by_cases hn : n < 0
      · go_wp2
        go_ret
        exact ⟨by simp; exact ByteArray.ext (by simp), hbel⟩
      · go_wp2
        go_ret
        exact ⟨by simp, hbel⟩

end Num
namespace Lex

theorem replaceK_ne {c x : UInt8} (h : x ≠ c) (new : Txt) (k : Nat) (s : Txt) : Lib.replaceK [c] new k (x :: s) = x :: Lib.replaceK [c] new k s := by
  cases k with
  | zero => rfl
  | succ k =>
    have hb : (x == c) = false := by simpa using h
    have e : Lib.index (x :: s) [c] = if Lib.index s [c] == -1 then -1 else Lib.index s [c] + 1 := by
      rw [Lib.index_one, Lib.index_one]
      conv => lhs; unfold Lib.indexByte
      rw [hb]; rfl
    unfold Lib.replaceK
    rw [e]
    by_cases h1 : Lib.index s [c] = -1
    · rw [h1]; rfl
    · have hge := Lib.index_ge s [c]
      obtain ⟨i, hi⟩ : ∃ i : Nat, Lib.index s [c] = i := ⟨(Lib.index s [c]).toNat, by omega⟩
      rw [hi]
      have e1 : (((i : Int) == -1)) = false := by simp
      have e2 : (((i : Int) + 1 == -1)) = false := by simp; omega
      rw [e1]
      simp only [Bool.false_eq_true, if_false, e2]
      rw [show ((i : Int) + 1).toNat = i + 1 by omega, Int.toNat_natCast, List.take_succ_cons, show i + 1 + [c].length = (i + [c].length) + 1 by simp, List.drop_succ_cons]
      rfl
theorem replaceK_eq (c : UInt8) (new : Txt) (k : Nat) (s : Txt) : Lib.replaceK [c] new (k + 1) (c :: s) = new ++ Lib.replaceK [c] new k s := by
  have e : Lib.index (c :: s) [c] = 0 := by
    rw [Lib.index_one]
    unfold Lib.indexByte
    simp
  unfold Lib.replaceK
  rw [e]
  cases k <;> simp [Lib.replaceK]
/-- All of a byte replaced. -/
def rep (c : UInt8) (new : Txt) (s : Txt) : Txt := s.flatMap fun x => if x == c then new else [x]
theorem rep_cons (c : UInt8) (new : Txt) (x : UInt8) (s : Txt) : rep c new (x :: s) = (if x == c then new else [x]) ++ rep c new s := rfl
theorem replaceK_rep (c : UInt8) (new : Txt) : ∀ s : Txt, Lib.replaceK [c] new (s.count c) s = rep c new s
  | [] => rfl
  | x :: s => by
    rw [rep_cons]
    by_cases h : x = c
    · subst h
      rw [List.count_cons_self, replaceK_eq, replaceK_rep x new s]
      simp
    · rw [List.count_cons_of_ne h, replaceK_ne h, replaceK_rep c new s]
      simp [h]
theorem replaceAll_rep (c : UInt8) (new s : Txt) (h : ([c] == new) = false) : Lib.replaceAll s [c] new = rep c new s := by
  unfold Lib.replaceAll Lib.replace Lib.replaceNum
  rw [h, if_pos (Or.inl (by decide)), Lib.count_one, ← replaceK_rep]
  rfl
theorem rep_quo : ∀ s : Txt, rep 34 [92, 34] (rep 92 [92, 92] s) = quo s
  | [] => rfl
  | c :: s => by
    rw [rep_cons, quo_cons]
    have ih := rep_quo s
    by_cases h : c = 92
    · subst h
      show rep 34 [92, 34] (92 :: 92 :: rep 92 [92, 92] s) = _
      rw [rep_cons, rep_cons, ih]; rfl
    · have hb : (c == 92) = false := by simpa using h
      rw [hb]
      show rep 34 [92, 34] (c :: rep 92 [92, 92] s) = _
      rw [rep_cons, ih, Bool.or_false]
      by_cases h2 : c = 34
      · subst h2; rfl
      · have hb2 : (c == 34) = false := by simpa using h2
        rw [hb2]
        rfl
theorem rep_len (c : UInt8) (new : Txt) (h : new.length ≤ 2) (h1 : 1 ≤ new.length) (s : Txt) : (rep c new s).length ≤ s.length * 2 := by
  induction s with
  | nil => exact Nat.le_refl _
  | cons x s ih =>
    rw [rep_cons, List.length_append, List.length_cons]
    by_cases h : (x == c) = true
    · rw [if_pos h]; omega
    · rw [if_neg h, List.length_singleton]; omega
/-- The library's variable holds some integer. -/
def ML (w : World) : Prop := ∃ m, w.cell? ⟨0, 0, none⟩ = some (.int .i64 m)
theorem ML.on {w w' : World} (h : ML w) (b : Bel w w') : ML w' := let ⟨m, e⟩ := h; ⟨m, b.cell e⟩
theorem rep_any (s : ByteArray) (c : UInt8) (new : ByteArray) (hs : s.size ≤ 1000000) (hn : new.size = 2) (w : World) (hm : ML w) :
    Calls Tryd.prog 58 #[.string s, .string ⟨#[c]⟩, .string new] w fun e w' => e = .returned (.string ⟨(rep c new.toList s.toList).toArray⟩) ∧ Bel w w' := by
  obtain ⟨m, hm⟩ := hm
  have hcb : Lib.countB s ⟨#[c]⟩ ≤ s.size := Lib.countB_le ⟨#[c]⟩ (Nat.le_refl 1) s.size s (Nat.le_refl _)
  refine (Tryd.strings_ReplaceAll s ⟨#[c]⟩ new m w (by omega) hm (Nat.le_refl 1) ?_).mono fun e w' ⟨he, hb⟩ => ⟨?_, hb⟩
  · rw [hn]; omega
  · rw [he, show (⟨#[c]⟩ : ByteArray).data.toList = [c] from rfl, replaceAll_rep c _ _ ?_, ← toL, ← toL]
    have hl : new.data.toList.length = 2 := by rw [← toL, toL_len]; exact hn
    cases hx : new.data.toList with
    | nil => rfl
    | cons d q =>
      rw [hx] at hl
      cases q with
      | nil => simp at hl
      | cons d2 q2 => simp
theorem cat_lit (c : UInt8) (S : ByteArray) : (⟨#[c]⟩ : ByteArray) ++ S = ⟨(c :: S.toList).toArray⟩ := by
  apply ByteArray.ext
  rw [toL]
  simp [ByteArray.data_append]
theorem cat_quo (S : ByteArray) (l : Txt) (h : S.toList = l) : ((⟨#[34]⟩ : ByteArray) ++ S) ++ (⟨#[34]⟩ : ByteArray) = ⟨(34 :: (l ++ [34])).toArray⟩ := by
  apply ByteArray.ext
  subst h
  rw [toL]
  simp [ByteArray.data_append]
set_option maxHeartbeats 1000000 in
theorem quote_any (s : ByteArray) (hs : s.size ≤ 1000) (w : World) (hm : ML w) :
    Calls Tryd.prog 45 #[.string s] w fun e w' => e = .returned (.string ⟨(34 :: (quo s.toList ++ [34])).toArray⟩) ∧ Bel w w' := by
  have H1 := Lib.hid (fun w hm => rep_any s 92 ⟨#[92, 92]⟩ (by omega) rfl w hm)
  rw [show (⟨#[92, 92]⟩ : ByteArray).toList = [92, 92] from tl _] at H1
  obtain ⟨S, hS⟩ : ∃ S : ByteArray, ⟨(rep 92 [92, 92] s.toList).toArray⟩ = S := ⟨_, rfl⟩
  have hSl : S.toList = rep 92 [92, 92] s.toList := by rw [← hS]; exact tl _
  have hSs : S.size ≤ 2000 := by have := rep_len 92 [92, 92] (by decide) (by decide) s.toList; rw [← toL_len, hSl]; rw [toL_len] at this; omega
  rw [hS] at H1
  have H2 := Lib.hid (fun w hm => rep_any S 34 ⟨#[92, 34]⟩ (by omega) rfl w hm)
  rw [show (⟨#[92, 34]⟩ : ByteArray).toList = [92, 34] from tl _, hSl, rep_quo] at H2
  obtain ⟨U, hU⟩ : ∃ U : ByteArray, ⟨(quo s.toList).toArray⟩ = U := ⟨_, rfl⟩
  have hUl : U.toList = quo s.toList := by rw [← hU]; exact tl _
  have hUs : U.size ≤ 2000 := by have := quo_len s.toList; rw [← toL_len, hUl]; rw [toL_len] at this; omega
  rw [hU] at H2
  have hF := Lib.hid (cat_quo U _ hUl)
  have HM := Lib.hid hm
  have l1 := size_lit 34
  clear hS hSl hU hUl hm
  go_enter Tryd.func45, Tryd.ntmps45
  go_wp2_with fail
  refine (H1.out _ HM.out).mono ?_
  rintro e w1 ⟨rfl, g1⟩
  have M1 := Lib.hid (HM.out.on g1)
  have G1 := Lib.hid g1
  clear g1
  go_wp2_with fail
  refine (H2.out _ M1.out).mono ?_
  rintro e w2 ⟨rfl, g2⟩
  have G2 := Lib.hid (Bel.trans G1.out g2)
  clear g2
  go_wp2_with fail
  go_ret
  exact ⟨by rw [← hF.out]; rfl, G2.out⟩
/-- A token as a value. -/
def tokV (t : Tk) : Value := .agg #[.int .i64 t.k, .string ⟨t.s.toArray⟩, .int .i64 t.i, .int .i64 t.a]
/-- The integers of a token fit, and its text is a string of memory. -/
def FitT (t : Tk) : Prop := (-9223372036854775808 ≤ t.k ∧ t.k ≤ 9223372036854775807) ∧ (-9223372036854775808 ≤ t.i ∧ t.i ≤ 9223372036854775807) ∧ (-9223372036854775808 ≤ t.a ∧ t.a ≤ 9223372036854775807)
set_option maxHeartbeats 1000000 in
theorem written_any (k i a : Int) (S : ByteArray) (hi : -9223372036854775808 ≤ i ∧ i ≤ 9223372036854775807) (hs : S.size ≤ 1000) (w : World) (hm : ML w) :
    Calls Tryd.prog 26 #[.agg #[.int .i64 k, .string S, .int .i64 i, .int .i64 a]] w fun e w' => e = .returned (.string ⟨(wrt ⟨k, S.toList, i, a⟩).toArray⟩) ∧ Bel w w' := by
  have B1 := Lib.hid (Bel.alloc (Bel.refl w) (.cells #[.int .i64 k, .string S, .int .i64 i, .int .i64 a] 31))
  have M1 := Lib.hid (hm.on B1.out)
  have HF := Lib.hid (Num.format_bel i hi.1 hi.2)
  have HQ := Lib.hid (fun w hm => quote_any S hs w hm)
  have l1 := size_lit 64
  obtain ⟨Z, hZ⟩ : ∃ Z, wrt ⟨k, S.toList, i, a⟩ = Z := ⟨_, rfl⟩
  rw [hZ]
  unfold wrt at hZ
  dsimp only at hZ
  clear hm hi
  by_cases h1 : k = 1
  · subst h1
    rw [if_pos (Or.inl rfl)] at hZ
    have hE : Hid (⟨Z.toArray⟩ = S) := Lib.hid (by rw [← hZ, str_back])
    clear hZ
    go_enter Tryd.func26, Tryd.ntmps26
    go_wp2
    go_ret
    exact ⟨by rw [hE.out]; rfl, B1.out⟩
  by_cases h2 : k = 2
  · subst h2
    rw [if_pos (Or.inr (Or.inl rfl))] at hZ
    have hE : Hid (⟨Z.toArray⟩ = S) := Lib.hid (by rw [← hZ, str_back])
    clear hZ h1
    go_enter Tryd.func26, Tryd.ntmps26
    go_wp2
    go_ret
    exact ⟨by rw [hE.out]; rfl, B1.out⟩
  by_cases h5 : k = 5
  · subst h5
    rw [if_pos (Or.inr (Or.inr rfl))] at hZ
    have hE : Hid (⟨Z.toArray⟩ = S) := Lib.hid (by rw [← hZ, str_back])
    clear hZ h1 h2
    go_enter Tryd.func26, Tryd.ntmps26
    go_wp2
    go_ret
    exact ⟨by rw [hE.out]; rfl, B1.out⟩
  rw [if_neg (by omega)] at hZ
  by_cases h3 : k = 3
  · subst h3
    rw [if_pos rfl] at hZ
    subst hZ
    clear h1 h2 h5
    go_enter Tryd.func26, Tryd.ntmps26
    go_wp2_with fail
    refine (HF.out _).mono ?_
    rintro e w1 ⟨rfl, g1⟩
    have G1 := Lib.hid (Bel.trans B1.out g1)
    clear g1
    go_wp2_with fail
    go_ret
    exact ⟨rfl, G1.out⟩
  rw [if_neg h3] at hZ
  by_cases h4 : k = 4
  · subst h4
    rw [if_pos rfl] at hZ
    subst hZ
    clear h1 h2 h5 h3
    go_enter Tryd.func26, Tryd.ntmps26
    go_wp2_with fail
    refine (HQ.out _ M1.out).mono ?_
    rintro e w1 ⟨rfl, g1⟩
    have G1 := Lib.hid (Bel.trans B1.out g1)
    clear g1
    go_wp2_with fail
    go_ret
    exact ⟨rfl, G1.out⟩
  rw [if_neg h4] at hZ
  by_cases h6 : k = 6
  · subst h6
    rw [if_pos rfl] at hZ
    have hE : Hid ((⟨#[64]⟩ : ByteArray) ++ S = ⟨Z.toArray⟩) := Lib.hid (by rw [← hZ, cat_lit])
    clear hZ h1 h2 h5 h3 h4
    go_enter Tryd.func26, Tryd.ntmps26
    go_wp2
    go_ret
    exact ⟨by rw [← hE.out]; rfl, B1.out⟩
  · rw [if_neg h6] at hZ
    subst hZ
    have e1 : (k == 1) = false := by simpa using h1
    have e2 : (k == 2) = false := by simpa using h2
    have e3 : (k == 3) = false := by simpa using h3
    have e4 : (k == 4) = false := by simpa using h4
    have e5 : (k == 5) = false := by simpa using h5
    have e6 : (k == 6) = false := by simpa using h6
    clear h1 h2 h5 h3 h4 h6
    go_enter Tryd.func26, Tryd.ntmps26
    go_wp2
    go_ret
    exact ⟨rfl, B1.out⟩
end Lex
end Go.Proofs.YtghjflmanldjlaaDoor
